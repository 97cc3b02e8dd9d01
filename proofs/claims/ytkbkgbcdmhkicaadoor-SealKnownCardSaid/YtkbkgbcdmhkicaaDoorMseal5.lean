/- DERIVED. Texts of ours, merged: XHmacKeep XHmacPart XHmacDerive XBase2 XChaSpec XChaQuarter. -/
import Derived.Test.YtkbkgbcdmhkicaaDoorMseal4
import Derived.Lib.ConvBytes
import Derived.Test.YtkbkgbcdmhkicaaDoorMseal1
import Derived.Deep.Draws
import Derived.Test.YtkbkgbcdmhkicaaDoorProg
import Derived.Outline
import Derived.Deep.QuietTactic
import Derived.BigQuiet
import Derived.Deep.WholeRow
/- DERIVED. Appending to a row of the call's own that is used on; hmac.Equal's contracts in worlds that are letters. -/
namespace Go.Proofs.YtkbkgbcdmhkicaaDoor
open Go.RowKit
/-- the first bytes of a slice. -/
theorem byt_take {w : World} {A : Option Addr} {c : Nat} {L : List Int} (h : Byt w A c L) (k : Nat) : Byt w A c (L.take k) :=
  ⟨by rw [List.length_take]; have := h.1; omega, h.2.1, fun hl => by
    rw [List.length_take] at hl
    obtain ⟨g, off, hA, hg, hc⟩ := h.2.2 (by omega)
    refine ⟨g, off, hA, hg, fun j hj => ?_⟩
    rw [List.length_take] at hj
    rw [hc j (by omega)]
    simp only [List.getD_eq_getElem?_getD, List.getElem?_take]
    rw [if_pos (by omega)]⟩
/-- nothing is written. -/
structure Still (w w' : World) : Prop where
  heap : w'.heap = w.heap
  low : Below w.heap.size w w'
theorem Still.drewN (w : World) (q : Nat) : Still w (w.drewN q) := ⟨rfl, ⟨rfl, rfl, rfl, Nat.le_refl _, fun _ _ => rfl⟩⟩
theorem own_still {w w' : World} {base n : Nat} {v : Value} {xs : List Value} (h : w.ownsRow base 5 1 v n xs) (k : Still w w') : w'.ownsRow base 5 1 v n xs := by
  unfold World.ownsRow at h ⊢
  rw [k.heap]; exact h
theorem Byt.still {w w' : World} {A : Option Addr} {c : Nat} {L : List Int} (h : Byt w A c L) (k : Still w w') : Byt w' A c L := h.below k.low (Nat.le_refl _)
theorem equal_yes' (L : List Int) (A A2 : Option Addr) (c c2 n : Nat) (w : World) (hn : L.length = n) (hb : InB L) (hB : Byt w A c L) (hB2 : Byt w A2 c2 L) (hx : n ≤ 9223372036854775807) :
    Calls Tryd.prog 32 #[.slice A n c, .slice A2 n c2] w fun e w' => e = .returned (.bool true) ∧ Still w w' :=
  (equal_yes L A A2 c c2 n w hn hb hB hB2 hx).mono (by rintro e w' ⟨he, q, rfl⟩; exact ⟨he, Still.drewN _ _⟩)
theorem equal_no' (L M : List Int) (A A2 : Option Addr) (c c2 n m : Nat) (w : World) (hn : L.length = n) (hm : M.length = m) (hb : InB L) (hb2 : InB M) (hB : Byt w A c L) (hB2 : Byt w A2 c2 M) (hx : n ≤ 9223372036854775807) (hne : L ≠ M) :
    Calls Tryd.prog 32 #[.slice A n c, .slice A2 m c2] w fun e w' => e = .returned (.bool false) ∧ Still w w' :=
  (equal_no L M A A2 c c2 n m w hn hm hb hb2 hB hB2 hx hne).mono (by rintro e w' ⟨he, q, rfl⟩; exact ⟨he, Still.drewN _ _⟩)
/-- texts of unlike length. -/
theorem equal_len (A A2 : Option Addr) (c c2 n m : Nat) (w : World) (hne : n ≠ m) :
    Calls Tryd.prog 32 #[.slice A n c, .slice A2 m c2] w fun e w' => e = .returned (.bool false) ∧ Still w w' := by
  have h1 : ¬ (n : Int) = m := by omega
  go_enter Tryd.func32, Tryd.ntmps32
  go_wp2
  go_ret
  exact ⟨rfl, Still.drewN _ 0⟩
/-- a row of the call's own reads as its bytes. -/
theorem own_byt {w : World} {base n : Nat} {v : Value} {L : List Int} (h : w.ownsRow base 5 1 v n (vals L)) : ∃ A c, v = .slice A n c ∧ L.length = n ∧ Byt w A c L := by
  have hlen : L.length = n := by have := h.1; rw [vals_length] at this; omega
  rcases h.2 with ⟨rfl, hx⟩ | ⟨g, cap, cur, rfl, _, hh, hcap, _, hs, ht⟩
  · subst hx
    obtain rfl : L = [] := List.eq_nil_of_length_eq_zero hlen
    exact ⟨none, 0, rfl, rfl, Nat.le_refl _, fun _ => rfl, fun h => absurd h (Nat.lt_irrefl 0)⟩
  · refine ⟨_, _, rfl, hlen, by omega, (fun h => by cases h), fun _ => ⟨g, 0, rfl, (Array.getElem?_eq_some_iff.1 hh).1, fun j hj => ?_⟩⟩
    rw [Nat.zero_add, cell_row hh]
    have h2 : cur[j]? = cur.toList[j]? := by simp
    have h3 : (cur.toList.take (n * 1))[j]? = cur.toList[j]? := by rw [List.getElem?_take, if_pos (by omega)]
    rw [h2, ← h3, ht]
    simp [vals, hj]
/-- what is appended to stays as it was. -/
theorem run_append_keeps {w : World} (ty : TypeId) (base : Nat) (v : Value) (n : Nat) (L : List Int) (hown : w.ownsRow base 5 1 v n (vals L)) (ad : Addr) (m c : Nat) (M : List Int) (hm : M.length = m) (hB : Byt w (some ad) c M) (h63 : n + m ≤ 100000) (hbase : base ≤ w.heap.size) :
    ∃ v' w', (lawAnybody.appendS #[24, 24] ty #[v, .slice (some ad) m c]).run Tryd.prog w = .ok v' w' ∧ w'.ownsRow base 5 1 v' (n + m) (vals (L ++ M)) ∧ w'.ownsRow base 5 1 v n (vals L) ∧ (∀ B u, Below B u w → B ≤ base → Below B u w') := by
  obtain ⟨i0, hi0, hz00, hz10, hz20⟩ := info_parts info5
  have hrun : ∀ x, (lawAnybody.appendS #[24, 24] ty x) = Builtin.append_ #[24, 24] ty x := fun x => (lawAnybody.appendS_eq _ _ _).symm
  rw [hrun]
  have hlm : (vals M).length = m * 1 := by rw [vals_length, hm]; omega
  have hnews := hB.cells (fun _ _ => rfl) ad rfl
  rcases hown.2 with ⟨rfl, hx⟩ | ⟨g, cap, cur, rfl, hbg, hh, hcap, hcm, hs, ht⟩
  · obtain ⟨v', w', hr, hown', hgrow, _⟩ := run_append_own (P := Tryd.prog) w base 24 ty 5 i0 (.int .u8 0) 1 1 Tryd.underlying24 hi0 hz00 hz10 hz20 rfl (by decide) _ n (vals L) hown ad m c (vals M) hlm hnews (vals_one _) (by unfold maxLen; omega) (by omega) hbase
    rw [vals_append] at hown'
    exact ⟨v', w', hr, hown', ⟨hown.1, .inl ⟨rfl, hx⟩⟩, fun B u hb hB' => hb.grown hgrow (by omega) (fun k hk => by cases hk)⟩
  · by_cases hroom : n + m ≤ cap
    · have hr := run_append_room (P := Tryd.prog) w 24 ty 5 i0 Tryd.underlying24 hi0 g n cap cur hh ad m c (vals M) (by rw [hlm, hz10]) hnews (vals_one _) hroom (by rw [hlm, hz10, hs]; omega)
      rw [hz10] at hr
      have hlen : (vals L).length = n * 1 := hown.1
      refine ⟨_, _, hr, ⟨by rw [vals_length, List.length_append, ← vals_length L, hlen, ← vals_length M, hlm]; omega, .inr ⟨g, cap, _, rfl, hbg, setRow_heap w g cur _ 5 _ hh, hroom, hcm, ?_, ?_⟩⟩, ⟨hlen, .inr ⟨g, cap, _, rfl, hbg, setRow_heap w g cur _ 5 _ hh, hcap, hcm, ?_, ?_⟩⟩, ?_⟩
      · simp only [List.size_toArray, List.length_append, List.length_take, List.length_drop, Array.length_toList]; omega
      · rw [ht, show vals (L ++ M) = vals L ++ vals M from (vals_append L M).symm]
        have : (n + m) * 1 = (vals L ++ vals M).length := by rw [List.length_append, hlen, hlm]; omega
        rw [this]
        exact List.take_left
      · simp only [List.size_toArray, List.length_append, List.length_take, List.length_drop, Array.length_toList]; omega
      · rw [ht, List.append_assoc, ← hlen]
        exact List.take_left
      · intro B u hb hB'
        exact below_setRow hb (by omega) _
    · obtain ⟨v', w', hr, hown', hgrow⟩ := run_append_arg_grows (P := Tryd.prog) w 24 ty 5 i0 (.int .u8 0) 1 1 Tryd.underlying24 hi0 hz00 hz10 hz20 rfl (by decide) ⟨g, 0, none⟩ n cap (vals L) hown.1 (hown.cells (g := g) rfl) ad m c (vals M) hlm hnews (by omega) (by unfold maxLen; omega) (by omega)
      rw [vals_append] at hown'
      refine ⟨v', w', hr, ?_, ⟨hown.1, .inr ⟨g, cap, cur, rfl, hbg, ?_, hcap, hcm, hs, ht⟩⟩, fun B u hb hB' => hb.grown hgrow (by omega) (fun k hk => by cases hk)⟩
      · refine ⟨hown'.1, hown'.2.imp id ?_⟩
        rintro ⟨g', cap', cur', h1, h2, h3⟩
        exact ⟨g', cap', cur', h1, Nat.le_trans hbase h2, h3⟩
      · rw [hgrow.block g (Array.getElem?_eq_some_iff.1 hh).1 (by simp)]; exact hh
end Go.Proofs.YtkbkgbcdmhkicaaDoor
/- DERIVED. The contracts of hmac.appendPart and of the statements' own piece: a length, four bytes, and the bytes, behind others. -/
namespace Go.Proofs.YtkbkgbcdmhkicaaDoor
open Go.RowKit lawAnybody
/-- a length as four bytes. -/
def lenL (m : Nat) : List Int := [(m : Int) / 16777216 % 256, (m : Int) / 65536 % 256, (m : Int) / 256 % 256, (m : Int) % 256]
def partL (M : List Int) : List Int := lenL M.length ++ M
theorem lenL_in (m : Nat) : InB (lenL m) := by
  intro j
  match j with
  | 0 => simp [lenL]; omega
  | 1 => simp [lenL]; omega
  | 2 => simp [lenL]; omega
  | 3 => simp [lenL]; omega
  | j + 4 => simp [lenL]
theorem partL_in {M : List Int} (h : InB M) : InB (partL M) := (lenL_in _).append h
theorem partL_length (M : List Int) : (partL M).length = 4 + M.length := by simp [partL, lenL]; omega
/-- what such a call leaves. -/
def Behind4 (base n m : Nat) (L M : List Int) (w : World) (e : Ending) (w' : World) : Prop :=
  ∃ v', e = .returned v' ∧ w'.ownsRow base 5 1 v' (n + (4 + m)) (vals (L ++ partL M)) ∧ ∀ B u, Below B u w → B ≤ base → Below B u w'
theorem byt_four (w : World) (a b c d : Int) : Byt (w.alloc (.cells #[.int .u8 a, .int .u8 b, .int .u8 c, .int .u8 d] 5)) (some ⟨w.heap.size, 0, none⟩) 4 [a, b, c, d] := byt_rowF (l := [a, b, c, d]) (fr := (0, 0)) (t := 5) (Go.heap_alloc_new w _) rfl
theorem lenL_small (m : Nat) (h : m ≤ 100000) : lenL m = [(m : Int) / 16777216, (m : Int) / 65536, (m : Int) / 256 % 256, (m : Int) % 256] := by
  unfold lenL
  rw [show (m : Int) / 16777216 % 256 = (m : Int) / 16777216 by omega, show (m : Int) / 65536 % 256 = (m : Int) / 65536 by omega]
theorem byt_len (w : World) (m : Nat) (h : m ≤ 100000) : Byt (w.alloc (.cells #[.int .u8 ((m : Int) / 16777216), .int .u8 ((m : Int) / 65536), .int .u8 ((m : Int) / 256 % 256), .int .u8 ((m : Int) % 256)] 5)) (some ⟨w.heap.size, 0, none⟩) 4 (lenL m) := by
  rw [lenL_small m h]; exact byt_four w _ _ _ _
set_option maxRecDepth 100000 in
set_option maxHeartbeats 1000000 in
theorem part_any (base : Nat) (v : Value) (n : Nat) (L : List Int) (A : Option Addr) (c m : Nat) (M : List Int) (wb w : World) (hown : w.ownsRow base 5 1 v n (vals L)) (hm : M.length = m) (hB : Byt wb A c M) (hwb : Below wb.heap.size wb w) (hbb : wb.heap.size ≤ base) (hs : n + 4 + m ≤ 100000) (hbase : base ≤ w.heap.size) :
    Calls Tryd.prog 34 #[v, .slice A m c] w (Behind4 base n m L M w) := by
  have Ho := Lib.hid hown
  have Hm := Lib.hid hm
  have HB := Lib.hid hB
  have Hwb := Lib.hid hwb
  have hmI : (m : Int) ≤ 100000 := by omega
  have hb4 := byt_len w m (by omega)
  clear hown hm hB hwb
  go_enter Tryd.func34, Tryd.ntmps34
  go_wp2_with (first
    | (at_builtin; refine wpList_append_byt rfl (.tmp 9) (.tmp 21) rfl base v n L rfl (own_below Ho.out ((Below.refl _ _).alloc (Nat.le_refl _) _)) (some ⟨w.heap.size, 0, none⟩) 4 4 (lenL m) rfl rfl hb4 (by omega) (Nat.le_trans hbase (by simp)) ?_; intro v1 w1 hown1 hlow1 _; have Own1 := Lib.hid hown1; have hs1 := (hlow1 base w ((Below.refl _ _).alloc hbase _) (Nat.le_refl _)).size; have Byt1 := Lib.hid (HB.out.below (hlow1 wb.heap.size wb (Hwb.out.alloc Hwb.out.size _) hbb) (Nat.le_refl _)); have Hlow1 := Lib.hid hlow1; clear hown1 hlow1 hb4)
    | (at_builtin; refine wpList_append_byt rfl (.tmp 23) (.tmp 24) rfl base v1 (n + 4) (L ++ lenL m) rfl Own1.out A m c M rfl Hm.out Byt1.out (by omega) (Nat.le_trans hbase hs1) ?_; intro v2 w2 hown2 hlow2 _; have Own2 := Lib.hid hown2; have Hlow2 := Lib.hid hlow2; clear hown2 hlow2))
  go_ret
  refine ⟨v2, rfl, ?_, fun B u hu hBb => Hlow2.out B u (Hlow1.out B u (hu.alloc (Nat.le_trans hBb hbase) _) hBb) hBb⟩
  have h := Own2.out
  rw [List.append_assoc] at h
  rw [show n + (4 + m) = n + 4 + m by omega, partL, Hm.out]
  exact h
end Go.Proofs.YtkbkgbcdmhkicaaDoor
/- DERIVED. The contract of hmac.Derive: a key out of a key. -/
namespace Go.Proofs.YtkbkgbcdmhkicaaDoor
open Go.RowKit lawAnybody
/-- a part: where it lies, its capacity, its bytes. -/
structure Part where
  A : Option Addr
  c : Nat
  M : List Int
def Part.val (p : Part) : Value := .slice p.A p.M.length p.c
def canonL (s : List Int) (ps : List Part) : List Int := partL s ++ ps.flatMap fun p => partL p.M
theorem canonL_snoc (s : List Int) (ps : List Part) (j : Nat) (h : j < ps.length) : canonL s (ps.take (j + 1)) = canonL s (ps.take j) ++ partL ps[j].M := by
  unfold canonL
  rw [List.take_succ_eq_append_getElem h, List.flatMap_append, List.append_assoc]
  simp
theorem canonL_le (s : List Int) (ps : List Part) (j : Nat) : (canonL s (ps.take j)).length ≤ (canonL s ps).length := by
  have : canonL s ps = canonL s (ps.take j) ++ (ps.drop j).flatMap fun p => partL p.M := by
    unfold canonL
    rw [List.append_assoc, ← List.flatMap_append, List.take_append_drop]
  rw [this, List.length_append]
  omega
/-- the parts lie where they should. -/
structure PartsAt (wb : World) (Ap : Option Addr) (ps : List Part) : Prop where
  row : ∀ j (h : j < ps.length), ∃ g off, Ap = some ⟨g, off, none⟩ ∧ g < wb.heap.size ∧ wb.cell? ⟨g, off + j, none⟩ = some ps[j].val
  byt : ∀ j (h : j < ps.length), Byt wb ps[j].A ps[j].c ps[j].M ∧ InB ps[j].M
theorem canonL_in {s : List Int} (hs : InB s) {wb : World} : ∀ {ps : List Part}, (∀ j (h : j < ps.length), Byt wb ps[j].A ps[j].c ps[j].M ∧ InB ps[j].M) → InB (canonL s ps) := by
  intro ps h
  have : ∀ (ps : List Part), (∀ p ∈ ps, InB p.M) → InB (ps.flatMap fun p => partL p.M) := by
    intro ps
    induction ps with
    | nil => intro _ j; simp
    | cons p ps ih =>
      intro hp
      rw [List.flatMap_cons]
      exact (partL_in (hp p (List.mem_cons_self ..))).append (ih fun q hq => hp q (List.mem_cons_of_mem _ hq))
  refine (partL_in hs).append (this ps fun p hp => ?_)
  obtain ⟨j, hj, rfl⟩ := List.getElem_of_mem hp
  exact (h j hj).2
/-- what the loop keeps. -/
def DerI (k s : List Int) (ps : List Part) (m B : Nat) (w : World) (v i : Value) (wr : World) : Prop :=
  ∃ j : Nat, j ≤ m ∧ i = .int .i64 j ∧ Hid (wr.ownsRow B 5 1 v (canonL s (ps.take j)).length (vals (canonL s (ps.take j)))) ∧ Hid (Below w.heap.size w wr) ∧ Hid (wr.heap[w.heap.size]? = some (.cells (u8s k) 23 (0, 0))) ∧ Hid (∃ Z : Array Value, Z.size = 32 ∧ wr.heap[w.heap.size + 1]? = some (.cells Z 23 (0, 0))) ∧ B ≤ wr.heap.size
set_option maxRecDepth 100000 in
set_option maxHeartbeats 1000000 in
theorem derive_any (k : List Int) (s : ByteArray) (Ap : Option Addr) (cp m : Nat) (ps : List Part) (w : World) (hk : k.length = 32) (hb : InB k) (hm : ps.length = m) (hP : PartsAt w Ap ps) (hL : Laid w) (hT : (canonL (bytesOf s) ps).length ≤ 40000) :
    Calls Tryd.prog 19 #[.agg (u8s k), .string s, .slice Ap m cp] w fun e w' => e = .returned (.agg (u8s (hmacL k (canonL (bytesOf s) ps)))) ∧ Below w.heap.size w w' := by
  have hsz := hL.sz
  have h2 := two_new w (.cells (u8s k) 23) (.cells zero32 23)
  have b2 : Below w.heap.size w ((w.alloc (.cells (u8s k) 23)).alloc (.cells zero32 23)) := below_two w _ _
  have HL := Lib.hid hL
  have HP := Lib.hid hP
  have Hk := Lib.hid hk
  have Hb := Lib.hid hb
  have Hm := Lib.hid hm
  have HT := Lib.hid hT
  have hs40 : s.size ≤ 40000 := by
    have h1 := canonL_le (bytesOf s) ps 0
    have h2 : (canonL (bytesOf s) (ps.take 0)).length = 4 + s.size := by simp [canonL, partL_length, bytesOf_length]
    omega
  have hm4 : m ≤ 40000 := by
    have : ∀ ps : List Part, ps.length ≤ (ps.flatMap fun p => partL p.M).length := by
      intro ps
      induction ps with
      | nil => simp
      | cons p ps ih => rw [List.flatMap_cons, List.length_append, partL_length, List.length_cons]; omega
    have h1 := this ps
    have h2 : (canonL (bytesOf s) ps).length = (partL (bytesOf s)).length + (ps.flatMap fun p => partL p.M).length := by simp [canonL]
    omega
  unfold zero32 at h2 b2
  have H2 := Lib.hid h2
  have B2 := Lib.hid b2
  clear hL hP hk hb hm hT h2 b2
  go_enter Tryd.func19, Tryd.ntmps19
  go_upto_region 1 with fail
  have h1 := H2.out.1
  have hz := H2.out.2
  have low := B2.out
  have hs0 : w.heap.size + 2 ≤ ((w.alloc (.cells (u8s k) 23)).alloc (.cells #[.int .u8 0, .int .u8 0, .int .u8 0, .int .u8 0, .int .u8 0, .int .u8 0, .int .u8 0, .int .u8 0, .int .u8 0, .int .u8 0, .int .u8 0, .int .u8 0, .int .u8 0, .int .u8 0, .int .u8 0, .int .u8 0, .int .u8 0, .int .u8 0, .int .u8 0, .int .u8 0, .int .u8 0, .int .u8 0, .int .u8 0, .int .u8 0, .int .u8 0, .int .u8 0, .int .u8 0, .int .u8 0, .int .u8 0, .int .u8 0, .int .u8 0, .int .u8 0] 23)).heap.size := by simp
  clear H2 B2
  generalize World.alloc _ _ = w0 at h1 hz low hs0 ⊢
  have kc := Lib.run_convert_string_bytes (P := Tryd.prog) w0 9 24 5 s Tryd.underlying9 Tryd.underlying24 Tryd.underlying5
  obtain ⟨c0, hc0⟩ : ∃ c, c = grownCap w0 s.size 0 5 := ⟨_, rfl⟩
  have hbs := byt_string w0 s
  have low0 := below_string w0 s
  rw [← hc0] at kc hbs
  obtain ⟨w1, hw1⟩ : ∃ w1, w1 = Lib.bytesWorld w0 5 s := ⟨_, rfl⟩
  rw [← hw1] at kc hbs low0
  have Hbs := Lib.hid hbs
  have Low1 := Lib.hid (low.trans (low0.mono low.size))
  have R1 := Lib.hid ((low0.block _ (by omega)).trans h1)
  have Z1 := Lib.hid ((low0.block _ (by omega)).trans hz)
  have hs1 : w.heap.size + 2 ≤ w1.heap.size := by have := low0.size; omega
  have hmI : (m : Int) ≤ 40000 := by omega
  clear hc0 hw1 hbs low0 h1 hz low
  go_upto_region 2 with (go_at_call 34; refine (part_any w1.heap.size (.slice none 0 0) 0 [] (some ⟨w0.heap.size, 0, none⟩) c0 s.size (bytesOf s) w1 w1 (World.ownsRow_nil w1 _ 5 1) (bytesOf_length s) Hbs.out (Below.refl _ _) (Nat.le_refl _) (by omega) (Nat.le_refl _)).mono ?_; rintro e w2 ⟨v2, rfl, own2, hlow2⟩; have Low2 := Lib.hid (hlow2 _ _ Low1.out (by omega)); have R2 := Lib.hid (((hlow2 _ _ (Below.refl w1.heap.size w1) (Nat.le_refl _)).block _ (by omega)).trans R1.out); have Z2 := Lib.hid (((hlow2 _ _ (Below.refl w1.heap.size w1) (Nat.le_refl _)).block _ (by omega)).trans Z1.out); have hs2 := (hlow2 _ _ (Below.refl w1.heap.size w1) (Nat.le_refl _)).size; have Own2 := Lib.hid own2; clear own2 hlow2)
  go_wp2
  go_loopw [7, 15] (fun v i wr => DerI k (bytesOf s) ps m w1.heap.size w v i wr) (fun _ i _ => m - (intOf i).toNat)
  case atStart => exact ⟨0, Nat.zero_le _, rfl, by have h := Own2.out; show World.ownsRow _ _ _ _ _ _ _; rw [show canonL (bytesOf s) (ps.take 0) = [] ++ partL (bytesOf s) by simp [canonL], List.nil_append, partL_length, bytesOf_length, ← Nat.zero_add (4 + s.size)]; exact h, Low2, R2, ⟨_, rfl, Z2.out⟩, hs2⟩
  case round =>
    obtain ⟨j, hj, rfl, own, low, hkr, hzr, hBr⟩ := hrel
    clear Own2 Low2 R2 Z2 hs2 kc
    by_cases hlt : j < m
    · have hltp : j < ps.length := by have := Hm.out; omega
      obtain ⟨g, off, rfl, hg, hcell⟩ := HP.out.row j hltp
      obtain ⟨hpb, hpi⟩ := HP.out.byt j hltp
      have hsn := canonL_snoc (bytesOf s) ps j hltp
      have hle := canonL_le (bytesOf s) ps (j + 1)
      obtain ⟨p, hp⟩ : ∃ p, p = ps[j] := ⟨_, rfl⟩
      rw [← hp] at hcell hpb hpi hsn
      obtain ⟨pA, pc, pM⟩ := p
      have cc : wr.cell? ⟨g, off + j, none⟩ = some (.slice pA pM.length pc) := (low.out.cell (p := ⟨g, off + j, none⟩) hg).trans hcell
      obtain ⟨C, hC⟩ : ∃ C, C = canonL (bytesOf s) (ps.take j) := ⟨_, rfl⟩
      have own' := own.out
      rw [← hC] at own' hsn
      have hbd : C.length + (4 + pM.length) ≤ 40000 := by
        have h1 : (canonL (bytesOf s) (ps.take (j + 1))).length = C.length + (4 + pM.length) := by rw [hsn, List.length_append, partL_length]
        have := HT.out
        omega
      have Own' := Lib.hid own'
      have Hpb := Lib.hid hpb
      have Hsn := Lib.hid hsn
      have hltI : (j : Int) < m := by omega
      clear own own' hcell hpb hpi hp hC hsn hle
      go_wp2_with (go_at_call 34; refine (part_any w1.heap.size _ C.length C pA pc pM.length pM w wr Own'.out rfl Hpb.out low.out (by omega) (by omega) hBr).mono ?_; rintro e w3 ⟨v3, rfl, own3, hlow3⟩; have b3 := hlow3 _ _ (Below.refl w1.heap.size wr) (Nat.le_refl _); have Low3 := Lib.hid (hlow3 _ _ low.out (by omega)); have K3 := Lib.hid ((b3.block _ (by omega)).trans hkr.out); have Z3 : Hid (∃ Z : Array Value, Z.size = 32 ∧ w3.heap[w.heap.size + 1]? = some (.cells Z 23 (0, 0))) := (by obtain ⟨Z, hZ, hz⟩ := hzr.out; exact ⟨Z, hZ, (b3.block _ (by omega)).trans hz⟩); have hs3 := b3.size; have Own3 := Lib.hid own3; clear own3 hlow3 b3)
      go_roundw
      case rel => exact ⟨j + 1, by omega, by go_num, by have h := Own3.out; show World.ownsRow _ _ _ _ _ _ _; rw [Hsn.out, List.length_append, partL_length]; exact h, Low3, K3, Z3, by omega⟩
      case measure => simp [intOf]; omega
    · obtain rfl : j = m := by omega
      have own' := own.out
      rw [List.take_of_length_le (by rw [Hm.out]; exact Nat.le_refl _)] at own'
      obtain ⟨At, ct, rfl, _, hbt⟩ := own_byt own'
      obtain ⟨T, hTt⟩ : ∃ T, T = canonL (bytesOf s) ps := ⟨_, rfl⟩
      obtain ⟨Z, hZ, hz⟩ := hzr.out
      have hTin : InB T := by rw [hTt]; exact canonL_in (bytesOf_in s) HP.out.byt
      have hTl : T.length ≤ 40000 := by rw [hTt]; exact HT.out
      rw [← hTt] at hbt ⊢
      have HTi := Lib.hid hTin
      have Hbt := Lib.hid hbt
      have Hz := Lib.hid hz
      have HZ := Lib.hid hZ
      obtain ⟨S, hS⟩ : ∃ S, S = hmacL k T := ⟨_, rfl⟩
      have HS := Lib.hid hS
      have H35 : Hid ((Tryd.prog.info? 23).map (·.size) = some (u8s S).size) := by show _ = _; rw [u8s_size, hS, hmacL_length]; exact info35
      have HTt := Lib.hid hTt
      clear own own' hbt hz hZ hTin hzr hS hTt
      go_wp2_with (first
        | (go_at_call 21; refine (hmac_any k T (some ⟨w.heap.size, 0, none⟩) At 32 32 ct T.length wr Hk.out rfl Hb.out HTi.out (byt_rowT hkr.out Hk.out) Hbt.out (HL.out.below low.out hsz) (by omega) (by omega)).mono ?_; rintro e w4 ⟨rfl, b4⟩; rw [← HS.out]; have Z4 := Lib.hid ((b4.block _ (by omega)).trans Hz.out); have Low4 := Lib.hid (low.out.trans (b4.mono low.out.size)); clear b4)
        | (refine wpList_store_row rfl 23 (.tmp 6) (.tmp 25) rfl (w.heap.size + 1) (u8s S) (by rfl) (by rfl) 23 _ Z4.out H35.out (by rw [HZ.out, u8s_size, HS.out, hmacL_length]) (u8s_one _) ?_))
      exact bodyPost_ret (v := .agg (u8s S)) (results_cell_row rfl _ _ (w.heap.size + 1) 23 _ (0, 0) _ rfl (setRow_heap w4 _ _ _ _ _ Z4.out) Tryd.underlying23 rfl H35.out) rfl ⟨by rw [HS.out, HTt.out], below_setRow Low4.out (by omega) _⟩
end Go.Proofs.YtkbkgbcdmhkicaaDoor
/- DERIVED. More words on rows in memory; no program. -/
namespace Go.Proofs.YtkbkgbcdmhkicaaDoor
open Go.RowKit
/-- a block that was new ahead of a call is there behind it. -/
theorem kept_new {w w1 : World} {C : Array Value} {T : Nat} (h : Below (w.alloc (.cells C T)).heap.size (w.alloc (.cells C T)) w1) : w.heap.size < w1.heap.size ∧ w1.heap[w.heap.size]? = some (.cells C T (0, 0)) := by
  have hs : w.heap.size < (w.alloc (.cells C T)).heap.size := by rw [World.size_alloc]; omega
  exact ⟨Nat.lt_of_lt_of_le hs h.size, (h.block _ hs).trans (Go.heap_alloc_new _ _)⟩
/-- four cells of a block. -/
theorem cells4 {w : World} {g T : Nat} {a b c d : Value} {fr : Nat × Nat} (h : w.heap[g]? = some (.cells #[a, b, c, d] T fr)) :
    w.cell? ⟨g, 0, none⟩ = some a ∧ w.cell? ⟨g, 1, none⟩ = some b ∧ w.cell? ⟨g, 2, none⟩ = some c ∧ w.cell? ⟨g, 3, none⟩ = some d :=
  ⟨cell_row h 0, cell_row h 1, cell_row h 2, cell_row h 3⟩
theorem u32s_set (l : List Int) (k : Nat) (v : Int) : (u32s l).setIfInBounds k (.int .u32 v) = u32s (l.set k v) := by
  simp [u32s, List.map_set]
theorem u8s_set (l : List Int) (k : Nat) (v : Int) : (u8s l).setIfInBounds k (.int .u8 v) = u8s (l.set k v) := by
  simp [u8s, List.map_set]
/-- a row of words, one word written. -/
theorem row32_set {w : World} {g T : Nat} {l : List Int} (h : w.heap[g]? = some (.cells (u32s l) T (0, 0))) (k : Nat) (v : Int) : (w.setCell ⟨g, k, none⟩ (.int .u32 v)).heap[g]? = some (.cells (u32s (l.set k v)) T (0, 0)) := by
  rw [← u32s_set]; exact heap_setCell_same _ _ _ _ _ _ h
theorem row8_set {w : World} {g T : Nat} {l : List Int} (h : w.heap[g]? = some (.cells (u8s l) T (0, 0))) (k : Nat) (v : Int) : (w.setCell ⟨g, k, none⟩ (.int .u8 v)).heap[g]? = some (.cells (u8s (l.set k v)) T (0, 0)) := by
  rw [← u8s_set]; exact heap_setCell_same _ _ _ _ _ _ h
theorem row32_cell {w : World} {g T : Nat} {l : List Int} {fr : Nat × Nat} (h : w.heap[g]? = some (.cells (u32s l) T fr)) (k : Nat) (hk : k < l.length) : w.cell? ⟨g, k, none⟩ = some (.int .u32 (l.getD k 0)) := by
  rw [cell_row h, u32s_get l k hk]
theorem row8_cell {w : World} {g T : Nat} {l : List Int} {fr : Nat × Nat} (h : w.heap[g]? = some (.cells (u8s l) T fr)) (k : Nat) (hk : k < l.length) : w.cell? ⟨g, k, none⟩ = some (.int .u8 (l.getD k 0)) := by
  rw [cell_row h, u8s_get l k hk]
theorem four_new (w : World) (A B C D : Obj) : ((((w.alloc A).alloc B).alloc C).alloc D).heap[w.heap.size]? = some A ∧ ((((w.alloc A).alloc B).alloc C).alloc D).heap[w.heap.size + 1]? = some B ∧ ((((w.alloc A).alloc B).alloc C).alloc D).heap[w.heap.size + 1 + 1]? = some C ∧ ((((w.alloc A).alloc B).alloc C).alloc D).heap[w.heap.size + 1 + 1 + 1]? = some D := by
  have h := three_new w A B C
  refine ⟨?_, ?_, ?_, ?_⟩
  · exact (Go.heap_alloc_old _ D (by simp; omega)).trans h.1
  · exact (Go.heap_alloc_old _ D (by simp)).trans h.2.1
  · exact (Go.heap_alloc_old _ D (by simp)).trans h.2.2
  · have := heap_alloc_new (((w.alloc A).alloc B).alloc C) D
    simpa using this
theorem below4 (w : World) (A B C D : Obj) : Below w.heap.size w ((((w.alloc A).alloc B).alloc C).alloc D) := (below3 w A B C).alloc (by simp; omega) _
theorem Below.drewN {B : Nat} {w w' : World} (h : Below B w w') (n : Nat) : Below B w (w'.drewN n) := ⟨h.os, h.tape, h.output, h.size, h.block⟩
end Go.Proofs.YtkbkgbcdmhkicaaDoor
/- DERIVED. PLAIN MATHEMATICS: the parts of ChaCha20 on integers, in the words in which the walks leave them. No program. -/
namespace Go.Proofs.YtkbkgbcdmhkicaaDoor.Cha
/-- x, turned left by n places. -/
def rotl (x : Int) (n : Nat) : Int := bits .or .u32 (x * 2 ^ n % 4294967296) (x / 2 ^ (32 - n))
/-- x, turned right by n places. -/
def turnr (x : Int) (n : Nat) : Int := bits .or .u32 (x / 2 ^ n) (x * 2 ^ (32 - n) % 4294967296)
def xo (a b : Int) : Int := bits .xor .u32 a b
/-- a word of 32 bits. -/
def Wd (x : Int) : Prop := 0 ≤ x ∧ x < 4294967296
/-- the parts of a quarter round. -/
def qa1 (a b : Int) : Int := (a + b) % 4294967296
def qd1 (a b d : Int) : Int := rotl (xo d (qa1 a b)) 16
def qc1 (a b c d : Int) : Int := (c + qd1 a b d) % 4294967296
def qb1 (a b c d : Int) : Int := rotl (xo b (qc1 a b c d)) 12
def qa2 (a b c d : Int) : Int := (a + b + qb1 a b c d) % 4294967296
def qd2 (a b c d : Int) : Int := rotl (xo (qd1 a b d) (qa2 a b c d)) 8
def qc2 (a b c d : Int) : Int := (c + qd1 a b d + qd2 a b c d) % 4294967296
def qb2 (a b c d : Int) : Int := rotl (xo (qb1 a b c d) (qc2 a b c d)) 7
theorem wd_xo {a b : Int} (ha : Wd a) (hb : Wd b) : Wd (xo a b) := by
  unfold xo
  rw [u32_xor a b ha.1 ha.2 hb.1 hb.2]
  have h1 := ha.1; have h2 := ha.2; have h3 := hb.1; have h4 := hb.2
  have : a.toNat ^^^ b.toNat < 2 ^ 32 := Nat.xor_lt_two_pow (by omega) (by omega)
  exact ⟨by omega, by omega⟩
theorem xo_back {a b : Int} (ha : Wd a) (hb : Wd b) : xo (xo a b) b = a := by
  have hx := wd_xo ha hb
  unfold xo at *
  rw [u32_xor a b ha.1 ha.2 hb.1 hb.2] at *
  rw [u32_xor _ b hx.1 hx.2 hb.1 hb.2]
  have h1 := ha.1
  rw [Int.toNat_natCast, Nat.xor_assoc, Nat.xor_self, Nat.xor_zero]
  omega
/-- what a turn to the left is, as a sum. -/
theorem rotl_sum {x : Int} (n : Nat) (hi lo : Nat) (e1 : (x * 2 ^ n % 4294967296).toNat = hi) (e2 : (x / 2 ^ (32 - n)).toNat = lo) (b1 : 0 ≤ x * 2 ^ n % 4294967296) (b2 : x * 2 ^ n % 4294967296 < 4294967296) (b3 : 0 ≤ x / 2 ^ (32 - n)) (b4 : x / 2 ^ (32 - n) < 4294967296) (h1 : hi % 2 ^ n = 0) (h2 : lo < 2 ^ n) : rotl x n = ((hi + lo : Nat) : Int) := by
  unfold rotl
  rw [u32_or _ _ b1 b2 b3 b4, e1, e2, nat_join n hi lo h1 h2]
theorem turnr_sum {y : Int} (n : Nat) (hi lo : Nat) (e1 : (y * 2 ^ (32 - n) % 4294967296).toNat = hi) (e2 : (y / 2 ^ n).toNat = lo) (b1 : 0 ≤ y * 2 ^ (32 - n) % 4294967296) (b2 : y * 2 ^ (32 - n) % 4294967296 < 4294967296) (b3 : 0 ≤ y / 2 ^ n) (b4 : y / 2 ^ n < 4294967296) (h1 : hi % 2 ^ (32 - n) = 0) (h2 : lo < 2 ^ (32 - n)) : turnr y n = ((hi + lo : Nat) : Int) := by
  unfold turnr
  rw [u32_or _ _ b3 b4 b1 b2, e1, e2, Nat.or_comm, nat_join (32 - n) hi lo h1 h2]
theorem rotl16 {x : Int} (hx : Wd x) : rotl x 16 = x * 65536 % 4294967296 + x / 65536 := by
  have h1 := hx.1; have h2 := hx.2
  rw [rotl_sum 16 _ _ rfl rfl (by omega) (by omega) (by omega) (by omega) (by omega) (by omega)]; omega
theorem rotl12 {x : Int} (hx : Wd x) : rotl x 12 = x * 4096 % 4294967296 + x / 1048576 := by
  have h1 := hx.1; have h2 := hx.2
  rw [rotl_sum 12 _ _ rfl rfl (by omega) (by omega) (by omega) (by omega) (by omega) (by omega)]; omega
theorem rotl8 {x : Int} (hx : Wd x) : rotl x 8 = x * 256 % 4294967296 + x / 16777216 := by
  have h1 := hx.1; have h2 := hx.2
  rw [rotl_sum 8 _ _ rfl rfl (by omega) (by omega) (by omega) (by omega) (by omega) (by omega)]; omega
theorem rotl7 {x : Int} (hx : Wd x) : rotl x 7 = x * 128 % 4294967296 + x / 33554432 := by
  have h1 := hx.1; have h2 := hx.2
  rw [rotl_sum 7 _ _ rfl rfl (by omega) (by omega) (by omega) (by omega) (by omega) (by omega)]; omega
theorem wd16 {x : Int} (hx : Wd x) : Wd (rotl x 16) := by rw [rotl16 hx]; have h1 := hx.1; have h2 := hx.2; exact ⟨by omega, by omega⟩
theorem wd12 {x : Int} (hx : Wd x) : Wd (rotl x 12) := by rw [rotl12 hx]; have h1 := hx.1; have h2 := hx.2; exact ⟨by omega, by omega⟩
theorem wd8 {x : Int} (hx : Wd x) : Wd (rotl x 8) := by rw [rotl8 hx]; have h1 := hx.1; have h2 := hx.2; exact ⟨by omega, by omega⟩
theorem wd7 {x : Int} (hx : Wd x) : Wd (rotl x 7) := by rw [rotl7 hx]; have h1 := hx.1; have h2 := hx.2; exact ⟨by omega, by omega⟩
theorem back16 {x : Int} (hx : Wd x) : turnr (rotl x 16) 16 = x := by
  have hy := wd16 hx; have he := rotl16 hx
  generalize rotl x 16 = y at hy he
  have h1 := hx.1; have h2 := hx.2; have h3 := hy.1; have h4 := hy.2
  obtain ⟨p, hp⟩ : ∃ p, p = x % 65536 := ⟨_, rfl⟩
  obtain ⟨q, hq⟩ : ∃ q, q = x / 65536 := ⟨_, rfl⟩
  have e0 : x * 65536 % 4294967296 = p * 65536 := by omega
  have hx2 : x = 65536 * q + p := by omega
  have hpb : 0 ≤ p ∧ p < 65536 := by omega
  have hqb : 0 ≤ q ∧ q < 65536 := by omega
  have hy2 : y = 65536 * p + q := by omega
  clear he e0 h1 h2 hp hq
  have e1 : y / 65536 = p := by omega
  have e2 : y * 65536 % 4294967296 = 65536 * q := by omega
  rw [turnr_sum 16 (65536 * q).toNat p.toNat (by rw [← e2]; rfl) (by rw [← e1]; rfl) (by omega) (by omega) (by omega) (by omega) (by omega) (by omega)]
  omega
theorem back12 {x : Int} (hx : Wd x) : turnr (rotl x 12) 12 = x := by
  have hy := wd12 hx; have he := rotl12 hx
  generalize rotl x 12 = y at hy he
  have h1 := hx.1; have h2 := hx.2; have h3 := hy.1; have h4 := hy.2
  obtain ⟨p, hp⟩ : ∃ p, p = x % 1048576 := ⟨_, rfl⟩
  obtain ⟨q, hq⟩ : ∃ q, q = x / 1048576 := ⟨_, rfl⟩
  have e0 : x * 4096 % 4294967296 = p * 4096 := by omega
  have hx2 : x = 1048576 * q + p := by omega
  have hpb : 0 ≤ p ∧ p < 1048576 := by omega
  have hqb : 0 ≤ q ∧ q < 4096 := by omega
  have hy2 : y = 4096 * p + q := by omega
  clear he e0 h1 h2 hp hq
  have e1 : y / 4096 = p := by omega
  have e2 : y * 1048576 % 4294967296 = 1048576 * q := by omega
  rw [turnr_sum 12 (1048576 * q).toNat p.toNat (by rw [← e2]; rfl) (by rw [← e1]; rfl) (by omega) (by omega) (by omega) (by omega) (by omega) (by omega)]
  omega
theorem back8 {x : Int} (hx : Wd x) : turnr (rotl x 8) 8 = x := by
  have hy := wd8 hx; have he := rotl8 hx
  generalize rotl x 8 = y at hy he
  have h1 := hx.1; have h2 := hx.2; have h3 := hy.1; have h4 := hy.2
  obtain ⟨p, hp⟩ : ∃ p, p = x % 16777216 := ⟨_, rfl⟩
  obtain ⟨q, hq⟩ : ∃ q, q = x / 16777216 := ⟨_, rfl⟩
  have e0 : x * 256 % 4294967296 = p * 256 := by omega
  have hx2 : x = 16777216 * q + p := by omega
  have hpb : 0 ≤ p ∧ p < 16777216 := by omega
  have hqb : 0 ≤ q ∧ q < 256 := by omega
  have hy2 : y = 256 * p + q := by omega
  clear he e0 h1 h2 hp hq
  have e1 : y / 256 = p := by omega
  have e2 : y * 16777216 % 4294967296 = 16777216 * q := by omega
  rw [turnr_sum 8 (16777216 * q).toNat p.toNat (by rw [← e2]; rfl) (by rw [← e1]; rfl) (by omega) (by omega) (by omega) (by omega) (by omega) (by omega)]
  omega
theorem back7 {x : Int} (hx : Wd x) : turnr (rotl x 7) 7 = x := by
  have hy := wd7 hx; have he := rotl7 hx
  generalize rotl x 7 = y at hy he
  have h1 := hx.1; have h2 := hx.2; have h3 := hy.1; have h4 := hy.2
  obtain ⟨p, hp⟩ : ∃ p, p = x % 33554432 := ⟨_, rfl⟩
  obtain ⟨q, hq⟩ : ∃ q, q = x / 33554432 := ⟨_, rfl⟩
  have e0 : x * 128 % 4294967296 = p * 128 := by omega
  have hx2 : x = 33554432 * q + p := by omega
  have hpb : 0 ≤ p ∧ p < 33554432 := by omega
  have hqb : 0 ≤ q ∧ q < 128 := by omega
  have hy2 : y = 128 * p + q := by omega
  clear he e0 h1 h2 hp hq
  have e1 : y / 128 = p := by omega
  have e2 : y * 33554432 % 4294967296 = 33554432 * q := by omega
  rw [turnr_sum 7 (33554432 * q).toNat p.toNat (by rw [← e2]; rfl) (by rw [← e1]; rfl) (by omega) (by omega) (by omega) (by omega) (by omega) (by omega)]
  omega
theorem wd_mod (x : Int) : Wd (x % 4294967296) := ⟨by omega, by omega⟩
section
variable {a b c d : Int} (ha : Wd a) (hb : Wd b) (hc : Wd c) (hd : Wd d)
include hd in
theorem wd_qd1 : Wd (qd1 a b d) := wd16 (wd_xo hd (wd_mod _))
include hb in
theorem wd_qb1 : Wd (qb1 a b c d) := wd12 (wd_xo hb (wd_mod _))
include hd in
theorem wd_qd2 : Wd (qd2 a b c d) := wd8 (wd_xo (wd_qd1 hd) (wd_mod _))
include hb in
theorem wd_qb2 : Wd (qb2 a b c d) := wd7 (wd_xo (wd_qb1 hb) (wd_mod _))
theorem wd_qa2 : Wd (qa2 a b c d) := wd_mod _
theorem wd_qa1 : Wd (qa1 a b) := wd_mod _
theorem wd_qc1 : Wd (qc1 a b c d) := wd_mod _
theorem wd_qc2 : Wd (qc2 a b c d) := wd_mod _
include hb in
theorem un_b1 : xo (turnr (qb2 a b c d) 7) (qc2 a b c d) = qb1 a b c d := by
  unfold qb2; rw [back7 (wd_xo (wd_qb1 hb) wd_qc2), xo_back (wd_qb1 hb) wd_qc2]
theorem un_c1 : (qc2 a b c d - qd2 a b c d) % 4294967296 = qc1 a b c d := by
  unfold qc2 qc1; omega
include hd in
theorem un_d1 : xo (turnr (qd2 a b c d) 8) (qa2 a b c d) = qd1 a b d := by
  unfold qd2; rw [back8 (wd_xo (wd_qd1 hd) wd_qa2), xo_back (wd_qd1 hd) wd_qa2]
theorem un_a1 : (qa2 a b c d - qb1 a b c d) % 4294967296 = qa1 a b := by
  unfold qa2 qa1; omega
include hb in
theorem un_b : xo (turnr (qb1 a b c d) 12) (qc1 a b c d) = b := by
  unfold qb1; rw [back12 (wd_xo hb wd_qc1), xo_back hb wd_qc1]
include hc in
theorem un_c : (qc1 a b c d - qd1 a b d) % 4294967296 = c := by
  have h1 := hc.1; have h2 := hc.2
  unfold qc1; omega
include hd in
theorem un_d : xo (turnr (qd1 a b d) 16) (qa1 a b) = d := by
  unfold qd1; rw [back16 (wd_xo hd wd_qa1), xo_back hd wd_qa1]
include ha in
theorem un_a : (qa1 a b - b) % 4294967296 = a := by
  have h1 := ha.1; have h2 := ha.2
  unfold qa1; omega
end
attribute [irreducible] rotl turnr
/-- the quarter round of four words, as a list. -/
def quarterL (l : List Int) : List Int :=
  let a := l.getD 0 0; let b := l.getD 1 0; let c := l.getD 2 0; let d := l.getD 3 0
  [qa2 a b c d, qb2 a b c d, qc2 a b c d, qd2 a b c d]
/-- the indices of a double round's quarter rounds: as the row's list has them. -/
def QN : List Nat := [0, 4, 8, 12, 1, 5, 9, 13, 2, 6, 10, 14, 3, 7, 11, 15, 0, 5, 10, 15, 1, 6, 11, 12, 2, 7, 8, 13, 3, 4, 9, 14]
def qn (k j : Nat) : Nat := QN.getD (4 * k + j) 0
theorem qn_lt (k j : Nat) : qn k j < 16 := by
  have h : ∀ x ∈ QN, x < 16 := by decide
  unfold qn
  by_cases e : 4 * k + j < QN.length
  · rw [List.getD_eq_getElem?_getD, List.getElem?_eq_getElem e]; exact h _ (List.getElem_mem e)
  · rw [List.getD_eq_getElem?_getD, List.getElem?_eq_none (by omega)]; decide
/-- a quarter round of four of a state's words. -/
def qstep (s : List Int) (a b c d : Nat) : List Int :=
  let t := quarterL [s.getD a 0, s.getD b 0, s.getD c 0, s.getD d 0]
  (((s.set a (t.getD 0 0)).set b (t.getD 1 0)).set c (t.getD 2 0)).set d (t.getD 3 0)
theorem qstep_length (s : List Int) (a b c d : Nat) : (qstep s a b c d).length = s.length := by simp [qstep]
/-- the first k quarter rounds of a double round. -/
def dr (s : List Int) : Nat → List Int
  | 0 => s
  | k + 1 => qstep (dr s k) (qn k 0) (qn k 1) (qn k 2) (qn k 3)
theorem dr_length (s : List Int) (k : Nat) : (dr s k).length = s.length := by
  induction k with
  | zero => rfl
  | succ k ih => rw [dr, qstep_length, ih]
/-- n double rounds. -/
def drs (s : List Int) : Nat → List Int
  | 0 => s
  | n + 1 => dr (drs s n) 8
theorem drs_length (s : List Int) (k : Nat) : (drs s k).length = s.length := by
  induction k with
  | zero => rfl
  | succ k ih => rw [drs, dr_length, ih]
/-- four bytes as a word, the lowest first. -/
def word4 (a b c d : Int) : Int := bits .or .u32 (bits .or .u32 (bits .or .u32 a (b * 256)) (c * 65536)) (d * 16777216)
def wordAt (l : List Int) (k : Nat) : Int := word4 (l.getD (4 * k) 0) (l.getD (4 * k + 1) 0) (l.getD (4 * k + 2) 0) (l.getD (4 * k + 3) 0)
/-- the state, the first k words of the key being in; then the first k of the nonce. -/
def stK (K : List Int) (c : Int) : Nat → List Int
  | 0 => [1634760805, 857760878, 2036477234, 1797285236, 0, 0, 0, 0, 0, 0, 0, 0, c, 0, 0, 0]
  | k + 1 => (stK K c k).set (4 + k) (wordAt K k)
def stN (K : List Int) (c : Int) (N : List Int) : Nat → List Int
  | 0 => stK K c 8
  | k + 1 => (stN K c N k).set (13 + k) (wordAt N k)
/-- the state of a key, a counter and a nonce. -/
def stL (K : List Int) (c : Int) (N : List Int) : List Int := stN K c N 3
theorem stK_length (K : List Int) (c : Int) (k : Nat) : (stK K c k).length = 16 := by
  induction k with
  | zero => rfl
  | succ k ih => simp [stK, ih]
theorem stN_length (K : List Int) (c : Int) (N : List Int) (k : Nat) : (stN K c N k).length = 16 := by
  induction k with
  | zero => exact stK_length _ _ _
  | succ k ih => simp [stN, ih]
theorem stL_length (K : List Int) (c : Int) (N : List Int) : (stL K c N).length = 16 := stN_length _ _ _ _
/-- byte j of a block: of the state m that comes out and the one that it began with. -/
def outF (m s : List Int) (j : Nat) : Int := (m.getD (j / 4) 0 + s.getD (j / 4) 0) % 4294967296 / 256 ^ (j % 4) % 256
def outL (m s : List Int) : List Int := (List.range 64).map (outF m s)
theorem outL_length (m s : List Int) : (outL m s).length = 64 := by simp [outL]
theorem outL_getD (m s : List Int) (j : Nat) (h : j < 64) : outF m s j = (outL m s).getD j 0 := by simp [outL, h]
theorem outF_in (m s : List Int) (j : Nat) : 0 ≤ outF m s j ∧ outF m s j < 256 := by unfold outF; omega
theorem outL_in (m s : List Int) : InB (outL m s) := by
  intro j
  by_cases h : j < 64
  · rw [← outL_getD m s j h]; exact outF_in m s j
  · rw [getD_out _ _ (by rw [outL_length]; omega)]; omega
theorem outF_at (m s : List Int) (k : Nat) (x : Int) (hx : x = (m.getD k 0 + s.getD k 0) % 4294967296) : outF m s (4 * k) = x % 256 ∧ outF m s (4 * k + 1) = x / 256 % 256 ∧ outF m s (4 * k + 2) = x / 65536 % 256 ∧ outF m s (4 * k + 3) = x / 16777216 % 256 := by
  unfold outF
  rw [show 4 * k / 4 = k by omega, show 4 * k % 4 = 0 by omega, show (4 * k + 1) / 4 = k by omega, show (4 * k + 1) % 4 = 1 by omega, show (4 * k + 2) / 4 = k by omega, show (4 * k + 2) % 4 = 2 by omega, show (4 * k + 3) / 4 = k by omega, show (4 * k + 3) % 4 = 3 by omega, ← hx]
  exact ⟨by rw [show (256 : Int) ^ 0 = 1 from rfl, Int.ediv_one], rfl, rfl, rfl⟩
/-- the block of a key, a counter and a nonce. -/
def blockL (K : List Int) (c : Int) (N : List Int) : List Int := outL (drs (stL K c N) 10) (stL K c N)
theorem blockL_length (K : List Int) (c : Int) (N : List Int) : (blockL K c N).length = 64 := outL_length _ _
theorem blockL_in (K : List Int) (c : Int) (N : List Int) : InB (blockL K c N) := outL_in _ _
attribute [irreducible] outF
end Go.Proofs.YtkbkgbcdmhkicaaDoor.Cha
/- DERIVED. Contracts of math/bits.RotateLeft32 (a count from 1 to 31) and of chacha.Quarter. -/
namespace Go.Proofs.YtkbkgbcdmhkicaaDoor.Cha
open Go.RowKit
theorem and31p_all : ∀ n : Fin 32, bits .and .u64 (n.val : Int) 31 = ((n.val : Nat) : Int) := by decide +kernel
theorem and31p (n : Nat) (h2 : n ≤ 31) : bits .and .u64 (n : Int) 31 = (n : Int) := and31p_all ⟨n, by omega⟩
theorem ret_u32 {a b : Int} (h : a = b) : Ending.returned (.int .u32 a) = .returned (.int .u32 b) := by rw [h]
theorem rotl_eq (x : Int) (n : Nat) : bits .or .u32 (x * 2 ^ n % 4294967296) (x / 2 ^ (32 - n)) = rotl x n := by unfold rotl; rfl
set_option maxHeartbeats 400000 in
theorem rotl_any (x : Int) (n : Nat) (h1 : 1 ≤ n) (h2 : n ≤ 31) (w : World) :
    Calls Tryd.prog 82 #[.int .u32 x, .int .i64 (n : Int)] w fun e w' => e = .returned (.int .u32 (rotl x n)) ∧ w = w' := by
  have hs := and31p n h2
  go_enter Tryd.func82, Tryd.ntmps82
  go_wp2
  go_ret
  exact ⟨ret_u32 (rotl_eq x n), rfl⟩
/-- the same, at a count that is an integer. -/
theorem rotl_same (x n : Int) (h1 : 1 ≤ n) (h2 : n ≤ 31) (w : World) :
    Calls Tryd.prog 82 #[.int .u32 x, .int .i64 n] w fun e w' => e = .returned (.int .u32 (rotl x n.toNat)) ∧ w = w' := by
  obtain ⟨m, rfl⟩ := Int.eq_ofNat_of_zero_le (show 0 ≤ n by omega)
  exact rotl_any x m (by omega) (by omega) w
theorem infoQ : (Tryd.prog.info? 107).map (·.size) = some 4 := by kernel_rfl
theorem four_row {w : World} {g T : Nat} {x0 x1 x2 x3 : Value} (y0 y1 y2 y3 : Value) (h : w.heap[g]? = some (.cells #[x0, x1, x2, x3] T (0, 0))) :
    ((((w.setCell ⟨g, 0, none⟩ y0).setCell ⟨g, 1, none⟩ y1).setCell ⟨g, 2, none⟩ y2).setCell ⟨g, 3, none⟩ y3).heap[g]? = some (.cells #[y0, y1, y2, y3] T (0, 0)) :=
  heap_setCell_same _ _ _ _ _ _ (heap_setCell_same _ _ _ _ _ _ (heap_setCell_same _ _ _ _ _ _ (heap_setCell_same _ _ _ _ _ _ h)))
theorem Below.four {B g : Nat} {w w' : World} (h : Below B w w') (hg : B ≤ g) (y0 y1 y2 y3 : Value) :
    Below B w ((((w'.setCell ⟨g, 0, none⟩ y0).setCell ⟨g, 1, none⟩ y1).setCell ⟨g, 2, none⟩ y2).setCell ⟨g, 3, none⟩ y3) :=
  (((h.setCell hg _).setCell hg _).setCell hg _).setCell hg _
set_option maxRecDepth 100000 in
set_option maxHeartbeats 1000000 in
theorem quarter_lit (a b c d : Int) (w : World) :
    Calls Tryd.prog 73 #[.agg #[.int .u32 a, .int .u32 b, .int .u32 c, .int .u32 d]] w
      fun e' w' => e' = .returned (.agg (u32s [qa2 a b c d, qb2 a b c d, qc2 a b c d, qd2 a b c d])) ∧ Below w.heap.size w w' := by
  go_enter Tryd.func73, Tryd.ntmps73
  go_wp2
  go_quiet (fail)
  go_wp2_with (go_at_call 82; refine (rotl_same _ _ (by decide) (by decide) _).mono ?_; rintro e0 w0 ⟨rfl, rfl⟩)
  have low : Below w.heap.size w (((w.alloc (.cells #[.int .u32 a, .int .u32 b, .int .u32 c, .int .u32 d] 107)).alloc (.cells #[.int .u32 0, .int .u32 0, .int .u32 0, .int .u32 0] 107)).drewN nq) :=
    Below.drewN (((Below.refl _ _).alloc (Nat.le_refl _) _).alloc (by simp) _) nq
  have hrow : (((w.alloc (.cells #[.int .u32 a, .int .u32 b, .int .u32 c, .int .u32 d] 107)).alloc (.cells #[.int .u32 0, .int .u32 0, .int .u32 0, .int .u32 0] 107)).drewN nq).heap[w.heap.size + 1]? = some (.cells #[.int .u32 0, .int .u32 0, .int .u32 0, .int .u32 0] 107 (0, 0)) := (two_new _ _ _).2
  exact bodyPost_ret (v := .agg (u32s [qa2 a b c d, qb2 a b c d, qc2 a b c d, qd2 a b c d])) (results_cell_row rfl _ _ (w.heap.size + 1) 107 _ (0, 0) _ rfl (four_row _ _ _ _ hrow) Tryd.underlying107 rfl infoQ) rfl ⟨rfl, Below.four low (by omega) _ _ _ _⟩
theorem four_of {l : List Int} (h : l.length = 4) : l = [l.getD 0 0, l.getD 1 0, l.getD 2 0, l.getD 3 0] := by
  match l, h with
  | [a, b, c, d], _ => rfl
theorem quarter_any (l : List Int) (hl : l.length = 4) (w : World) :
    Calls Tryd.prog 73 #[.agg (u32s l)] w fun e' w' => e' = .returned (.agg (u32s (quarterL l))) ∧ Below w.heap.size w w' := by
  have h := quarter_lit (l.getD 0 0) (l.getD 1 0) (l.getD 2 0) (l.getD 3 0) w
  have e : u32s l = #[.int .u32 (l.getD 0 0), .int .u32 (l.getD 1 0), .int .u32 (l.getD 2 0), .int .u32 (l.getD 3 0)] := by
    match l, hl with
    | [a, b, c, d], _ => rfl
  rw [e]
  exact h
end Go.Proofs.YtkbkgbcdmhkicaaDoor.Cha
