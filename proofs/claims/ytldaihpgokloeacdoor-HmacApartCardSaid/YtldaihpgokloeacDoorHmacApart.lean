/- DERIVED. The walk of HmacApart, under way. Written by mkapart.py out of apart.txt. -/
import Derived.Test.YtldaihpgokloeacDoorHmacDerive
import Derived.Test.YtldaihpgokloeacDoorHmacWorks
import Derived.Test.YtldaihpgokloeacDoorStr
import Derived.Test.YtldaihpgokloeacDoorSlUntil
import Derived.Deep.Onto
import Derived.Deep.DeepCutAuto
import Derived.Outline
namespace Go.Proofs.YtldaihpgokloeacDoor.lawApart
open Go.RowKit lawAnybody
/-- the text whose tag the key is, and what it is when the bytes are cut. -/
def wholeL (nm B : List Int) : List Int := partL nm ++ partL B
def otherL (nm B : List Int) (i : Nat) : List Int := partL nm ++ partL (B.take i) ++ partL (B.drop i)
theorem canon_one (nm : List Int) (A : Option Addr) (c : Nat) (B : List Int) : canonL nm [⟨A, c, B⟩] = wholeL nm B := by simp [canonL, wholeL]
theorem canon_two (nm : List Int) (A A2 : Option Addr) (c c2 : Nat) (B : List Int) (i : Nat) : canonL nm [⟨A, c, B.take i⟩, ⟨A2, c2, B.drop i⟩] = otherL nm B i := by simp [canonL, otherL]
theorem wholeL_len (nm B : List Int) : (wholeL nm B).length = 8 + nm.length + B.length := by simp [wholeL, partL_length]; omega
theorem otherL_len (nm B : List Int) (i : Nat) (h : i ≤ B.length) : (otherL nm B i).length = 12 + nm.length + B.length := by simp [otherL, partL_length]; omega
theorem wholeL_in {nm B : List Int} (h : InB nm) (k : InB B) : InB (wholeL nm B) := (partL_in h).append (partL_in k)
theorem otherL_in {nm B : List Int} (h : InB nm) (k : InB B) (i : Nat) : InB (otherL nm B i) := ((partL_in h).append (partL_in (k.take i))).append (partL_in (k.drop i))
theorem other_ne {nm B : List Int} (h : InB nm) (k : InB B) (i : Nat) (hi : i ≤ B.length) : ((strOfNums (otherL nm B i)).toList == (strOfNums (wholeL nm B)).toList) = false := by
  rw [beq_eq_false_iff_ne]
  exact Str.str_ne (otherL_in h k i) (wholeL_in h k) (fun e => by have := congrArg List.length e; rw [otherL_len _ _ _ hi, wholeL_len] at this; omega)
theorem hmacL_length (K T : List Int) : (hmacL K T).length = 32 := sumL_length _
theorem parts_one {w : World} {A : Option Addr} {c m : Nat} {B : List Int} {T : TypeId} {g : Nat} (hm : B.length = m) (hb : InB B) (hB : Byt w A c B) (hg : w.heap[g]? = some (.cells #[.slice A m c] T (0, 0))) : PartsAt w (some ⟨g, 0, none⟩) [⟨A, c, B⟩] := by
  refine ⟨fun j h => ?_, fun j h => ?_⟩
  · obtain rfl : j = 0 := by simpa using h
    refine ⟨g, 0, rfl, (Array.getElem?_eq_some_iff.1 hg).1, ?_⟩
    rw [cell_row hg, ← hm]
    rfl
  · obtain rfl : j = 0 := by simpa using h
    exact ⟨hB, hb⟩
def nameC (s : ByteArray) : ByteArray := s.extract 0 (min s.size 200)
theorem nameC_size (s : ByteArray) : (nameC s).size ≤ 200 := by rw [nameC, ByteArray.size_extract]; omega
theorem bytes_back (w : World) {L : List Int} (h : InB L) : ∃ v w', (convert 9 24 (.string (strOfNums L))).run Tryd.prog w = .ok v w' ∧ SlB L v w' ∧ Below w.heap.size w w' := by
  refine ⟨_, _, Str.run_bytes w _, ?_, Str.below_string w _⟩
  have hl : (strOfNums L).size = L.length := by rw [← Str.bOf_length, Str.bOf_str h]
  have hb := Str.byt_string w (strOfNums L)
  rw [Str.bOf_str h] at hb
  exact ⟨some ⟨w.heap.size, 0, none⟩, grownCap w (strOfNums L).size 0 5, by rw [hl], hb⟩
theorem bytes_name (w : World) (s : ByteArray) : ∃ v w', (convert 9 24 (.string s)).run Tryd.prog w = .ok v w' ∧ SlB (bytesOf s) v w' ∧ Below w.heap.size w w' := by
  refine ⟨_, _, Lib.run_convert_string_bytes (P := Tryd.prog) w 9 24 5 s Tryd.underlying9 Tryd.underlying24 Tryd.underlying5, ?_, below_string w s⟩
  exact ⟨some ⟨w.heap.size, 0, none⟩, grownCap w s.size 0 5, by rw [bytesOf_length], byt_string w s⟩
def OwnP (base n : Nat) (L : List Int) (v : Value) (w : World) : Prop := w.ownsRow base 5 1 v n (vals L)
theorem OwnP.later {base n : Nat} {L : List Int} {v : Value} {w w' : World} (h : OwnP base n L v w) (hb : Below w.heap.size w w') : OwnP base n L v w' := own_below h hb
theorem OwnP.mono {base base' n : Nat} {L : List Int} {v : Value} {w : World} (h : OwnP base n L v w) (hb : base' ≤ base) : OwnP base' n L v w := World.ownsRow.mono h hb
theorem slb_own {base n : Nat} {L : List Int} {v : Value} {w : World} (h : w.ownsRow base 5 1 v n (vals L)) : SlB L v w := by
  obtain ⟨A, c, rfl, hl, hb⟩ := own_byt h
  exact ⟨A, c, by rw [hl], hb⟩
/-- the statements' piece behind nothing. -/
theorem piece_new (w : World) {M : List Int} {v : Value} (h : SlB M v w) (hs : M.length ≤ 99996) : Calls Tryd.prog 7 #[.slice none 0 0, v] w fun e w' => ∃ v', e = .returned v' ∧ OwnP w.heap.size (4 + M.length) (partL M) v' w' ∧ Below w.heap.size w w' := by
  obtain ⟨A, c, rfl, hb⟩ := h
  refine (piece_any w.heap.size (.slice none 0 0) 0 [] A c M.length M w w (World.ownsRow_nil w _ 5 1) rfl hb (Below.refl _ _) (Nat.le_refl _) (by omega) (Nat.le_refl _)).mono ?_
  rintro e w' ⟨v', rfl, own, hlow⟩
  refine ⟨v', rfl, ?_, hlow _ _ (Below.refl _ _) (Nat.le_refl _)⟩
  have := own
  rw [Nat.zero_add, List.nil_append] at this
  exact this
def RowT (cs : Array Value) (v : Value) (w : World) : Prop := ∃ g, v = .slice (some ⟨g, 0, none⟩) 2 2 ∧ w.heap[g]? = some (.cells cs 24 (0, 0))
theorem RowT.later {cs : Array Value} {v : Value} {w w' : World} (h : RowT cs v w) (hb : Below w.heap.size w w') : RowT cs v w' := by
  obtain ⟨g, e, hg⟩ := h
  exact ⟨g, e, (hb.block g (Array.getElem?_eq_some_iff.1 hg).1).trans hg⟩
theorem parts_two {w : World} {A A2 : Option Addr} {c c2 m m2 : Nat} {M M2 : List Int} {T : TypeId} {g : Nat} (hm : M.length = m) (hm2 : M2.length = m2) (hb : InB M) (hb2 : InB M2) (hB : Byt w A c M) (hB2 : Byt w A2 c2 M2) (hg : w.heap[g]? = some (.cells #[.slice A m c, .slice A2 m2 c2] T (0, 0))) : PartsAt w (some ⟨g, 0, none⟩) [⟨A, c, M⟩, ⟨A2, c2, M2⟩] := by
  have hlt := (Array.getElem?_eq_some_iff.1 hg).1
  refine ⟨fun j h => ?_, fun j h => ?_⟩
  · obtain rfl | rfl : j = 0 ∨ j = 1 := by simp at h; omega
    · exact ⟨g, 0, rfl, hlt, by rw [cell_row hg, ← hm]; rfl⟩
    · exact ⟨g, 0, rfl, hlt, by rw [cell_row hg, ← hm2]; rfl⟩
  · obtain rfl | rfl : j = 0 ∨ j = 1 := by simp at h; omega
    · exact ⟨hB, hb⟩
    · exact ⟨hB2, hb2⟩
theorem derive_two {k B : List Int} {nm : ByteArray} {A A2 : Option Addr} {c c2 m j g : Nat} {w : World} (hk : k.length = 32) (hkb : InB k) (hm : B.length = m) (hj : j ≤ m) (hb : InB B) (hB : Byt w A c B) (hB2 : Byt w A2 c2 (B.drop j)) (hL : Laid w) (hlen : (otherL (bytesOf nm) B j).length ≤ 40000) (hg : w.heap[g]? = some (.cells #[.slice A j c, .slice A2 (m - j) c2] 24 (0, 0))) :
    Calls Tryd.prog 6 #[.agg (u8s k), .string nm, .slice (some ⟨g, 0, none⟩) 2 2] w fun e w' => e = .returned (.agg (u8s (hmacL k (otherL (bytesOf nm) B j)))) ∧ Below w.heap.size w w' := by
  have h := derive_any k nm (some ⟨g, 0, none⟩) 2 2 [⟨A, c, B.take j⟩, ⟨A2, c2, B.drop j⟩] w hk hkb rfl
    (parts_two (by rw [List.length_take]; omega) (by rw [List.length_drop]; omega) (hb.take j) (hb.drop j) (Str.byt_take hB j) hB2 hg) hL (by rw [canon_two]; exact hlen)
  rw [canon_two] at h
  exact h
set_option maxRecDepth 100000 in
set_option maxHeartbeats 4000000 in
theorem apart_walk (k : List Int) (s : ByteArray) (A : Option Addr) (c n : Nat) (B : List Int) (m : Nat) (w : World) (hk : k.length = 32) (hkb : InB k) (hs : s.size ≤ maxLen) (hm : B.length = m) (h6 : m ≤ 600) (hb : InB B) (hB : Byt w A c B) (hL : Laid w)
    (hcut : ∀ w', Calls Tryd.prog 5 #[.slice A n c] w' fun e w'' => e = .returned (.slice A m c) ∧ w' = w'') :
    Calls Tryd.prog 3 #[.agg (u8s k), .string s, .slice A n c] w fun e w' => e = .returned (.bool true) ∧ Below w.heap.size w w' := by
  unfold maxLen at hs
  have HC := Lib.hid hcut
  have HB := Lib.hid hB
  have HL := Lib.hid hL
  have Hk := Lib.hid hk
  have Hkb := Lib.hid hkb
  have Hm := Lib.hid hm
  have Hb := Lib.hid hb
  clear hcut hB hL hk hkb hm hb
  have r0 := Go.heap_alloc_new w (.cells (u8s k) 23)
  have l0 : Below w.heap.size w (w.alloc (.cells (u8s k) 23)) := (Below.refl _ _).alloc (Nat.le_refl _) _
  obtain ⟨g0, hg0⟩ : ∃ g0, g0 = w.heap.size := ⟨_, rfl⟩
  obtain ⟨W0, hW0⟩ : ∃ W0, W0 = w.alloc (.cells (u8s k) 23) := ⟨_, rfl⟩
  rw [← hW0, ← hg0] at r0
  rw [← hW0] at l0
  have R0 := Lib.hid r0
  have L0 := Lib.hid l0
  have HW := Lib.hid hW0
  have HG := Lib.hid hg0
  have Hsz := Lib.hid HL.out.sz
  clear r0 l0 hW0 hg0
  go_enter Tryd.func3, Tryd.ntmps3
  go_upto_region 1 with fail
  rw [← HW.out, ← HG.out]
  obtain ⟨nm, hnm⟩ : ∃ nm, nm = nameC s := ⟨_, rfl⟩
  have hns := nameC_size s
  rw [← hnm] at hns
  have HN := Lib.hid hnm
  clear hnm
  go_cut [1] (fun s1 wx => s1 = .string nm ∧ wx = W0)
  case first =>
    by_cases h : s.size ≤ 200
    · have hm200 : min (s.size : Int) 200 = s.size := by omega
      have HR := Lib.hid (show nm = s by rw [HN.out, nameC, Nat.min_eq_left h]; simp)
      go_wp2
      all_goals
        go_meet
        exact ⟨congrArg Value.string HR.out.symm, rfl⟩
    · have hm200 : min (s.size : Int) 200 = 200 := by omega
      have HR := Lib.hid (show nm = s.extract 0 200 by rw [HN.out, nameC, Nat.min_eq_right (by omega)])
      go_wp2
      all_goals
        go_meet
        exact ⟨congrArg Value.string HR.out.symm, rfl⟩
  case rest =>
    obtain ⟨rfl, hw⟩ := hcut
    subst hw
    go_upto_region 3 with (go_at_call 5; refine (HC.out _).mono ?_; rintro e w' ⟨rfl, rfl⟩)
    obtain ⟨nl, hnl⟩ : ∃ nl, nl = bytesOf nm := ⟨_, rfl⟩
    have hnlen : nl.length ≤ 200 := by rw [hnl, bytesOf_length]; exact hns
    have Hnl := Lib.hid hnl
    have Hnb := Lib.hid (show InB nl by rw [hnl]; exact bytesOf_in nm)
    have Hi : Hid ((Tryd.prog.info? 23).map (·.size) = some (u8s k).size) := by show _ = _; rw [u8s_size, Hk.out]; exact info35
    obtain ⟨TG, hTG⟩ : ∃ TG, TG = hmacL k (wholeL nl B) := ⟨_, rfl⟩
    have HTl := Lib.hid (show TG.length = 32 by rw [hTG]; exact hmacL_length _ _)
    have HT := Lib.hid hTG
    have HiT : Hid ((Tryd.prog.info? 23).map (·.size) = some (u8s TG).size) := by show _ = _; rw [u8s_size, HTl.out]; exact info35
    have HD : Hid (Calls Tryd.prog 6 #[.agg (u8s k), .string nm, .slice (some ⟨wc.heap.size, 0, none⟩) 1 1] (wc.alloc (.cells #[.slice A m c] 24)) fun e w' => e = .returned (.agg (u8s TG)) ∧ Below wc.heap.size wc w') := by
      have la : Below wc.heap.size wc (wc.alloc (.cells #[.slice A m c] 24)) := (Below.refl _ _).alloc (Nat.le_refl _) _
      have h := derive_any k nm (some ⟨wc.heap.size, 0, none⟩) 1 1 [⟨A, c, B⟩] (wc.alloc (.cells #[.slice A m c] 24)) Hk.out Hkb.out rfl
        (parts_one Hm.out Hb.out ((HB.out.below L0.out (Nat.le_refl _)).below la (Nat.le_refl _)) (Go.heap_alloc_new _ _)) ((HL.out.below L0.out Hsz.out).below la (Nat.le_trans Hsz.out L0.out.size)) (by rw [canon_one, ← Hnl.out, wholeL_len, Hm.out]; omega)
      rw [canon_one, ← Hnl.out, ← HT.out] at h
      exact h.mono fun _ _ ⟨he, hb⟩ => ⟨he, la.trans (hb.mono la.size)⟩
    clear hnl hTG hns
    go_upto_region 4 with (first
      | (refine wpList_load_row rfl 23 (.tmp 3) rfl g0 (by rfl) 23 (u8s k) (0, 0) _ R0.out Tryd.underlying23 rfl Hi.out ?_)
      | (go_at_call 6; refine HD.out.mono ?_; rintro e w1 ⟨rfl, low1⟩; have Lc1 := Lib.hid low1; clear low1)
      | (refine wpList_store_row rfl 23 (.tmp 7) (.tmp 22) rfl w1.heap.size (u8s TG) (by rfl) (by rfl) 23 _ (Go.heap_alloc_new w1 _) HiT.out (by rw [u8s_size, HTl.out]; rfl) (u8s_one _) ?_; rw [World.setRow_alloc_new]))
    have low2 : Below wc.heap.size wc (w1.alloc (.cells (u8s TG) 23)) := Lc1.out.alloc Lc1.out.size _
    have rk2 := (low2.block _ (Array.getElem?_eq_some_iff.1 R0.out).1).trans R0.out
    have rt2 := Go.heap_alloc_new w1 (.cells (u8s TG) 23)
    obtain ⟨g7, hg7⟩ : ∃ g7, g7 = w1.heap.size := ⟨_, rfl⟩
    rw [← hg7] at rt2
    rw [← hg7]
    have hg7w : w.heap.size + 1 ≤ g7 := by rw [hg7]; exact Nat.le_trans (by rw [HW.out]; simp) Lc1.out.size
    have loww := L0.out.trans (low2.mono L0.out.size)
    clear HD hg7
    generalize World.alloc w1 _ = w2 at low2 rk2 rt2 loww ⊢
    have kc := Lib.run_convert_string_bytes (P := Tryd.prog) w2 9 24 5 nm Tryd.underlying9 Tryd.underlying24 Tryd.underlying5
    obtain ⟨c3, hc3⟩ : ∃ c, c = grownCap w2 nm.size 0 5 := ⟨_, rfl⟩
    have hbs := byt_string w2 nm
    have low3 := below_string w2 nm
    rw [← hc3] at kc hbs
    rw [← Hnl.out] at hbs
    obtain ⟨w3, hw3⟩ : ∃ w3, w3 = Lib.bytesWorld w2 5 nm := ⟨_, rfl⟩
    rw [← hw3] at kc hbs low3
    have Hbs := Lib.hid hbs
    have RK := Lib.hid ((low3.block _ (Array.getElem?_eq_some_iff.1 rk2).1).trans rk2)
    have RT := Lib.hid ((low3.block _ (Array.getElem?_eq_some_iff.1 rt2).1).trans rt2)
    have Lw3 := Lib.hid (loww.trans (low3.mono loww.size))
    have hnml : nl.length = nm.size := by rw [Hnl.out]; exact bytesOf_length nm
    have hs3 : g0 < w3.heap.size := (Array.getElem?_eq_some_iff.1 RK.out).1
    have ht3 : g7 < w3.heap.size := (Array.getElem?_eq_some_iff.1 RT.out).1
    clear hc3 hw3 hbs low3 rk2 rt2 low2 loww
    have HP1 := Lib.hid (piece_any w3.heap.size (.slice none 0 0) 0 [] (some ⟨w2.heap.size, 0, none⟩) c3 nm.size nl w3 w3 (World.ownsRow_nil w3 _ 5 1) hnml Hbs.out (Below.refl _ _) (Nat.le_refl _) (by omega) (Nat.le_refl _))
    have HP2 : Hid (∀ v4 w4, w4.ownsRow w3.heap.size 5 1 v4 (0 + (4 + nm.size)) (vals ([] ++ partL nl)) → (∀ B u, Below B u w3 → B ≤ w3.heap.size → Below B u w4) → Calls Tryd.prog 7 #[v4, .slice A m c] w4 fun e w5 => ∃ A5 c5, e = .returned (.slice A5 (8 + nm.size + m) c5) ∧ Hid (Byt w5 A5 c5 (wholeL nl B)) ∧ Hid (Below w3.heap.size w3 w5)) := by
      intro v4 w4 own4 hlow4
      refine (piece_any w3.heap.size v4 _ _ A c m B w w4 own4 Hm.out HB.out (hlow4 _ _ Lw3.out Lw3.out.size) Lw3.out.size (by omega) (hlow4 _ _ (Below.refl w3.heap.size w3) (Nat.le_refl _)).size).mono ?_
      rintro e w5 ⟨v5, rfl, own5, hlow5⟩
      obtain ⟨A5, c5, rfl, _, hb5⟩ := own_byt own5
      rw [show 0 + (4 + nm.size) + (4 + m) = 8 + nm.size + m by omega]
      exact ⟨A5, c5, rfl, hb5, hlow5 _ _ (hlow4 _ _ (Below.refl w3.heap.size w3) (Nat.le_refl _)) (Nat.le_refl _)⟩
    go_upto_region 5 with (first
      | (go_at_call 7; refine HP2w.mono ?_; rintro e w5 ⟨A5, c5, rfl, hb5, Low5⟩; have k5 := Str.conv_any (n := 8 + nm.size + m) hb5.out (by rw [wholeL_len, Hm.out, hnml]); clear HP2w hb5)
      | (go_at_call 7; refine HP1.out.mono ?_; clear HP1; rintro e w4 ⟨v4, rfl, own4, hlow4⟩; have HP2w := HP2.out v4 w4 own4 hlow4; clear own4 hlow4))
    have HwIn := Lib.hid (wholeL_in Hnb.out Hb.out)
    have HwLen : Hid ((wholeL nl B).length ≤ 40000) := by show _ ≤ _; rw [wholeL_len, Hm.out]; omega
    have RK5 := Lib.hid ((Low5.out.block _ hs3).trans RK.out)
    have RT5 := Lib.hid ((Low5.out.block _ ht3).trans RT.out)
    have Lw5 := Lib.hid (Lw3.out.trans (Low5.out.mono Lw3.out.size))
    clear RK RT Lw3 Low5 k5 kc HP2 Hbs
    have apx : apartB [29, 30, 31, 32, 33, 34] = true := by decide
    refine wp_region_any (by kernel_rfl) ?_
    change wpAny _ _ _ _ _ _ _ (World.drew _)
    refine wpAny_inv (fun ll aa wx => Hid (ll.size = 6 ∧ Below w5.heap.size w5 wx) ∧ ∃ (z : Nat → Value), Hid (aa = ⟨#[.agg (u8s k), .string nm, .slice A m c, .pointer (some ⟨g0, 0, none⟩), undef, undef, .bool false, .pointer (some ⟨g7, 0, none⟩), .string (strOfNums (wholeL nl B)), undef, undef, u11, u12, u13, u14, u15, .slice A n c, .slice A m c, .agg (u8s k), .string nm, .slice A m c, .slice (some ⟨wc.heap.size, 0, none⟩) 1 1, .agg (u8s TG), .string nm, .slice (some ⟨w2.heap.size, 0, none⟩) nm.size c3, v4, .slice A m c, .slice A5 (8 + nm.size + m) c5, .string (strOfNums (wholeL nl B)), z 29, z 30, z 31, z 32, z 33, z 34, u35, u36, u37, u38, u39, u40, u41, u42, u43, u44, u45, u46, u47, u48, u49, u50, u51, u52, u53, u54, u55, u56, u57, u58, u59, u60, u61, u62, u63, u64, u65, u66, u67, u68, u69, u70, u71, u72, u73, u74, u75, u76, u77], []⟩) ∧ Holding [29, 30, 31, 32, 33, 34] [some (.agg (u8s TG)), some (.slice (some ⟨g0, 0, none⟩) 32 32), some (.string (strOfNums (wholeL nl B))), none, some (.agg (u8s TG)), some (.bool false)] ll z ∧ Whn ll 3 (SlB (wholeL nl B)) (z 32) wx) ?_ (by kernel_rfl) ?_ ?_ _ _ _ _ (unlisted_none _) ?_
    · rintro ll aa wx ⟨hI, _⟩
      exact hI.out.1
    · rintro ll aa wx ⟨hI, z, ha, hz, hp3⟩ hall
      have hx := Lib.hid hI.out.2
      have e0 : z 29 = .agg (u8s TG) := hz 0 _ (hall 0 (by decide)) rfl
      have e1 : z 30 = .slice (some ⟨g0, 0, none⟩) 32 32 := hz 1 _ (hall 1 (by decide)) rfl
      have e2 : z 31 = .string (strOfNums (wholeL nl B)) := hz 2 _ (hall 2 (by decide)) rfl
      have e4 : z 33 = .agg (u8s TG) := hz 4 _ (hall 4 (by decide)) rfl
      have e5 : z 34 = .bool false := hz 5 _ (hall 5 (by decide)) rfl
      have p3 := hp3.get (hall 3 (by decide))
      clear hall hz hI hp3
      obtain rfl := ha.out
      clear ha
      clear apx
      have E := Lib.hid e5
      have HX := Lib.hid hx.out
      clear e0 e1 e2 e4 hx e5
      rw [E.out]
      go_wp2
      generalize z = yy
      go_loopw [9] (fun i wr => ∃ j : Nat, j ≤ 20 ∧ i = .int .i64 j ∧ Hid (Below w5.heap.size w5 wr)) (fun i _ => 20 - (intOf i).toNat)
      case atStart => exact ⟨0, by omega, rfl, HX.out⟩
      case round =>
        obtain ⟨j, hj, rfl, low⟩ := hrel
        clear E HX
        have Lwr := Lib.hid (Lw5.out.trans (low.out.mono Lw5.out.size))
        have HEnd : Hid (Calls Tryd.prog 9 #[] wr fun e w' => e = .returned (.bool true) ∧ Below w.heap.size w w') :=
          (works_any wr (HL.out.below Lwr.out Hsz.out)).mono fun _ _ ⟨he, hb⟩ => ⟨he, Lwr.out.trans (hb.mono Lwr.out.size)⟩
        by_cases hjm : j ≤ m
        · have h1 : (j : Int) ≤ m := by omega
          by_cases hlt : j < 20
          · have h2 : (j : Int) < 20 := by omega
            go_upto_region 10 with fail
            obtain ⟨A2, hA2⟩ : ∃ A2, (if c = j then A else A.map (·.add j)) = A2 := ⟨_, rfl⟩
            have hjc : j ≤ c := Nat.le_trans hjm (by have := HB.out.1; have := Hm.out; omega)
            have hjcI : (j : Int) ≤ c := by omega
            have hcut := HB.out.cut (n := j) (by rw [Hm.out]; exact hjm)
            rw [hA2] at hcut
            have HB2 := Lib.hid hcut
            clear hcut
            have apx : apartB [45, 46, 47, 48, 49, 50, 51, 52, 53, 54, 55, 56, 10] = true := by decide
            refine wp_region_any (by kernel_rfl) ?_
            change wpAny _ _ _ _ _ _ _ (World.drew _)
            refine wpAny_inv2 (fun ll aa wx => Hid (ll.size = 13 ∧ Below wr.heap.size wr wx) ∧ ∃ (z : Nat → Value), Hid (aa = ⟨#[.agg (u8s k), .string nm, .slice A m c, .pointer (some ⟨g0, 0, none⟩), undef, undef, u6, .pointer (some ⟨g7, 0, none⟩), .string (strOfNums (wholeL nl B)), .int .i64 (j : Nat), z 10, u11, u12, u13, u14, u15, .slice A n c, .slice A m c, .agg (u8s k), .string nm, .slice A m c, .slice (some ⟨wc.heap.size, 0, none⟩) 1 1, .agg (u8s TG), .string nm, .slice (some ⟨w2.heap.size, 0, none⟩) nm.size c3, v4, .slice A m c, .slice A5 (8 + nm.size + m) c5, .string (strOfNums (wholeL nl B)), yy 29, yy 30, yy 31, yy 32, yy 33, .bool false, .int .i64 (j : Nat), .slice A m c, .int .i64 (m : Nat), .bool true, .bool true, .int .i64 (j : Nat), .bool true, .bool true, u43, u44, z 45, z 46, z 47, z 48, z 49, z 50, z 51, z 52, z 53, z 54, z 55, z 56, u57, u58, u59, u60, u61, u62, u63, u64, u65, u66, u67, u68, u69, u70, u71, u72, u73, u74, u75, u76, u77], []⟩) ∧ Holding [45, 46, 47, 48, 49, 50, 51, 52, 53, 54, 55, 56, 10] [some (.string nm), none, none, some (.slice A m c), some (.int .i64 (j : Nat)), some (.slice A j c), none, some (.slice A m c), some (.int .i64 (j : Nat)), some (.slice A2 (m - j) (c - j)), none, some (.string (strOfNums (otherL nl B j))), some (.string (strOfNums (otherL nl B j)))] ll z ∧ Whu ll 1 2 (SlB nl) (z 46) wx ∧ Whu ll 2 6 (OwnP wr.heap.size (4 + nm.size) (partL nl)) (z 47) wx ∧ Whu ll 6 10 (OwnP wr.heap.size (4 + nm.size + (4 + j)) (partL nl ++ partL (B.take j))) (z 51) wx ∧ Whn ll 10 (SlB (otherL nl B j)) (z 55) wx) ?_ (by kernel_rfl) ?_ ?_ _ rfl _ _ ?_
            · rintro ll aa wx ⟨hI, _⟩
              exact hI.out.1
            · rintro ll aa wx ⟨hI, z, ha, hz, hp1, hp2, hp6, hp10⟩ hall
              have hx := Lib.hid hI.out.2
              have e0 : z 45 = .string nm := hz 0 _ (hall 0 (by decide)) rfl
              have e3 : z 48 = .slice A m c := hz 3 _ (hall 3 (by decide)) rfl
              have e4 : z 49 = .int .i64 (j : Nat) := hz 4 _ (hall 4 (by decide)) rfl
              have e5 : z 50 = .slice A j c := hz 5 _ (hall 5 (by decide)) rfl
              have e7 : z 52 = .slice A m c := hz 7 _ (hall 7 (by decide)) rfl
              have e8 : z 53 = .int .i64 (j : Nat) := hz 8 _ (hall 8 (by decide)) rfl
              have e9 : z 54 = .slice A2 (m - j) (c - j) := hz 9 _ (hall 9 (by decide)) rfl
              have e11 : z 56 = .string (strOfNums (otherL nl B j)) := hz 11 _ (hall 11 (by decide)) rfl
              have e12 : z 10 = .string (strOfNums (otherL nl B j)) := hz 12 _ (hall 12 (by decide)) rfl
              have p10 := hp10.get (hall 10 (by decide))
              clear hall hz hI hp1 hp2 hp6 hp10
              obtain rfl := ha.out
              clear ha
              clear apx
              have E := Lib.hid e12
              have HX := Lib.hid hx.out
              clear e0 e3 e4 e5 e7 e8 e9 e11 hx e12
              rw [E.out]
              go_upto_region 11 with fail
              generalize z = zz
              generalize wx = w10 at HX ⊢
              have rkr := (low.out.block _ (Array.getElem?_eq_some_iff.1 RK5.out).1).trans RK5.out
              have RK10 := Lib.hid ((HX.out.block _ (Array.getElem?_eq_some_iff.1 rkr).1).trans rkr)
              have Lw10 := Lib.hid (Lwr.out.trans (HX.out.mono Lwr.out.size))
              have hjB : j ≤ B.length := by rw [Hm.out]; exact hjm
              have HO := Lib.hid (otherL_in Hnb.out Hb.out j)
              have HOlen : Hid ((otherL nl B j).length ≤ 40000) := by show _ ≤ _; rw [otherL_len nl B j hjB, Hm.out]; omega
              have Hne := Lib.hid (other_ne Hnb.out Hb.out j hjB)
              obtain ⟨TO, hTO⟩ : ∃ TO, TO = hmacL k (otherL nl B j) := ⟨_, rfl⟩
              have HTOl := Lib.hid (show TO.length = 32 by rw [hTO]; exact hmacL_length _ _)
              have HTO := Lib.hid hTO
              clear rkr hTO hjB
              have apx : apartB [57, 58, 59, 60, 61, 62, 63, 64, 65, 66, 67, 68, 69, 70, 71, 72, 73, 74, 75, 76] = true := by decide
              refine wp_region_any (by kernel_rfl) ?_
              change wpAny _ _ _ _ _ _ _ (World.drew _)
              refine wpAny_inv (fun ll aa wx => Hid (ll.size = 20 ∧ Below w10.heap.size w10 wx) ∧ ∃ (z : Nat → Value), Hid (aa = ⟨#[.agg (u8s k), .string nm, .slice A m c, .pointer (some ⟨g0, 0, none⟩), undef, undef, u6, .pointer (some ⟨g7, 0, none⟩), .string (strOfNums (wholeL nl B)), .int .i64 (j : Nat), .string (strOfNums (otherL nl B j)), u11, u12, u13, u14, u15, .slice A n c, .slice A m c, .agg (u8s k), .string nm, .slice A m c, .slice (some ⟨wc.heap.size, 0, none⟩) 1 1, .agg (u8s TG), .string nm, .slice (some ⟨w2.heap.size, 0, none⟩) nm.size c3, v4, .slice A m c, .slice A5 (8 + nm.size + m) c5, .string (strOfNums (wholeL nl B)), yy 29, yy 30, yy 31, yy 32, yy 33, .bool false, .int .i64 (j : Nat), .slice A m c, .int .i64 (m : Nat), .bool true, .bool true, .int .i64 (j : Nat), .bool true, .bool true, u43, u44, zz 45, zz 46, zz 47, zz 48, zz 49, zz 50, zz 51, zz 52, zz 53, zz 54, zz 55, zz 56, z 57, z 58, z 59, z 60, z 61, z 62, z 63, z 64, z 65, z 66, z 67, z 68, z 69, z 70, z 71, z 72, z 73, z 74, z 75, z 76, u77], []⟩) ∧ Holding [57, 58, 59, 60, 61, 62, 63, 64, 65, 66, 67, 68, 69, 70, 71, 72, 73, 74, 75, 76] [some (.string (strOfNums (otherL nl B j))), some (.string (strOfNums (wholeL nl B))), some (.bool false), some (.bool false), some (.agg (u8s k)), some (.string nm), some (.slice A m c), some (.int .i64 (j : Nat)), some (.slice A j c), some (.slice A m c), some (.int .i64 (j : Nat)), some (.slice A2 (m - j) (c - j)), none, some (.agg (u8s TO)), some (.slice (some ⟨g0, 0, none⟩) 32 32), some (.string (strOfNums (otherL nl B j))), none, some (.agg (u8s TO)), some (.bool false), some (.bool false)] ll z ∧ Whn ll 12 (RowT #[.slice A j c, .slice A2 (m - j) (c - j)]) (z 69) wx ∧ Whn ll 16 (SlB (otherL nl B j)) (z 73) wx) ?_ (by kernel_rfl) ?_ ?_ _ _ _ _ (unlisted_none _) ?_
              · rintro ll aa wx ⟨hI, _⟩
                exact hI.out.1
              · rintro ll aa wx ⟨hI, z, ha, hz, hp12, hp16⟩ hall
                have hx := Lib.hid hI.out.2
                have e0 : z 57 = .string (strOfNums (otherL nl B j)) := hz 0 _ (hall 0 (by decide)) rfl
                have e1 : z 58 = .string (strOfNums (wholeL nl B)) := hz 1 _ (hall 1 (by decide)) rfl
                have e2 : z 59 = .bool false := hz 2 _ (hall 2 (by decide)) rfl
                have e3 : z 60 = .bool false := hz 3 _ (hall 3 (by decide)) rfl
                have e4 : z 61 = .agg (u8s k) := hz 4 _ (hall 4 (by decide)) rfl
                have e5 : z 62 = .string nm := hz 5 _ (hall 5 (by decide)) rfl
                have e6 : z 63 = .slice A m c := hz 6 _ (hall 6 (by decide)) rfl
                have e7 : z 64 = .int .i64 (j : Nat) := hz 7 _ (hall 7 (by decide)) rfl
                have e8 : z 65 = .slice A j c := hz 8 _ (hall 8 (by decide)) rfl
                have e9 : z 66 = .slice A m c := hz 9 _ (hall 9 (by decide)) rfl
                have e10 : z 67 = .int .i64 (j : Nat) := hz 10 _ (hall 10 (by decide)) rfl
                have e11 : z 68 = .slice A2 (m - j) (c - j) := hz 11 _ (hall 11 (by decide)) rfl
                have e13 : z 70 = .agg (u8s TO) := hz 13 _ (hall 13 (by decide)) rfl
                have e14 : z 71 = .slice (some ⟨g0, 0, none⟩) 32 32 := hz 14 _ (hall 14 (by decide)) rfl
                have e15 : z 72 = .string (strOfNums (otherL nl B j)) := hz 15 _ (hall 15 (by decide)) rfl
                have e17 : z 74 = .agg (u8s TO) := hz 17 _ (hall 17 (by decide)) rfl
                have e18 : z 75 = .bool false := hz 18 _ (hall 18 (by decide)) rfl
                have e19 : z 76 = .bool false := hz 19 _ (hall 19 (by decide)) rfl
                have p12 := hp12.get (hall 12 (by decide))
                have p16 := hp16.get (hall 16 (by decide))
                clear hall hz hI hp12 hp16
                obtain rfl := ha.out
                clear ha
                clear apx
                have E := Lib.hid e19
                have HX2 := Lib.hid hx.out
                clear e0 e1 e2 e3 e4 e5 e6 e7 e8 e9 e10 e11 e13 e14 e15 e17 e18 hx e19
                rw [E.out]
                go_wp2
                go_roundw
                case rel => exact ⟨j + 1, by omega, by go_num, low.out.trans ((HX.out.trans (HX2.out.mono HX.out.size)).mono low.out.size)⟩
                case measure => simp [intOf]; omega
              · rintro ll aa wx i ⟨hI, z, ha, hz, hp12, hp16⟩ hi hu hw
                obtain rfl := ha.out
                have hsz := Lib.hid hI.out.1
                have hx := Lib.hid hI.out.2
                clear ha hI
                have hin : i < 20 := hi
                obtain rfl | rfl | rfl | rfl | rfl | rfl | rfl | rfl | rfl | rfl | rfl | rfl | rfl | rfl | rfl | rfl | rfl | rfl | rfl | rfl : i = 0 ∨ i = 1 ∨ i = 2 ∨ i = 3 ∨ i = 4 ∨ i = 5 ∨ i = 6 ∨ i = 7 ∨ i = 8 ∨ i = 9 ∨ i = 10 ∨ i = 11 ∨ i = 12 ∨ i = 13 ∨ i = 14 ∨ i = 15 ∨ i = 16 ∨ i = 17 ∨ i = 18 ∨ i = 19 := by omega
                · refine wpOp_plain rfl rfl ?_
                  go_simp
                  exact ⟨⟨by simp [hsz.out], hx.out⟩, upd z 57 (.string (strOfNums (otherL nl B j))), (by unfold Hid; simp [upd]), hz.next apx hsz.out 0 (by decide) _ (fun _ h => Option.some.inj h), hp12.keep (by decide), hp16.keep (by decide)⟩
                · refine wpOp_plain rfl rfl ?_
                  go_simp
                  exact ⟨⟨by simp [hsz.out], hx.out⟩, upd z 58 (.string (strOfNums (wholeL nl B))), (by unfold Hid; simp [upd]), hz.next apx hsz.out 1 (by decide) _ (fun _ h => Option.some.inj h), hp12.keep (by decide), hp16.keep (by decide)⟩
                · have e0 : z 57 = .string (strOfNums (otherL nl B j)) := hz 0 _ (hw 0 (by kernel_rfl)) rfl
                  have e1 : z 58 = .string (strOfNums (wholeL nl B)) := hz 1 _ (hw 1 (by kernel_rfl)) rfl
                  have hq := Hne.out
                  refine wpOp_plain rfl rfl ?_
                  go_simp
                  exact ⟨⟨by simp [hsz.out], hx.out⟩, upd z 59 (.bool false), (by unfold Hid; simp [upd, e0, e1]), hz.next apx hsz.out 2 (by decide) _ (fun _ h => Option.some.inj h), hp12.keep (by decide), hp16.keep (by decide)⟩
                · have e2 : z 59 = .bool false := hz 2 _ (hw 2 (by kernel_rfl)) rfl
                  refine wpOp_plain rfl rfl ?_
                  go_simp
                  exact ⟨⟨by simp [hsz.out], hx.out⟩, upd z 60 (.bool false), (by unfold Hid; simp [upd, e2]), hz.next apx hsz.out 3 (by decide) _ (fun _ h => Option.some.inj h), hp12.keep (by decide), hp16.keep (by decide)⟩
                · have e3 : z 60 = .bool false := hz 3 _ (hw 3 (by kernel_rfl)) rfl
                  have cl := (hx.out.block _ (Array.getElem?_eq_some_iff.1 RK10.out).1).trans RK10.out
                  refine wpOp_want rfl (by simp [Region.wanted, yielded, e3]) (wp_load_row 23 (.tmp 3) rfl (g0) rfl 23 (u8s k) (0, 0) _ cl Tryd.underlying23 rfl Hi.out ?_)
                  go_simp
                  exact ⟨⟨by simp [hsz.out], hx.out⟩, upd z 61 (.agg (u8s k)), (by unfold Hid; simp [upd, e3]), hz.next apx hsz.out 4 (by decide) _ (fun _ h => Option.some.inj h), hp12.keep (by decide), hp16.keep (by decide)⟩
                · have e3 : z 60 = .bool false := hz 3 _ (hw 3 (by kernel_rfl)) rfl
                  refine wpOp_want rfl (by simp [Region.wanted, yielded, e3]) ?_
                  go_simp
                  exact ⟨⟨by simp [hsz.out], hx.out⟩, upd z 62 (.string nm), (by unfold Hid; simp [upd, e3]), hz.next apx hsz.out 5 (by decide) _ (fun _ h => Option.some.inj h), hp12.keep (by decide), hp16.keep (by decide)⟩
                · have e3 : z 60 = .bool false := hz 3 _ (hw 3 (by kernel_rfl)) rfl
                  refine wpOp_want rfl (by simp [Region.wanted, yielded, e3]) ?_
                  go_simp
                  exact ⟨⟨by simp [hsz.out], hx.out⟩, upd z 63 (.slice A m c), (by unfold Hid; simp [upd, e3]), hz.next apx hsz.out 6 (by decide) _ (fun _ h => Option.some.inj h), hp12.keep (by decide), hp16.keep (by decide)⟩
                · have e3 : z 60 = .bool false := hz 3 _ (hw 3 (by kernel_rfl)) rfl
                  refine wpOp_want rfl (by simp [Region.wanted, yielded, e3]) ?_
                  go_simp
                  exact ⟨⟨by simp [hsz.out], hx.out⟩, upd z 64 (.int .i64 (j : Nat)), (by unfold Hid; simp [upd, e3]), hz.next apx hsz.out 7 (by decide) _ (fun _ h => Option.some.inj h), hp12.keep (by decide), hp16.keep (by decide)⟩
                · have e3 : z 60 = .bool false := hz 3 _ (hw 3 (by kernel_rfl)) rfl
                  have e6 : z 63 = .slice A m c := hz 6 _ (hw 6 (by kernel_rfl)) rfl
                  have e7 : z 64 = .int .i64 (j : Nat) := hz 7 _ (hw 7 (by kernel_rfl)) rfl
                  refine wpOp_want rfl (by simp [Region.wanted, yielded, e3]) ?_
                  go_simp
                  exact ⟨⟨by simp [hsz.out], hx.out⟩, upd z 65 (.slice A j c), (by unfold Hid; simp [upd, e3, e6, e7]), hz.next apx hsz.out 8 (by decide) _ (fun _ h => Option.some.inj h), hp12.keep (by decide), hp16.keep (by decide)⟩
                · have e3 : z 60 = .bool false := hz 3 _ (hw 3 (by kernel_rfl)) rfl
                  refine wpOp_want rfl (by simp [Region.wanted, yielded, e3]) ?_
                  go_simp
                  exact ⟨⟨by simp [hsz.out], hx.out⟩, upd z 66 (.slice A m c), (by unfold Hid; simp [upd, e3]), hz.next apx hsz.out 9 (by decide) _ (fun _ h => Option.some.inj h), hp12.keep (by decide), hp16.keep (by decide)⟩
                · have e3 : z 60 = .bool false := hz 3 _ (hw 3 (by kernel_rfl)) rfl
                  refine wpOp_want rfl (by simp [Region.wanted, yielded, e3]) ?_
                  go_simp
                  exact ⟨⟨by simp [hsz.out], hx.out⟩, upd z 67 (.int .i64 (j : Nat)), (by unfold Hid; simp [upd, e3]), hz.next apx hsz.out 10 (by decide) _ (fun _ h => Option.some.inj h), hp12.keep (by decide), hp16.keep (by decide)⟩
                · have e3 : z 60 = .bool false := hz 3 _ (hw 3 (by kernel_rfl)) rfl
                  have e9 : z 66 = .slice A m c := hz 9 _ (hw 9 (by kernel_rfl)) rfl
                  have e10 : z 67 = .int .i64 (j : Nat) := hz 10 _ (hw 10 (by kernel_rfl)) rfl
                  refine wpOp_want rfl (by simp [Region.wanted, yielded, e3]) ?_
                  go_simp
                  exact ⟨⟨by simp [hsz.out], hx.out⟩, upd z 68 (.slice A2 (m - j) (c - j)), (by unfold Hid; simp [upd, e3, e9, e10]), hz.next apx hsz.out 11 (by decide) _ (fun _ h => Option.some.inj h), hp12.keep (by decide), hp16.keep (by decide)⟩
                · have e3 : z 60 = .bool false := hz 3 _ (hw 3 (by kernel_rfl)) rfl
                  have e8 : z 65 = .slice A j c := hz 8 _ (hw 8 (by kernel_rfl)) rfl
                  have e11 : z 68 = .slice A2 (m - j) (c - j) := hz 11 _ (hw 11 (by kernel_rfl)) rfl
                  refine wpOp_want rfl (by simp [Region.wanted, yielded, e3]) ?_
                  go_simp
                  have lown : Below wx.heap.size wx (wx.alloc (.cells #[.slice A j c, .slice A2 (m - j) (c - j)] 24)) := (Below.refl _ _).alloc (Nat.le_refl _) _
                  exact ⟨⟨by simp [hsz.out], hx.out.trans (lown.mono hx.out.size)⟩, upd z 69 (.slice (some ⟨wx.heap.size, 0, none⟩) 2 2), (by unfold Hid; simp [upd, e3, e8, e11]), hz.next apx hsz.out 12 (by decide) _ (fun _ h => by cases h), Whn.done (⟨_, rfl, Go.heap_alloc_new wx _⟩), (hp16.keep (by decide)).map (fun h => h.later lown)⟩
                · have e3 : z 60 = .bool false := hz 3 _ (hw 3 (by kernel_rfl)) rfl
                  have e4 : z 61 = .agg (u8s k) := hz 4 _ (hw 4 (by kernel_rfl)) rfl
                  have e5 : z 62 = .string nm := hz 5 _ (hw 5 (by kernel_rfl)) rfl
                  have p12 := hp12.get (hw 12 (by kernel_rfl))
                  obtain ⟨gg, e12, h12⟩ := p12
                  refine wpOp_want rfl (by simp [Region.wanted, yielded, e3]) ?_
                  go_simp
                  go_at_call 6
                  have lwx := Lw10.out.trans (hx.out.mono Lw10.out.size)
                  refine (derive_two Hk.out Hkb.out Hm.out hjm Hb.out (HB.out.below lwx (Nat.le_refl _)) (HB2.out.below lwx (Nat.le_refl _)) (HL.out.below lwx Hsz.out) (by rw [← Hnl.out]; exact HOlen.out) h12).mono ?_
                  rintro e w' ⟨rfl, low'⟩
                  rw [← Hnl.out, ← HTO.out]
                  exact ⟨⟨by simp [hsz.out], hx.out.trans (low'.mono hx.out.size)⟩, upd z 70 (.agg (u8s TO)), (by unfold Hid; simp [upd, e3, e4, e5, e12]), hz.next apx hsz.out 13 (by decide) _ (fun _ h => Option.some.inj h), (hp12.keep (by decide)).map (fun h => h.later low'), (hp16.keep (by decide)).map (fun h => h.later low')⟩
                · have e3 : z 60 = .bool false := hz 3 _ (hw 3 (by kernel_rfl)) rfl
                  refine wpOp_want rfl (by simp [Region.wanted, yielded, e3]) ?_
                  go_simp
                  exact ⟨⟨by simp [hsz.out], hx.out⟩, upd z 71 (.slice (some ⟨g0, 0, none⟩) 32 32), (by unfold Hid; simp [upd, e3]), hz.next apx hsz.out 14 (by decide) _ (fun _ h => Option.some.inj h), hp12.keep (by decide), hp16.keep (by decide)⟩
                · have e3 : z 60 = .bool false := hz 3 _ (hw 3 (by kernel_rfl)) rfl
                  refine wpOp_want rfl (by simp [Region.wanted, yielded, e3]) ?_
                  go_simp
                  exact ⟨⟨by simp [hsz.out], hx.out⟩, upd z 72 (.string (strOfNums (otherL nl B j))), (by unfold Hid; simp [upd, e3]), hz.next apx hsz.out 15 (by decide) _ (fun _ h => Option.some.inj h), hp12.keep (by decide), hp16.keep (by decide)⟩
                · have e3 : z 60 = .bool false := hz 3 _ (hw 3 (by kernel_rfl)) rfl
                  have e15 : z 72 = .string (strOfNums (otherL nl B j)) := hz 15 _ (hw 15 (by kernel_rfl)) rfl
                  obtain ⟨vb, wb3, kb, hsb, lowb⟩ := bytes_back wx HO.out
                  refine wpOp_want rfl (by simp [Region.wanted, yielded, e3]) ?_
                  go_simp
                  exact ⟨⟨by simp [hsz.out], hx.out.trans (lowb.mono hx.out.size)⟩, upd z 73 (vb), (by unfold Hid; simp [upd, e3, e15]), hz.next apx hsz.out 16 (by decide) _ (fun _ h => by cases h), (hp12.keep (by decide)).map (fun h => h.later lowb), Whn.done (hsb)⟩
                · have e3 : z 60 = .bool false := hz 3 _ (hw 3 (by kernel_rfl)) rfl
                  have e14 : z 71 = .slice (some ⟨g0, 0, none⟩) 32 32 := hz 14 _ (hw 14 (by kernel_rfl)) rfl
                  have p16 := hp16.get (hw 16 (by kernel_rfl))
                  obtain ⟨A9, n9, e16, b9⟩ := p16
                  refine wpOp_want rfl (by simp [Region.wanted, yielded, e3]) ?_
                  go_simp
                  go_at_call 8
                  refine (hmac_any k (otherL nl B j) (some ⟨g0, 0, none⟩) A9 32 32 n9 _ wx Hk.out rfl Hkb.out HO.out (Str.byt_rowT ((hx.out.block _ (Array.getElem?_eq_some_iff.1 RK10.out).1).trans RK10.out) Hk.out) b9 (HL.out.below (Lw10.out.trans (hx.out.mono Lw10.out.size)) Hsz.out) (by omega) HOlen.out).mono ?_
                  rintro e w' ⟨rfl, low'⟩
                  rw [← HTO.out]
                  exact ⟨⟨by simp [hsz.out], hx.out.trans (low'.mono hx.out.size)⟩, upd z 74 (.agg (u8s TO)), (by unfold Hid; simp [upd, e3, e14, e16]), hz.next apx hsz.out 17 (by decide) _ (fun _ h => Option.some.inj h), (hp12.keep (by decide)).map (fun h => h.later low'), (hp16.keep (by decide)).map (fun h => h.later low')⟩
                · have e3 : z 60 = .bool false := hz 3 _ (hw 3 (by kernel_rfl)) rfl
                  have e13 : z 70 = .agg (u8s TO) := hz 13 _ (hw 13 (by kernel_rfl)) rfl
                  have e17 : z 74 = .agg (u8s TO) := hz 17 _ (hw 17 (by kernel_rfl)) rfl
                  have eq := equal35_same TO HTOl.out wx
                  refine wpOp_want rfl (by simp [Region.wanted, yielded, e3]) ?_
                  go_simp
                  exact ⟨⟨by simp [hsz.out], hx.out⟩, upd z 75 (.bool false), (by unfold Hid; simp [upd, e3, e13, e17]), hz.next apx hsz.out 18 (by decide) _ (fun _ h => Option.some.inj h), hp12.keep (by decide), hp16.keep (by decide)⟩
                · have e3 : z 60 = .bool false := hz 3 _ (hw 3 (by kernel_rfl)) rfl
                  have e18 : z 75 = .bool false := hz 18 _ (hw 18 (by kernel_rfl)) rfl
                  refine wpOp_plain rfl rfl ?_
                  go_simp
                  exact ⟨⟨by simp [hsz.out], hx.out⟩, upd z 76 (.bool false), (by unfold Hid; simp [upd, e3, e18]), hz.next apx hsz.out 19 (by decide) _ (fun _ h => Option.some.inj h), hp12.keep (by decide), hp16.keep (by decide)⟩
              · exact ⟨⟨rfl, (Below.refl _ _).drew⟩, fun xx => (#[.agg (u8s k), .string nm, .slice A m c, .pointer (some ⟨g0, 0, none⟩), undef, undef, u6, .pointer (some ⟨g7, 0, none⟩), .string (strOfNums (wholeL nl B)), .int .i64 (j : Nat), .string (strOfNums (otherL nl B j)), u11, u12, u13, u14, u15, .slice A n c, .slice A m c, .agg (u8s k), .string nm, .slice A m c, .slice (some ⟨wc.heap.size, 0, none⟩) 1 1, .agg (u8s TG), .string nm, .slice (some ⟨w2.heap.size, 0, none⟩) nm.size c3, v4, .slice A m c, .slice A5 (8 + nm.size + m) c5, .string (strOfNums (wholeL nl B)), yy 29, yy 30, yy 31, yy 32, yy 33, .bool false, .int .i64 (j : Nat), .slice A m c, .int .i64 (m : Nat), .bool true, .bool true, .int .i64 (j : Nat), .bool true, .bool true, u43, u44, zz 45, zz 46, zz 47, zz 48, zz 49, zz 50, zz 51, zz 52, zz 53, zz 54, zz 55, zz 56, u57, u58, u59, u60, u61, u62, u63, u64, u65, u66, u67, u68, u69, u70, u71, u72, u73, u74, u75, u76, u77] : Array Value).getD xx undef, (by rfl), Holding.start, Whn.none (by decide), Whn.none (by decide)⟩
            · rintro ll aa wx i ⟨hI, z, ha, hz, hp1, hp2, hp6, hp10⟩ hcl hi hu hw
              obtain rfl := ha.out
              have hsz := Lib.hid hI.out.1
              have hx := Lib.hid hI.out.2
              clear ha hI
              have hin : i < 13 := hi
              obtain rfl | rfl | rfl | rfl | rfl | rfl | rfl | rfl | rfl | rfl | rfl | rfl | rfl : i = 0 ∨ i = 1 ∨ i = 2 ∨ i = 3 ∨ i = 4 ∨ i = 5 ∨ i = 6 ∨ i = 7 ∨ i = 8 ∨ i = 9 ∨ i = 10 ∨ i = 11 ∨ i = 12 := by omega
              · refine wpOp_plain rfl rfl ?_
                go_simp
                exact ⟨⟨by simp [hsz.out], hx.out⟩, upd z 45 (.string nm), (by unfold Hid; simp [upd]), hz.next apx hsz.out 0 (by decide) _ (fun _ h => Option.some.inj h), hp1.keep (by decide), hp2.keep (by decide), hp6.keep (by decide), hp10.keep (by decide)⟩
              · have e0 : z 45 = .string nm := hz 0 _ (hw 0 (by kernel_rfl)) rfl
                obtain ⟨vb, wb3, kb, hsb, lowb⟩ := bytes_name wx nm
                rw [← Hnl.out] at hsb
                refine wpOp_plain rfl rfl ?_
                go_simp
                exact ⟨⟨by simp [hsz.out], hx.out.trans (lowb.mono hx.out.size)⟩, upd z 46 (vb), (by unfold Hid; simp [upd, e0]), hz.next apx hsz.out 1 (by decide) _ (fun _ h => by cases h), Whu.done (hsb), (hp2.keep (by decide)).map (fun h => h.later lowb), (hp6.keep (by decide)).map (fun h => h.later lowb), (hp10.keep (by decide)).map (fun h => h.later lowb)⟩
              · have p1 := hp1.get (hw 1 (by kernel_rfl)) hu
                refine wpOp_plain rfl rfl ?_
                go_simp
                go_at_call 7
                refine (piece_new wx p1 (by omega)).mono ?_
                rintro e w' ⟨vr, rfl, own, low⟩
                exact ⟨⟨by simp [hsz.out], hx.out.trans (low.mono hx.out.size)⟩, upd z 47 (vr), (by unfold Hid; simp [upd]), hz.next apx hsz.out 2 (by decide) _ (fun _ h => by cases h), Whu.past (by rw [hsz.out]; decide), Whu.done (by rw [← hnml]; exact own.mono hx.out.size), (hp6.keep (by decide)).map (fun h => h.later low), (hp10.keep (by decide)).map (fun h => h.later low)⟩
              · refine wpOp_plain rfl rfl ?_
                go_simp
                exact ⟨⟨by simp [hsz.out], hx.out⟩, upd z 48 (.slice A m c), (by unfold Hid; simp [upd]), hz.next apx hsz.out 3 (by decide) _ (fun _ h => Option.some.inj h), hp1.keep (by decide), hp2.keep (by decide), hp6.keep (by decide), hp10.keep (by decide)⟩
              · refine wpOp_plain rfl rfl ?_
                go_simp
                exact ⟨⟨by simp [hsz.out], hx.out⟩, upd z 49 (.int .i64 (j : Nat)), (by unfold Hid; simp [upd]), hz.next apx hsz.out 4 (by decide) _ (fun _ h => Option.some.inj h), hp1.keep (by decide), hp2.keep (by decide), hp6.keep (by decide), hp10.keep (by decide)⟩
              · have e3 : z 48 = .slice A m c := hz 3 _ (hw 3 (by kernel_rfl)) rfl
                have e4 : z 49 = .int .i64 (j : Nat) := hz 4 _ (hw 4 (by kernel_rfl)) rfl
                refine wpOp_plain rfl rfl ?_
                go_simp
                exact ⟨⟨by simp [hsz.out], hx.out⟩, upd z 50 (.slice A j c), (by unfold Hid; simp [upd, e3, e4]), hz.next apx hsz.out 5 (by decide) _ (fun _ h => Option.some.inj h), hp1.keep (by decide), hp2.keep (by decide), hp6.keep (by decide), hp10.keep (by decide)⟩
              · have e5 : z 50 = .slice A j c := hz 5 _ (hw 5 (by kernel_rfl)) rfl
                have p2 := hp2.get (hw 2 (by kernel_rfl)) hu
                refine wpOp_plain rfl rfl ?_
                go_simp
                go_at_call 7
                refine (piece_any wr.heap.size (z 47) (4 + nm.size) (partL nl) A c j (B.take j) w wx p2 (by rw [List.length_take, Hm.out]; omega) (Str.byt_take HB.out j) (Lwr.out.trans (hx.out.mono Lwr.out.size)) Lwr.out.size (by omega) hx.out.size).mono ?_
                rintro e w' ⟨vr, rfl, own, hlow⟩
                exact ⟨⟨by simp [hsz.out], hlow _ _ hx.out (Nat.le_refl _)⟩, upd z 51 (vr), (by unfold Hid; simp [upd, e5]), hz.next apx hsz.out 6 (by decide) _ (fun _ h => by cases h), Whu.gone (hw 2 (by kernel_rfl)), Whu.past (by rw [hsz.out]; decide), Whu.done (own), Whn.never (by decide) (fun hl => hcl 10 6 hl (by kernel_rfl)) hu⟩
              · refine wpOp_plain rfl rfl ?_
                go_simp
                exact ⟨⟨by simp [hsz.out], hx.out⟩, upd z 52 (.slice A m c), (by unfold Hid; simp [upd]), hz.next apx hsz.out 7 (by decide) _ (fun _ h => Option.some.inj h), hp1.keep (by decide), hp2.keep (by decide), hp6.keep (by decide), hp10.keep (by decide)⟩
              · refine wpOp_plain rfl rfl ?_
                go_simp
                exact ⟨⟨by simp [hsz.out], hx.out⟩, upd z 53 (.int .i64 (j : Nat)), (by unfold Hid; simp [upd]), hz.next apx hsz.out 8 (by decide) _ (fun _ h => Option.some.inj h), hp1.keep (by decide), hp2.keep (by decide), hp6.keep (by decide), hp10.keep (by decide)⟩
              · have e7 : z 52 = .slice A m c := hz 7 _ (hw 7 (by kernel_rfl)) rfl
                have e8 : z 53 = .int .i64 (j : Nat) := hz 8 _ (hw 8 (by kernel_rfl)) rfl
                refine wpOp_plain rfl rfl ?_
                go_simp
                exact ⟨⟨by simp [hsz.out], hx.out⟩, upd z 54 (.slice A2 (m - j) (c - j)), (by unfold Hid; simp [upd, e7, e8]), hz.next apx hsz.out 9 (by decide) _ (fun _ h => Option.some.inj h), hp1.keep (by decide), hp2.keep (by decide), hp6.keep (by decide), hp10.keep (by decide)⟩
              · have e9 : z 54 = .slice A2 (m - j) (c - j) := hz 9 _ (hw 9 (by kernel_rfl)) rfl
                have p6 := hp6.get (hw 6 (by kernel_rfl)) hu
                refine wpOp_plain rfl rfl ?_
                go_simp
                go_at_call 7
                refine (piece_any wr.heap.size (z 51) (4 + nm.size + (4 + j)) (partL nl ++ partL (B.take j)) A2 (c - j) (m - j) (B.drop j) w wx p6 (by rw [List.length_drop, Hm.out]) HB2.out (Lwr.out.trans (hx.out.mono Lwr.out.size)) Lwr.out.size (by omega) hx.out.size).mono ?_
                rintro e w' ⟨vr, rfl, own, hlow⟩
                exact ⟨⟨by simp [hsz.out], hlow _ _ hx.out (Nat.le_refl _)⟩, upd z 55 (vr), (by unfold Hid; simp [upd, e9]), hz.next apx hsz.out 10 (by decide) _ (fun _ h => by cases h), Whu.gone (hcl 6 2 (hw 6 (by kernel_rfl)) (by kernel_rfl)), Whu.gone (hw 6 (by kernel_rfl)), Whu.past (by rw [hsz.out]; decide), Whn.done (slb_own own)⟩
              · have p10 := hp10.get (hw 10 (by kernel_rfl))
                obtain ⟨A9, c9, e10, b9⟩ := p10
                have cv := Str.conv_any b9 rfl
                refine wpOp_plain rfl rfl ?_
                go_simp
                exact ⟨⟨by simp [hsz.out], hx.out⟩, upd z 56 (.string (strOfNums (otherL nl B j))), (by unfold Hid; simp [upd, e10]), hz.next apx hsz.out 11 (by decide) _ (fun _ h => Option.some.inj h), hp1.keep (by decide), hp2.keep (by decide), hp6.keep (by decide), hp10.keep (by decide)⟩
              · have e11 : z 56 = .string (strOfNums (otherL nl B j)) := hz 11 _ (hw 11 (by kernel_rfl)) rfl
                refine wpOp_plain rfl rfl ?_
                go_simp
                exact ⟨⟨by simp [hsz.out], hx.out⟩, upd z 10 (.string (strOfNums (otherL nl B j))), (by unfold Hid; simp [upd, e11]), hz.next apx hsz.out 12 (by decide) _ (fun _ h => Option.some.inj h), hp1.keep (by decide), hp2.keep (by decide), hp6.keep (by decide), hp10.keep (by decide)⟩
            · exact ⟨⟨rfl, (Below.refl _ _).drew⟩, fun xx => (#[.agg (u8s k), .string nm, .slice A m c, .pointer (some ⟨g0, 0, none⟩), undef, undef, u6, .pointer (some ⟨g7, 0, none⟩), .string (strOfNums (wholeL nl B)), .int .i64 (j : Nat), u10, u11, u12, u13, u14, u15, .slice A n c, .slice A m c, .agg (u8s k), .string nm, .slice A m c, .slice (some ⟨wc.heap.size, 0, none⟩) 1 1, .agg (u8s TG), .string nm, .slice (some ⟨w2.heap.size, 0, none⟩) nm.size c3, v4, .slice A m c, .slice A5 (8 + nm.size + m) c5, .string (strOfNums (wholeL nl B)), yy 29, yy 30, yy 31, yy 32, yy 33, .bool false, .int .i64 (j : Nat), .slice A m c, .int .i64 (m : Nat), .bool true, .bool true, .int .i64 (j : Nat), .bool true, .bool true, u43, u44, u45, u46, u47, u48, u49, u50, u51, u52, u53, u54, u55, u56, u57, u58, u59, u60, u61, u62, u63, u64, u65, u66, u67, u68, u69, u70, u71, u72, u73, u74, u75, u76, u77] : Array Value).getD xx undef, (by rfl), Holding.start, Whu.none (by decide), Whu.none (by decide), Whu.none (by decide), Whn.none (by decide)⟩
          · have h2 : ¬ (j : Int) < 20 := by omega
            go_wp2_with (go_at_call 9; refine HEnd.out.mono ?_; rintro e w8 ⟨rfl, low8⟩)
            go_ret
            exact ⟨rfl, low8⟩
        · have h1 : ¬ (j : Int) ≤ m := by omega
          go_wp2_with (go_at_call 9; refine HEnd.out.mono ?_; rintro e w8 ⟨rfl, low8⟩)
          go_ret
          exact ⟨rfl, low8⟩
    · rintro ll aa wx i ⟨hI, z, ha, hz, hp3⟩ hi hu hw
      obtain rfl := ha.out
      have hsz := Lib.hid hI.out.1
      have hx := Lib.hid hI.out.2
      clear ha hI
      have hin : i < 6 := hi
      obtain rfl | rfl | rfl | rfl | rfl | rfl : i = 0 ∨ i = 1 ∨ i = 2 ∨ i = 3 ∨ i = 4 ∨ i = 5 := by omega
      · have cl := (hx.out.block _ (Array.getElem?_eq_some_iff.1 RT5.out).1).trans RT5.out
        refine wpOp_plain rfl rfl (wp_load_row 23 (.tmp 7) rfl (g7) rfl 23 (u8s TG) (0, 0) _ cl Tryd.underlying23 rfl HiT.out ?_)
        go_simp
        exact ⟨⟨by simp [hsz.out], hx.out⟩, upd z 29 (.agg (u8s TG)), (by unfold Hid; simp [upd]), hz.next apx hsz.out 0 (by decide) _ (fun _ h => Option.some.inj h), hp3.keep (by decide)⟩
      · refine wpOp_plain rfl rfl ?_
        go_simp
        exact ⟨⟨by simp [hsz.out], hx.out⟩, upd z 30 (.slice (some ⟨g0, 0, none⟩) 32 32), (by unfold Hid; simp [upd]), hz.next apx hsz.out 1 (by decide) _ (fun _ h => Option.some.inj h), hp3.keep (by decide)⟩
      · refine wpOp_plain rfl rfl ?_
        go_simp
        exact ⟨⟨by simp [hsz.out], hx.out⟩, upd z 31 (.string (strOfNums (wholeL nl B))), (by unfold Hid; simp [upd]), hz.next apx hsz.out 2 (by decide) _ (fun _ h => Option.some.inj h), hp3.keep (by decide)⟩
      · have e2 : z 31 = .string (strOfNums (wholeL nl B)) := hz 2 _ (hw 2 (by kernel_rfl)) rfl
        obtain ⟨vb, wb3, kb, hsb, lowb⟩ := bytes_back wx HwIn.out
        refine wpOp_plain rfl rfl ?_
        go_simp
        exact ⟨⟨by simp [hsz.out], hx.out.trans (lowb.mono hx.out.size)⟩, upd z 32 (vb), (by unfold Hid; simp [upd, e2]), hz.next apx hsz.out 3 (by decide) _ (fun _ h => by cases h), Whn.done (hsb)⟩
      · have e1 : z 30 = .slice (some ⟨g0, 0, none⟩) 32 32 := hz 1 _ (hw 1 (by kernel_rfl)) rfl
        have p3 := hp3.get (hw 3 (by kernel_rfl))
        obtain ⟨A2, c2, e3, b3⟩ := p3
        refine wpOp_plain rfl rfl ?_
        go_simp
        go_at_call 8
        refine (hmac_any k (wholeL nl B) (some ⟨g0, 0, none⟩) A2 32 32 c2 _ wx Hk.out rfl Hkb.out HwIn.out (Str.byt_rowT ((hx.out.block _ (Array.getElem?_eq_some_iff.1 RK5.out).1).trans RK5.out) Hk.out) b3 (HL.out.below (Lw5.out.trans (hx.out.mono Lw5.out.size)) Hsz.out) (by omega) HwLen.out).mono ?_
        rintro e w' ⟨rfl, low⟩
        rw [← HT.out]
        exact ⟨⟨by simp [hsz.out], hx.out.trans (low.mono hx.out.size)⟩, upd z 33 (.agg (u8s TG)), (by unfold Hid; simp [upd, e1, e3]), hz.next apx hsz.out 4 (by decide) _ (fun _ h => Option.some.inj h), (hp3.keep (by decide)).map (fun h => h.later low)⟩
      · have e0 : z 29 = .agg (u8s TG) := hz 0 _ (hw 0 (by kernel_rfl)) rfl
        have e4 : z 33 = .agg (u8s TG) := hz 4 _ (hw 4 (by kernel_rfl)) rfl
        have eq := equal35_same TG HTl.out wx
        refine wpOp_plain rfl rfl ?_
        go_simp
        exact ⟨⟨by simp [hsz.out], hx.out⟩, upd z 34 (.bool false), (by unfold Hid; simp [upd, e0, e4]), hz.next apx hsz.out 5 (by decide) _ (fun _ h => Option.some.inj h), hp3.keep (by decide)⟩
    · exact ⟨⟨rfl, (Below.refl _ _).drew⟩, fun xx => (#[.agg (u8s k), .string nm, .slice A m c, .pointer (some ⟨g0, 0, none⟩), undef, undef, .bool false, .pointer (some ⟨g7, 0, none⟩), .string (strOfNums (wholeL nl B)), undef, undef, u11, u12, u13, u14, u15, .slice A n c, .slice A m c, .agg (u8s k), .string nm, .slice A m c, .slice (some ⟨wc.heap.size, 0, none⟩) 1 1, .agg (u8s TG), .string nm, .slice (some ⟨w2.heap.size, 0, none⟩) nm.size c3, v4, .slice A m c, .slice A5 (8 + nm.size + m) c5, .string (strOfNums (wholeL nl B)), u29, u30, u31, u32, u33, u34, u35, u36, u37, u38, u39, u40, u41, u42, u43, u44, u45, u46, u47, u48, u49, u50, u51, u52, u53, u54, u55, u56, u57, u58, u59, u60, u61, u62, u63, u64, u65, u66, u67, u68, u69, u70, u71, u72, u73, u74, u75, u76, u77] : Array Value).getD xx undef, (by rfl), Holding.start, Whn.none (by decide)⟩
end Go.Proofs.YtldaihpgokloeacDoor.lawApart
