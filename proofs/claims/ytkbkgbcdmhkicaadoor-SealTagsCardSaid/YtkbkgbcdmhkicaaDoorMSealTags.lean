/- DERIVED. The walk of SealTags (mktags.py writes this text). -/
import Derived.Test.YtkbkgbcdmhkicaaDoorMSealBack
import Derived.Test.YtkbkgbcdmhkicaaDoorMStr
namespace Go.Proofs.YtkbkgbcdmhkicaaDoor
open Go.RowKit
/-- until operation q comes, the slot holds its old value. -/
def BefP (l : Array Bool) (q : Nat) (z : Nat → Value) (slot : Nat) (val : Value) : Prop := l.getD q false = false → z slot = val
theorem BefP.keep {l : Array Bool} {z : Nat → Value} {q k d slot : Nat} {v val : Value} (h : BefP l q z slot val) (hd : slot ≠ d) : BefP (l.setIfInBounds k true) q (upd z d v) slot val := fun hl => by
  unfold upd
  rw [if_neg hd]
  refine h ?_
  cases e : l.getD q false with
  | false => rfl
  | true => rw [getD_set_true e] at hl; cases hl
theorem BefP.past {l : Array Bool} {z : Nat → Value} {q slot : Nat} {val : Value} (hq : q < l.size) : BefP (l.setIfInBounds q true) q z slot val := fun h => by simp [hq] at h
theorem BefP.ok {l : Array Bool} {q i : Nat} (h : l.getD q false = true → l.getD i false = true) (hu : l.getD i false = false) : l.getD q false = false := by
  cases e : l.getD q false with
  | false => rfl
  | true => rw [h e] at hu; cases hu
theorem BefP.start {l : Array Bool} {z : Nat → Value} {q slot : Nat} {val : Value} (h : z slot = val) : BefP l q z slot val := fun _ => h
end Go.Proofs.YtkbkgbcdmhkicaaDoor
namespace Go.Proofs.YtkbkgbcdmhkicaaDoor.Seal
open Go.RowKit
set_option maxRecDepth 100000 in
set_option maxHeartbeats 1000000 in
theorem lnum_any (n k : Nat) (hk : k ≤ 8) (hn : n < 18446744073709551616) (w : World) : Calls Tryd.prog 20 #[.int .u64 (n : Int), .int .i64 (k : Int)] w fun e w' => ∃ v, e = .returned v ∧ OwnB w.heap.size (numL n k) v w' ∧ Below w.heap.size w w' := by
  have hkI : (k : Int) ≤ 8 := by omega
  have HN : Hid (n < 18446744073709551616) := hn
  clear hn
  go_enter Tryd.func20, Tryd.ntmps20
  go_wp2
  go_loopw [5, 6] (fun v x wr => ∃ i : Nat, i ≤ k ∧ x = .int .i64 ((i : Int) - 1) ∧ Hid (∃ X, OwnB w.heap.size X v wr ∧ X ++ numL n i = numL n k) ∧ Hid (Below w.heap.size w wr)) (fun _ x _ => (intOf x + 1).toNat)
  case atStart => exact ⟨k, Nat.le_refl _, rfl, ⟨[], World.ownsRow_nil w w.heap.size 5 1, rfl⟩, Below.refl _ _⟩
  case round =>
    obtain ⟨i, hi, rfl, hX, low⟩ := hrel
    cases i with
    | zero =>
      obtain ⟨X, hown, hx⟩ := hX.out
      rw [numL, List.append_nil] at hx
      subst hx
      have Ho := Lib.hid hown
      clear hown hX
      go_wp2
      go_ret
      exact ⟨_, rfl, Ho.out, low.out⟩
    | succ j =>
      obtain ⟨X, hown, hx⟩ := hX.out
      have hXl : X.length ≤ 8 := by have := congrArg List.length hx; simp [numL_length] at this; omega
      have e1 : ((j + 1 : Nat) : Int) - 1 = j := by omega
      have hsh := shr_wrap n j
      obtain ⟨d, hd⟩ : ∃ d : Int, d = ((n / 256 ^ j % 256 : Nat) : Int) := ⟨_, rfl⟩
      rw [← hd] at hsh
      have hx2 : (X ++ [d]) ++ numL n j = numL n k := by rw [← hx, hd, numL, List.append_assoc]; rfl
      have Hsh := Lib.hid hsh
      have Hx2 := Lib.hid hx2
      have Hown := Lib.hid hown
      have hj8 : (j : Int) ≤ 8 := by omega
      have hsz := low.out.size
      clear hX hown hx hsh hd hx2
      rw [e1]
      go_wp2_with (at_builtin; rw [Hsh.out]; refine wpList_append_any rfl (.tmp 13) (.tmp 20) rfl w.heap.size _ X.length X rfl (Hown.out.later ((Below.refl _ _).alloc (Nat.le_refl _) _)) (some ⟨wr.heap.size, 0, none⟩) 1 1 [d] rfl rfl (byt_rowF (l := [d]) (Go.heap_alloc_new wr _) rfl) (by omega) (by rw [World.size_alloc]; omega) ?_; intro v3 w3 own3 hlow3; have Own3 := Lib.hid own3; have Low3 := Lib.hid (hlow3 _ _ (low.out.alloc hsz _) (Nat.le_refl _)); clear own3 hlow3)
      refine ⟨⟨j, by omega, rfl, ⟨_, by unfold OwnB; rw [List.length_append]; exact Own3.out, Hx2.out⟩, Low3.out⟩, ?_⟩
      simp [intOf]
theorem wp_app_any {o : Oper} {a : Act} {K : Act → World → Prop} {Q : Exit → Act → World → Prop} {w : World} (s x : Operand)
    (ho : o.op = .call { callee := .builtin .append, args := #[s, x], argTypes := #[24, 24] }) (base : Nat) (v : Value) (L : List Int) (hs : a.eval s = v) (hown : OwnB base L v w)
    (vx : Value) (M : List Int) (hx : a.eval x = vx) (hB : SlB M vx w) (h63 : L.length + M.length ≤ 4294967296) (hbase : base ≤ w.heap.size)
    (h : ∀ v' w', OwnB base (L ++ M) v' w' → (∀ B u, Below B u w → B ≤ base → Below B u w') → K (a.put o.dst v') w') : o.wp Tryd.prog a w K Q := by
  obtain ⟨i0, hi0, hz00, hz10, hz20⟩ := info_parts info8z
  obtain ⟨A, c, rfl, hb⟩ := hB
  cases A with
  | none =>
    have hc := hb.2.1 rfl
    have hm0 : M.length = 0 := by have := hb.1; omega
    obtain rfl : M = [] := List.eq_nil_of_length_eq_zero hm0
    subst hc
    have hr := run_append_owned_none (P := Tryd.prog) (w := w) base 24 o.type 5 i0 1 Tryd.underlying24 hi0 v L.length (vals L) hown
    unfold Oper.wp execOp
    simp only [ho, resolve, invoke, builtin, Sem.run_bind, Sem.run_pure, Result.andThen_ok, List.map_toArray, List.map_cons, List.map_nil, hs, hx, List.length_nil, hr]
    exact h v w (by rw [List.append_nil]; exact hown) (fun _ _ h _ => h)
  | some ad =>
    obtain ⟨v', w', hr, hown', hgrow, _⟩ := run_append_own (P := Tryd.prog) w base 24 o.type 5 i0 (.int .u8 0) 1 1 Tryd.underlying24 hi0 hz00 hz10 hz20 rfl (by decide) v L.length (vals L) hown ad M.length c (vals M) (by rw [vals_length]; omega)
      (hb.cells (fun _ _ => rfl) ad rfl) (vals_one _) (by unfold maxLen; omega) (by omega) hbase
    rw [vals_app] at hown'
    unfold Oper.wp execOp
    simp only [ho, resolve, invoke, builtin, Sem.run_bind, Sem.run_pure, Result.andThen_ok, List.map_toArray, List.map_cons, List.map_nil, hs, hx, hr]
    exact h v' w' (by unfold OwnB; rw [List.length_append]; exact hown') (fun B u hu hB' => hu.grown hgrow (by omega) (fun k hk => Nat.le_trans hB' (own_ge hown k hk)))
/-- a row appended to by operation q: its old bytes stand until then. -/
structure AppR (q : Nat) (wb : World) (L : List Int) (v : Value) (ll : Array Bool) (wx : World) : Prop where
  low : Below wb.heap.size wb wx
  own : ll.getD q false = false → OwnB wb.heap.size L v wx
theorem AppR.start {q n : Nat} {wb W : World} {L : List Int} {v : Value} (h : Below wb.heap.size wb W) (ho : OwnB wb.heap.size L v W) : AppR q wb L v (Array.replicate n false) W.drew := ⟨h.drew, fun _ => ho.later (Below.refl _ _).drew⟩
theorem AppR.same {q i : Nat} {wb wx : World} {L : List Int} {v : Value} {ll : Array Bool} (h : AppR q wb L v ll wx) (hi : i ≠ q) : AppR q wb L v (ll.setIfInBounds i true) wx := ⟨h.low, by rw [getD_set_ne false hi]; exact h.own⟩
theorem AppR.call {q i : Nat} {wb wx w' : World} {L : List Int} {v : Value} {ll : Array Bool} (h : AppR q wb L v ll wx) (hi : i ≠ q) (hb : Below wx.heap.size wx w') : AppR q wb L v (ll.setIfInBounds i true) w' :=
  ⟨h.low.trans (hb.mono h.low.size), by rw [getD_set_ne false hi]; exact fun hl => (h.own hl).later hb⟩
theorem AppR.done {q : Nat} {wb wx w' : World} {L : List Int} {v : Value} {ll : Array Bool} (_h : AppR q wb L v ll wx) (hs : q < ll.size) (hl : Below wb.heap.size wb w') : AppR q wb L v (ll.setIfInBounds q true) w' := ⟨hl, fun h => by simp [hs] at h⟩
theorem AppR.past {q i : Nat} {wb wx w' : World} {L : List Int} {v : Value} {ll : Array Bool} (_h : AppR q wb L v ll wx) (hl : Below wb.heap.size wb w') (hq : ll.getD q false = true) : AppR q wb L v (ll.setIfInBounds i true) w' := ⟨hl, fun h => by rw [getD_set_true hq] at h; cases h⟩
theorem open_three {r : Option (List Int × Nat)} {e : Ending} {w' : World} (h : OpenQ r e w') : ∃ (A7 : Option Addr) (l7 c7 : Nat) (x8 e9 : Int), e = .returned (.tuple #[.slice A7 l7 c7, .int .u32 x8, .int .i64 e9]) ∧ ((r = none → l7 = 0 ∧ x8 = 0 ∧ e9 = 9) ∧ (e9 = 0 ∨ e9 = 9)) := by
  cases r with
  | none => exact ⟨none, 0, 0, 0, 9, h, fun _ => ⟨rfl, rfl, rfl⟩, .inr rfl⟩
  | some x =>
    obtain ⟨v, rfl, A, c, rfl, _⟩ := h
    exact ⟨A, _, c, _, 0, rfl, (fun h => by cases h), .inl rfl⟩
theorem take_tagged {S : List Int} {q E : Nat} (hS : S.length = 36 + q) (hi : InB S) (hE : be4 S = E) : S.take (4 + q) = numL E 4 ++ (S.drop 4).take q := by
  have h4 := numL_be4 (L := S.take 4) (hi.take 4) (by rw [List.length_take]; omega)
  rw [be4_take, hE, Int.toNat_natCast] at h4
  rw [h4, List.take_add]
set_option maxRecDepth 100000 in
set_option maxHeartbeats 4000000 in
theorem tags_long (k : List Int) (A A2 : Option Addr) (n c m c2 pos ep : Nat) (w : World) (hl : 3000 < m ∨ 200 < n) (hLd : SLaid w) : Calls Tryd.prog 8 #[.agg (u8s k), .agg #[.slice A n c, .int .u64 (pos : Nat), .int .u32 (ep : Nat)], .slice A2 m c2] w fun e w' => e = .returned (.bool true) ∧ Below w.heap.size w w' := by
  have HLg := Lib.hid (long_yes (A := A) (A2 := A2) (c := c) (c2 := c2) (pos := .int .u64 (pos : Nat)) (ep := .int .u32 (ep : Nat)) hl)
  have HX := Lib.hid (BX.start (k := k) (C := #[.slice A n c, .int .u64 (pos : Nat), .int .u32 (ep : Nat)]) (w := w) (.cells #[.slice A2 m c2] 24))
  have HLD := Lib.hid hLd
  clear hl hLd
  go_enter Tryd.func8, Tryd.ntmps8
  go_wp2_with (first
    | (go_at_call 9; refine (HLg.out _ _ (cell_row (three_new w _ _ _).2.2 0)).mono ?_; rintro e w1 ⟨rfl, hb1⟩; have H1 := Lib.hid (HX.out.later hb1); clear hb1)
    | (go_at_call 10; refine (awake_any _ (HLD.out.later H1.out.low)).mono ?_; rintro e wz ⟨rfl, hbz⟩; have Hbz := Lib.hid hbz; clear hbz))
  go_ret
  exact ⟨rfl, H1.out.low.trans (Hbz.out.mono H1.out.low.size)⟩
set_option maxRecDepth 100000 in
set_option maxHeartbeats 4000000 in
theorem tags_short (k C S : List Int) (pos ep : Nat) (A A2 : Option Addr) (n c m c2 : Nat) (w : World) (hk : k.length = 32) (hkb : InB k) (hC : C.length = n) (hCin : InB C) (hS : S.length = m) (hSin : InB S) (hp : pos < 18446744073709551616 ∧ ep < 4294967296) (hCb : Byt w A c C) (hSb : Byt w A2 c2 S) (hLd : SLaid w) (hl : ¬ (3000 < m ∨ 200 < n)) (hm : m < 100) : Calls Tryd.prog 8 #[.agg (u8s k), .agg #[.slice A n c, .int .u64 (pos : Nat), .int .u32 (ep : Nat)], .slice A2 m c2] w fun e w' => e = .returned (.bool true) ∧ Below w.heap.size w w' := by
  have HLg := Lib.hid (long_not (A := A) (A2 := A2) (c := c) (c2 := c2) (pos := .int .u64 (pos : Nat)) (ep := .int .u32 (ep : Nat)) hl)
  have HX := Lib.hid (BX.start (k := k) (C := #[.slice A n c, .int .u64 (pos : Nat), .int .u32 (ep : Nat)]) (w := w) (.cells #[.slice A2 m c2] 24))
  have HNo : Hid (openL k C pos S = none) := openL_no1 (by rw [hS]; intro h; have := isBk_pos h; omega)
  have HS : Hid (S.length = m ∧ InB S ∧ m ≤ 200000) := ⟨hS, hSin, by omega⟩
  have HK : Hid (k.length = 32 ∧ InB k) := ⟨hk, hkb⟩
  have HC : Hid (C.length = n ∧ InB C ∧ n ≤ 1000) := ⟨hC, hCin, by omega⟩
  have HP := Lib.hid hp
  have HCb := Lib.hid hCb
  have HSb := Lib.hid hSb
  have HLD := Lib.hid hLd
  have HsK0 : Hid ((Tryd.prog.info? 23).map (·.size) = some (u8s k).size) := by show _ = _; rw [u8s_size, hk]; exact infoH
  have hmI : (m : Int) - 36 < 64 := by omega
  have hmI2 : (m : Int) ≤ 100 := by omega
  clear hl hk hkb hC hCin hS hSin hp hCb hSb hLd hm
  go_enter Tryd.func8, Tryd.ntmps8
  go_upto_region 3 with (go_at_call 9; refine (HLg.out _ _ (cell_row (three_new w _ _ _).2.2 0)).mono ?_; rintro e w1 ⟨rfl, hb1⟩; have H1 := Lib.hid (HX.out.later hb1); clear hb1)
  clear HX HLg
  go_upto_region 4 with (first
    | (go_at_call 15; refine (open_any k C S pos ep A A2 n c m c2 w1 HK.out.1 HK.out.2 HC.out.1 HC.out.2.1 HC.out.2.2 HS.out.1 HS.out.2.1 HS.out.2.2 HP.out.1 (HCb.out.below H1.out.low (Nat.le_refl _)) (HSb.out.below H1.out.low (Nat.le_refl _)) (HLD.out.later H1.out.low)).mono ?_; rintro e w2 ⟨he, hb2⟩; obtain ⟨A7, l7, c7, x8, e9, rfl, hq⟩ := open_three he; have HQ := Lib.hid hq; have H2 := Lib.hid (H1.out.later hb2); clear he hq hb2)
    | (refine wpList_load_row rfl 23 (.tmp 3) rfl w.heap.size rfl 23 (u8s k) (0, 0) _ H1.out.key Tryd.underlying23 rfl HsK0.out ?_)
    | (refine wpList_load_row rfl 28 (.tmp 4) rfl (w.heap.size + 1) rfl 28 #[.slice A n c, .int .u64 (pos : Nat), .int .u32 (ep : Nat)] (0, 0) _ H1.out.pl Tryd.underlying28 rfl infoP ?_))
  clear H1
  obtain ⟨rfl, rfl, rfl⟩ := HQ.out.1 HNo.out
  clear HQ HNo
  go_wp2_with (go_at_call 10; refine (awake_any _ (HLD.out.later H2.out.low)).mono ?_; rintro e wz ⟨rfl, hbz⟩; have Hbz := Lib.hid hbz; clear hbz)
  go_ret
  exact ⟨rfl, H2.out.low.trans (Hbz.out.mono H2.out.low.size)⟩
set_option maxRecDepth 100000 in
set_option maxHeartbeats 8000000 in
theorem tags_many (k C S : List Int) (pos ep q : Nat) (A A2 : Option Addr) (n c m c2 : Nat) (w : World) (hk : k.length = 32) (hkb : InB k) (hC : C.length = n) (hCin : InB C) (hS : S.length = m) (hSin : InB S) (hp : pos < 18446744073709551616 ∧ ep < 4294967296) (hCb : Byt w A c C) (hSb : Byt w A2 c2 S) (hLd : SLaid w) (hl : ¬ (3000 < m ∨ 200 < n)) (hm : m = 36 + q) (hq64 : 64 ≤ q) : Calls Tryd.prog 8 #[.agg (u8s k), .agg #[.slice A n c, .int .u64 (pos : Nat), .int .u32 (ep : Nat)], .slice A2 m c2] w fun e w' => e = .returned (.bool true) ∧ Below w.heap.size w w' := by
  have HLg := Lib.hid (long_not (A := A) (A2 := A2) (c := c) (c2 := c2) (pos := .int .u64 (pos : Nat)) (ep := .int .u32 (ep : Nat)) hl)
  have HX := Lib.hid (BX.start (k := k) (C := #[.slice A n c, .int .u64 (pos : Nat), .int .u32 (ep : Nat)]) (w := w) (.cells #[.slice A2 m c2] 24))
  have hE4 := be4_in hSin
  obtain ⟨E, hE⟩ : ∃ E : Nat, be4 S = E := ⟨(be4 S).toNat, by omega⟩
  obtain ⟨B, hB⟩ : ∃ B, B = (S.drop 4).take q := ⟨_, rfl⟩
  obtain ⟨TD, hTD⟩ : ∃ TD, TD = S.drop (4 + q) := ⟨_, rfl⟩
  obtain ⟨KK, hKK⟩ : ∃ KK, KK = keyL k tagName C := ⟨_, rfl⟩
  obtain ⟨TT, hTT⟩ : ∃ TT, TT = tagL k C pos E B := ⟨_, rfl⟩
  obtain ⟨T, hT⟩ : ∃ T, T = taggedL C pos E B := ⟨_, rfl⟩
  have hBl : B.length = q := by rw [hB, List.length_take, List.length_drop, hS]; omega
  have hBin : InB B := by rw [hB]; exact (hSin.drop _).take _
  have hTDl : TD.length = 32 := by rw [hTD, List.length_drop, hS]; omega
  have HNo : Hid (TT ≠ TD → openL k C pos S = none) := fun h => openL_no2 (hS.trans hm) hE (by rw [← hB, ← hTT, ← hTD]; exact h)
  obtain ⟨G1, hG1⟩ : ∃ G1, G1 = numL n 4 ++ C := ⟨_, rfl⟩
  obtain ⟨G2, hG2⟩ : ∃ G2, G2 = G1 ++ numL pos 8 := ⟨_, rfl⟩
  obtain ⟨G3, hG3⟩ : ∃ G3, G3 = G2 ++ S.take (4 + q) := ⟨_, rfl⟩
  have HG1 : Hid (numL n 4 ++ C = G1) := hG1.symm
  have HG2 : Hid (G1 ++ numL pos 8 = G2) := hG2.symm
  have HG3 : Hid (G2 ++ S.take (4 + q) = G3) := hG3.symm
  have HG : Hid (G1.length ≤ 1000 ∧ G2.length ≤ 1000) := ⟨by rw [hG1, List.length_append, numL_length]; omega, by rw [hG2, hG1, List.length_append, List.length_append, numL_length, numL_length]; omega⟩
  have HQ3 : Hid (G3 = T) := by
    show _ = _
    rw [hG3, hG2, hG1, hT, take_tagged (hS.trans hm) hSin hE, ← hB, taggedL, hC]
    simp
  have HTm : Hid (TT = hmacL KK T) := by rw [hTT, hKK, hT]; rfl
  have HKe : Hid (KK = keyL k tagName C) := hKK
  have HKN : Hid (KK.length = 32 ∧ InB KK) := ⟨by rw [hKK]; exact keyL_length _ _ _, by rw [hKK]; exact keyL_in _ _ _⟩
  have HTi : Hid (InB T ∧ T.length ≤ 150000) := ⟨by rw [hT]; exact taggedL_in hCin hBin, by rw [hT, taggedL_length]; omega⟩
  have HT32 : Hid (TT.length = 32 ∧ InB TT) := ⟨by rw [hTT]; exact tagL_length _ _ _ _ _, by rw [hTT]; exact tagL_in _ _ _ _ _⟩
  have HTD : Hid (TD.length = 32 ∧ InB TD) := ⟨hTDl, by rw [hTD]; exact hSin.drop _⟩
  have HS : Hid (S.length = m ∧ InB S ∧ m ≤ 200000) := ⟨hS, hSin, by omega⟩
  have HK : Hid (k.length = 32 ∧ InB k) := ⟨hk, hkb⟩
  have HC : Hid (C.length = n ∧ InB C ∧ n ≤ 1000) := ⟨hC, hCin, by omega⟩
  have HP := Lib.hid hp
  have hmc : m ≤ c2 := by rw [← hS]; exact hSb.1
  obtain ⟨g, off, rfl, _, _⟩ := hSb.2.2 (by omega)
  have HTDb : Hid (∀ w', Below w.heap.size w w' → Byt w' (some ⟨g, off + (4 + q), none⟩) (c2 - (4 + q)) TD) := fun w' h => by
    have h2 := byt_sub (hSb.below h (Nat.le_refl _)) (4 + q) 32 (by omega) (by omega)
    rwa [List.take_of_length_le (by rw [List.length_drop]; omega), ← hTD] at h2
  have HCb := Lib.hid hCb
  have HSb := Lib.hid hSb
  have HLD := Lib.hid hLd
  have Hmq := Lib.hid hm
  have HsK0 : Hid ((Tryd.prog.info? 23).map (·.size) = some (u8s k).size) := by show _ = _; rw [u8s_size, hk]; exact infoH
  have hmI : (m : Int) - 36 = q := by omega
  have hmI2 : (m : Int) ≤ 3000 := by omega
  have hq2 : ¬ (q : Int) < 64 := by omega
  have hnI : (n : Int) ≤ 200 := by omega
  have hnn : n ≤ 200 := by omega
  clear hG1 hG2 hG3 hE4 hE hB hTD hKK hTT hT hBl hBin hTDl hl hk hkb hC hCin hS hSin hp hCb hSb hLd hm
  go_enter Tryd.func8, Tryd.ntmps8
  go_upto_region 3 with (go_at_call 9; refine (HLg.out _ _ (cell_row (three_new w _ _ _).2.2 0)).mono ?_; rintro e w1 ⟨rfl, hb1⟩; have H1 := Lib.hid (HX.out.later hb1); clear hb1)
  clear HX HLg
  go_upto_region 4 with (first
    | (go_at_call 15; refine (open_any k C S pos ep A (some ⟨g, off, none⟩) n c m c2 w1 HK.out.1 HK.out.2 HC.out.1 HC.out.2.1 HC.out.2.2 HS.out.1 HS.out.2.1 HS.out.2.2 HP.out.1 (HCb.out.below H1.out.low (Nat.le_refl _)) (HSb.out.below H1.out.low (Nat.le_refl _)) (HLD.out.later H1.out.low)).mono ?_; rintro e w2 ⟨he, hb2⟩; obtain ⟨A7, l7, c7, x8, e9, rfl, hq⟩ := open_three he; have HQ := Lib.hid hq; have H2 := Lib.hid (H1.out.later hb2); clear he hq hb2)
    | (refine wpList_load_row rfl 23 (.tmp 3) rfl w.heap.size rfl 23 (u8s k) (0, 0) _ H1.out.key Tryd.underlying23 rfl HsK0.out ?_)
    | (refine wpList_load_row rfl 28 (.tmp 4) rfl (w.heap.size + 1) rfl 28 #[.slice A n c, .int .u64 (pos : Nat), .int .u32 (ep : Nat)] (0, 0) _ H1.out.pl Tryd.underlying28 rfl infoP ?_))
  clear H1
  have CP0' := cell_row H2.out.pl 0
  simp only [List.getElem?_toArray, List.getElem?_cons_zero] at CP0'
  go_upto_region 8 with (first
    | (go_at_call 19; refine (key_call k C tagName _ rfl A n c w2.heap.size _ HK.out.1 HK.out.2 HC.out.1 HC.out.2.1 HC.out.2.2 (by decide) (HLD.out.later (H2.out.low.alloc H2.out.low.size _)).sha (HCb.out.below (H2.out.low.alloc H2.out.low.size _) (Nat.le_refl _)) (cell_row (Go.heap_alloc_new w2 _) 0)).mono ?_; rintro e w5 ⟨rfl, hb5⟩; rw [← HKe.out]; have H5 := Lib.hid ((H2.out.later ((Below.refl _ _).alloc (Nat.le_refl _) _)).later hb5); clear hb5)
    | (refine wpList_store_new rfl (.tmp 11) (.tmp 46) rfl KK HKN.out.1 _ (by rfl) (by rfl) (by rfl) ?_; intro w6 hr6 hb6; have HKK := Lib.hid hr6; have H6 := Lib.hid (H5.out.later hb6); clear hr6 hb6)
    | (refine wpList_load_row rfl 23 (.tmp 3) rfl w.heap.size rfl 23 (u8s k) (0, 0) _ H2.out.key Tryd.underlying23 rfl HsK0.out ?_))
  have CP0 : Hid (w6.cell? ⟨w.heap.size + 1, 0, none⟩ = some (.slice A n c)) := by have := cell_row H6.out.pl 0; exact this
  have CP1 : Hid (w6.cell? ⟨w.heap.size + 1, 1, none⟩ = some (.int .u64 (pos : Nat))) := by have := cell_row H6.out.pl 1; exact this
  have HCb6 := Lib.hid (HCb.out.below H6.out.low (Nat.le_refl _))
  have HSb6 := Lib.hid (HSb.out.below H6.out.low (Nat.le_refl _))
  have hwn : IntKind.u64.wrap (n : Int) = n := by simp [IntKind.wrap, IntKind.bits, IntKind.signed]; omega
  clear H5 H2 CP0' hmI HCb
  rw [show ∀ (a : Act) (u : Value), a.put none u = a from fun _ _ => rfl]
  go_cut [12] from 47 to 54 (fun s12 wx => OwnB w6.heap.size G1 s12 wx ∧ Below w6.heap.size w6 wx)
  case first =>
    have apx : apartB [47, 48, 49, 50, 51, 52, 53, 54, 12] = true := by decide
    refine wp_region_any (by kernel_rfl) ?_
    change wpAny _ _ _ _ _ _ _ (World.drew _)
    refine wpAny_inv2 (fun ll aa wx => Hid (ll.size = 9 ∧ Below w6.heap.size w6 wx) ∧ ∃ (z : Nat → Value), Hid (aa = ⟨#[.agg (u8s k), .agg #[.slice A n c, .int .u64 (pos : Nat), .int .u32 (ep : Nat)], .slice (some ⟨g, off, none⟩) m c2, .pointer (some ⟨w.heap.size, 0, none⟩), .pointer (some ⟨w.heap.size + 1, 0, none⟩), undef, .bool false, .slice A7 l7 c7, .int .u32 x8, .int .i64 e9, .int .i64 (q : Nat), .pointer (some ⟨w5.heap.size, 0, none⟩), z 12, undef, .agg #[.slice A n c, .int .u64 (pos : Nat), .int .u32 (ep : Nat)], .slice (some ⟨g, off, none⟩) m c2, .slice (some ⟨w.heap.size + 1 + 1, 0, none⟩) 1 1, .bool false, undef, .tuple #[.slice A7 l7 c7, .int .u32 x8, .int .i64 e9], .agg (u8s k), .agg #[.slice A n c, .int .u64 (pos : Nat), .int .u32 (ep : Nat)], .slice (some ⟨g, off, none⟩) m c2, .tuple #[.slice A7 l7 c7, .int .u32 x8, .int .i64 e9], .slice A7 l7 c7, .int .u32 x8, .int .i64 e9, .slice (some ⟨g, off, none⟩) m c2, .int .i64 (m : Nat), .int .i64 (q : Nat), .int .i64 (q : Nat), .bool (decide ((q : Int) < 64)), undef, undef, undef, undef, undef, undef, undef, undef, undef, undef, .agg (u8s k), .pointer (some ⟨w.heap.size + 1, 0, none⟩), .slice A n c, .slice (some ⟨w2.heap.size, 0, none⟩) 1 1, .agg (u8s KK), z 47, z 48, z 49, z 50, z 51, z 52, z 53, z 54, undef, undef, undef, undef, undef, undef, undef, undef, undef, undef, undef, undef, undef, undef, undef, undef, undef, undef, undef, undef, undef, undef, undef, undef, undef, undef, undef, undef, undef, undef, undef, undef, undef, undef, undef, undef, undef, undef, undef, undef, undef, undef, undef, undef], []⟩) ∧ Holding [47, 48, 49, 50, 51, 52, 53, 54, 12] [some (.pointer (some ⟨w.heap.size + 1, 0, none⟩)), some (.slice A n c), some (.int .i64 (n : Nat)), some (.int .u64 (n : Nat)), none, some (.pointer (some ⟨w.heap.size + 1, 0, none⟩)), some (.slice A n c), none, none] ll z ∧ Whu ll 4 7 (OwnB w6.heap.size (numL n 4)) (z 51) wx ∧ Whn ll 7 (OwnB w6.heap.size (G1)) (z 54) wx ∧ Whn ll 8 (OwnB w6.heap.size (G1)) (z 12) wx) ?_ (by kernel_rfl) ?_ ?_ _ rfl _ _ ?_
    · rintro ll aa wx ⟨hI, _⟩
      exact hI.out.1
    · rintro ll aa wx ⟨hI, z, ha, hz, hp4, hp7, hp8⟩ hall
      have hx := Lib.hid hI.out.2
      have e0 : z 47 = .pointer (some ⟨w.heap.size + 1, 0, none⟩) := hz 0 _ (hall 0 (by decide)) rfl
      have e1 : z 48 = .slice A n c := hz 1 _ (hall 1 (by decide)) rfl
      have e2 : z 49 = .int .i64 (n : Nat) := hz 2 _ (hall 2 (by decide)) rfl
      have e3 : z 50 = .int .u64 (n : Nat) := hz 3 _ (hall 3 (by decide)) rfl
      have e5 : z 52 = .pointer (some ⟨w.heap.size + 1, 0, none⟩) := hz 5 _ (hall 5 (by decide)) rfl
      have e6 : z 53 = .slice A n c := hz 6 _ (hall 6 (by decide)) rfl
      have p7 := hp7.get (hall 7 (by decide))
      have p8 := hp8.get (hall 8 (by decide))
      clear hall hz hI hp4 hp7 hp8
      obtain rfl := ha.out
      clear ha
      clear apx
      have HXX := Lib.hid hx.out
      have HS8 := Lib.hid p8
      clear e0 e1 e2 e3 e5 e6 hx p7 p8
      go_wp2
      go_meet
      exact ⟨HS8.out, HXX.out⟩
    · rintro ll aa wx i ⟨hI, z, ha, hz, hp4, hp7, hp8⟩ hcl hi hu hw
      obtain rfl := ha.out
      have hsz := Lib.hid hI.out.1
      have hx := Lib.hid hI.out.2
      clear ha hI
      have hin : i < 9 := hi
      obtain rfl | rfl | rfl | rfl | rfl | rfl | rfl | rfl | rfl : i = 0 ∨ i = 1 ∨ i = 2 ∨ i = 3 ∨ i = 4 ∨ i = 5 ∨ i = 6 ∨ i = 7 ∨ i = 8 := by omega
      · refine wpOp_plain rfl rfl ?_
        go_simp
        exact ⟨⟨by simp [hsz.out], hx.out⟩, upd z 47 (.pointer (some ⟨w.heap.size + 1, 0, none⟩)), (by unfold Hid; simp [upd]), hz.next apx hsz.out 0 (by decide) _ (fun _ h => Option.some.inj h), hp4.keep (by decide), hp7.keep (by decide), hp8.keep (by decide)⟩
      · have e0 : z 47 = .pointer (some ⟨w.heap.size + 1, 0, none⟩) := hz 0 _ (hw 0 (by kernel_rfl)) rfl
        have cl : wx.cell? ⟨w.heap.size + 1, 0, none⟩ = some (.slice A n c) := (hx.out.cell (p := ⟨w.heap.size + 1, 0, none⟩) (World.block_lt_of_cell? _ _ CP0.out)).trans CP0.out
        refine wpOp_plain rfl rfl ?_
        go_simp
        exact ⟨⟨by simp [hsz.out], hx.out⟩, upd z 48 (.slice A n c), (by unfold Hid; simp [upd, e0]), hz.next apx hsz.out 1 (by decide) _ (fun _ h => Option.some.inj h), hp4.keep (by decide), hp7.keep (by decide), hp8.keep (by decide)⟩
      · have e1 : z 48 = .slice A n c := hz 1 _ (hw 1 (by kernel_rfl)) rfl
        refine wpOp_plain rfl rfl ?_
        go_simp
        exact ⟨⟨by simp [hsz.out], hx.out⟩, upd z 49 (.int .i64 (n : Nat)), (by unfold Hid; simp [upd, e1]), hz.next apx hsz.out 2 (by decide) _ (fun _ h => Option.some.inj h), hp4.keep (by decide), hp7.keep (by decide), hp8.keep (by decide)⟩
      · have e2 : z 49 = .int .i64 (n : Nat) := hz 2 _ (hw 2 (by kernel_rfl)) rfl
        refine wpOp_plain rfl rfl ?_
        go_simp
        exact ⟨⟨by simp [hsz.out], hx.out⟩, upd z 50 (.int .u64 (n : Nat)), (by unfold Hid; simp [upd, e2]), hz.next apx hsz.out 3 (by decide) _ (fun _ h => Option.some.inj h), hp4.keep (by decide), hp7.keep (by decide), hp8.keep (by decide)⟩
      · have e3 : z 50 = .int .u64 (n : Nat) := hz 3 _ (hw 3 (by kernel_rfl)) rfl
        refine wpOp_plain rfl rfl ?_
        go_simp
        go_at_call 20
        refine (lnum_any n 4 (by decide) (by omega) wx).mono ?_
        rintro e w9 ⟨vr, rfl, hsb, low⟩
        exact ⟨⟨by simp [hsz.out], hx.out.trans (low.mono hx.out.size)⟩, upd z 51 (vr), (by unfold Hid; simp [upd, e3]), hz.next apx hsz.out 4 (by decide) _ (fun _ h => by cases h), Whu.done (hsb.base hx.out.size), (hp7.keep (by decide)).map (fun h => h.later low), (hp8.keep (by decide)).map (fun h => h.later low)⟩
      · refine wpOp_plain rfl rfl ?_
        go_simp
        exact ⟨⟨by simp [hsz.out], hx.out⟩, upd z 52 (.pointer (some ⟨w.heap.size + 1, 0, none⟩)), (by unfold Hid; simp [upd]), hz.next apx hsz.out 5 (by decide) _ (fun _ h => Option.some.inj h), hp4.keep (by decide), hp7.keep (by decide), hp8.keep (by decide)⟩
      · have e5 : z 52 = .pointer (some ⟨w.heap.size + 1, 0, none⟩) := hz 5 _ (hw 5 (by kernel_rfl)) rfl
        have cl : wx.cell? ⟨w.heap.size + 1, 0, none⟩ = some (.slice A n c) := (hx.out.cell (p := ⟨w.heap.size + 1, 0, none⟩) (World.block_lt_of_cell? _ _ CP0.out)).trans CP0.out
        refine wpOp_plain rfl rfl ?_
        go_simp
        exact ⟨⟨by simp [hsz.out], hx.out⟩, upd z 53 (.slice A n c), (by unfold Hid; simp [upd, e5]), hz.next apx hsz.out 6 (by decide) _ (fun _ h => Option.some.inj h), hp4.keep (by decide), hp7.keep (by decide), hp8.keep (by decide)⟩
      · have e6 : z 53 = .slice A n c := hz 6 _ (hw 6 (by kernel_rfl)) rfl
        have p4 := hp4.get (hw 4 (by kernel_rfl)) hu
        refine wpOp_plain rfl rfl (wp_app_any (.tmp 51) (.tmp 53) rfl w6.heap.size (z 51) (numL n 4) rfl p4 (.slice A n c) C e6 ⟨A, c, by rw [HC.out.1], HCb6.out.below hx.out (Nat.le_refl _)⟩ (by have := HC.out.1; have := HC.out.2.2; simp [numL_length]; omega) hx.out.size ?_)
        intro vr w9 own low9
        have lowB := Lib.hid (low9 _ _ hx.out (Nat.le_refl _))
        go_simp
        exact ⟨⟨by simp [hsz.out], lowB.out⟩, upd z 54 (vr), (by unfold Hid; simp [upd, e6]), hz.next apx hsz.out 7 (by decide) _ (fun _ h => by cases h), Whu.past (by rw [hsz.out]; decide), Whn.done (HG1.out ▸ own), Whn.never (by decide) (fun hl => hcl 8 7 hl (by kernel_rfl)) hu⟩
      · have p7 := hp7.get (hw 7 (by kernel_rfl))
        obtain ⟨x7, e7⟩ : ∃ x7, x7 = z 54 := ⟨_, rfl⟩
        refine wpOp_plain rfl rfl ?_
        go_simp
        exact ⟨⟨by simp [hsz.out], hx.out⟩, upd z 12 (z 54), (by unfold Hid; simp [upd]), hz.next apx hsz.out 8 (by decide) _ (fun _ h => by cases h), hp4.keep (by decide), hp7.keep (by decide), Whn.done (p7)⟩
    · exact ⟨⟨rfl, (Below.refl _ _).drew⟩, fun xx => (#[.agg (u8s k), .agg #[.slice A n c, .int .u64 (pos : Nat), .int .u32 (ep : Nat)], .slice (some ⟨g, off, none⟩) m c2, .pointer (some ⟨w.heap.size, 0, none⟩), .pointer (some ⟨w.heap.size + 1, 0, none⟩), undef, .bool false, .slice A7 l7 c7, .int .u32 x8, .int .i64 e9, .int .i64 (q : Nat), .pointer (some ⟨w5.heap.size, 0, none⟩), undef, undef, .agg #[.slice A n c, .int .u64 (pos : Nat), .int .u32 (ep : Nat)], .slice (some ⟨g, off, none⟩) m c2, .slice (some ⟨w.heap.size + 1 + 1, 0, none⟩) 1 1, .bool false, undef, .tuple #[.slice A7 l7 c7, .int .u32 x8, .int .i64 e9], .agg (u8s k), .agg #[.slice A n c, .int .u64 (pos : Nat), .int .u32 (ep : Nat)], .slice (some ⟨g, off, none⟩) m c2, .tuple #[.slice A7 l7 c7, .int .u32 x8, .int .i64 e9], .slice A7 l7 c7, .int .u32 x8, .int .i64 e9, .slice (some ⟨g, off, none⟩) m c2, .int .i64 (m : Nat), .int .i64 (q : Nat), .int .i64 (q : Nat), .bool (decide ((q : Int) < 64)), undef, undef, undef, undef, undef, undef, undef, undef, undef, undef, .agg (u8s k), .pointer (some ⟨w.heap.size + 1, 0, none⟩), .slice A n c, .slice (some ⟨w2.heap.size, 0, none⟩) 1 1, .agg (u8s KK), undef, undef, undef, undef, undef, undef, undef, undef, undef, undef, undef, undef, undef, undef, undef, undef, undef, undef, undef, undef, undef, undef, undef, undef, undef, undef, undef, undef, undef, undef, undef, undef, undef, undef, undef, undef, undef, undef, undef, undef, undef, undef, undef, undef, undef, undef, undef, undef, undef, undef, undef, undef] : Array Value).getD xx undef, (by rfl), Holding.start, Whu.none (by decide), Whn.none (by decide), Whn.none (by decide)⟩
  case rest =>
    obtain ⟨hown, hlow⟩ := hcut
    have Hown8 := Lib.hid hown
    have Hlow8 := Lib.hid hlow
    clear hown hlow hwn
    have hgm : 4 + (q : Int) ≤ m := by have := Hmq.out; omega
    have hgc : 4 + (q : Int) ≤ c2 := by have := Hmq.out; omega
    have h04 : 0 ≤ 4 + (q : Int) := by omega
    have hT4 : (4 + (q : Int)).toNat = 4 + q := by omega
    have hq4I : 4 + (q : Int) ≤ 3000 := by omega
    have hw4 : IntKind.i64.wrap (4 + (q : Int)) = 4 + (q : Int) := by simp [IntKind.wrap, IntKind.bits, IntKind.signed]; omega
    have hqs : 4 + q ≤ S.length := by rw [HS.out.1, Hmq.out]; omega
    go_upto_region 9 with (fail)
    go_cut [12] from 55 to 64 (fun s12 wx => OwnB w6.heap.size G3 s12 wx ∧ Below w6.heap.size w6 wx)
    case first =>
      have apx : apartB [55, 56, 57, 58, 59, 60, 61, 62, 63, 64, 12] = true := by decide
      refine wp_region_any (by kernel_rfl) ?_
      change wpAny _ _ _ _ _ _ _ (World.drew _)
      refine wpAny_inv2 (fun ll aa wx => Hid (ll.size = 11 ∧ AppR 4 w6 (G1) u12 ll wx) ∧ ∃ (z : Nat → Value), Hid (aa = ⟨#[.agg (u8s k), .agg #[.slice A n c, .int .u64 (pos : Nat), .int .u32 (ep : Nat)], .slice (some ⟨g, off, none⟩) m c2, .pointer (some ⟨w.heap.size, 0, none⟩), .pointer (some ⟨w.heap.size + 1, 0, none⟩), undef, .bool false, .slice A7 l7 c7, .int .u32 x8, .int .i64 e9, .int .i64 (q : Nat), .pointer (some ⟨w5.heap.size, 0, none⟩), z 12, undef, .agg #[.slice A n c, .int .u64 (pos : Nat), .int .u32 (ep : Nat)], .slice (some ⟨g, off, none⟩) m c2, .slice (some ⟨w.heap.size + 1 + 1, 0, none⟩) 1 1, .bool false, undef, .tuple #[.slice A7 l7 c7, .int .u32 x8, .int .i64 e9], .agg (u8s k), .agg #[.slice A n c, .int .u64 (pos : Nat), .int .u32 (ep : Nat)], .slice (some ⟨g, off, none⟩) m c2, .tuple #[.slice A7 l7 c7, .int .u32 x8, .int .i64 e9], .slice A7 l7 c7, .int .u32 x8, .int .i64 e9, .slice (some ⟨g, off, none⟩) m c2, .int .i64 (m : Nat), .int .i64 (q : Nat), .int .i64 (q : Nat), .bool (decide ((q : Int) < 64)), undef, undef, undef, undef, undef, undef, undef, undef, undef, undef, .agg (u8s k), .pointer (some ⟨w.heap.size + 1, 0, none⟩), .slice A n c, .slice (some ⟨w2.heap.size, 0, none⟩) 1 1, .agg (u8s KK), u47, u48, u49, u50, u51, u52, u53, u54, z 55, z 56, z 57, z 58, z 59, z 60, z 61, z 62, z 63, z 64, undef, undef, undef, undef, undef, undef, undef, undef, undef, undef, undef, undef, undef, undef, undef, undef, undef, undef, undef, undef, undef, undef, undef, undef, undef, undef, undef, undef, undef, undef, undef, undef, undef, undef], []⟩) ∧ Holding [55, 56, 57, 58, 59, 60, 61, 62, 63, 64, 12] [some (u12), some (.pointer (some ⟨w.heap.size + 1, 1, none⟩)), some (.int .u64 (pos : Nat)), none, none, some (.slice (some ⟨g, off, none⟩) m c2), some (.int .i64 (q : Nat)), some (.int .i64 (4 + (q : Int))), some (.slice (some ⟨g, off, none⟩) (4 + q) c2), none, none] ll z ∧ Whu ll 3 4 (SlB (numL pos 8)) (z 58) wx ∧ Whu ll 4 9 (OwnB w6.heap.size (G2)) (z 59) wx ∧ Whn ll 9 (OwnB w6.heap.size (G3)) (z 64) wx ∧ Whn ll 10 (OwnB w6.heap.size (G3)) (z 12) wx ∧ BefP ll 10 z 12 (u12)) ?_ (by kernel_rfl) ?_ ?_ _ rfl _ _ ?_
      · rintro ll aa wx ⟨hI, _⟩
        exact hI.out.1
      · rintro ll aa wx ⟨hI, z, ha, hz, hp3, hp4, hp9, hp10, hb10⟩ hall
        have hx := Lib.hid hI.out.2
        have e0 : z 55 = u12 := hz 0 _ (hall 0 (by decide)) rfl
        have e1 : z 56 = .pointer (some ⟨w.heap.size + 1, 1, none⟩) := hz 1 _ (hall 1 (by decide)) rfl
        have e2 : z 57 = .int .u64 (pos : Nat) := hz 2 _ (hall 2 (by decide)) rfl
        have e5 : z 60 = .slice (some ⟨g, off, none⟩) m c2 := hz 5 _ (hall 5 (by decide)) rfl
        have e6 : z 61 = .int .i64 (q : Nat) := hz 6 _ (hall 6 (by decide)) rfl
        have e7 : z 62 = .int .i64 (4 + (q : Int)) := hz 7 _ (hall 7 (by decide)) rfl
        have e8 : z 63 = .slice (some ⟨g, off, none⟩) (4 + q) c2 := hz 8 _ (hall 8 (by decide)) rfl
        have p9 := hp9.get (hall 9 (by decide))
        have p10 := hp10.get (hall 10 (by decide))
        clear hall hz hI hp3 hp4 hp9 hp10 hb10
        obtain rfl := ha.out
        clear ha
        clear apx
        have HXX := Lib.hid hx.out.low
        have HS9 := Lib.hid p10
        clear e0 e1 e2 e5 e6 e7 e8 hx p9 p10
        go_wp2
        go_meet
        exact ⟨HS9.out, HXX.out⟩
      · rintro ll aa wx i ⟨hI, z, ha, hz, hp3, hp4, hp9, hp10, hb10⟩ hcl hi hu hw
        obtain rfl := ha.out
        have hsz := Lib.hid hI.out.1
        have hx := Lib.hid hI.out.2
        clear ha hI
        have hin : i < 11 := hi
        obtain rfl | rfl | rfl | rfl | rfl | rfl | rfl | rfl | rfl | rfl | rfl : i = 0 ∨ i = 1 ∨ i = 2 ∨ i = 3 ∨ i = 4 ∨ i = 5 ∨ i = 6 ∨ i = 7 ∨ i = 8 ∨ i = 9 ∨ i = 10 := by omega
        · have b10 : z 12 = u12 := hb10 (BefP.ok (fun hl => hcl 10 0 hl (by kernel_rfl)) hu)
          refine wpOp_plain rfl rfl ?_
          go_simp
          exact ⟨⟨by simp [hsz.out], hx.out.same (by decide)⟩, upd z 55 (u12), (by unfold Hid; simp [upd, b10]), hz.next apx hsz.out 0 (by decide) _ (fun _ h => Option.some.inj h), hp3.keep (by decide), hp4.keep (by decide), hp9.keep (by decide), hp10.keep (by decide), BefP.keep hb10 (by decide)⟩
        · refine wpOp_plain rfl rfl ?_
          go_simp
          exact ⟨⟨by simp [hsz.out], hx.out.same (by decide)⟩, upd z 56 (.pointer (some ⟨w.heap.size + 1, 1, none⟩)), (by unfold Hid; simp [upd]), hz.next apx hsz.out 1 (by decide) _ (fun _ h => Option.some.inj h), hp3.keep (by decide), hp4.keep (by decide), hp9.keep (by decide), hp10.keep (by decide), BefP.keep hb10 (by decide)⟩
        · have e1 : z 56 = .pointer (some ⟨w.heap.size + 1, 1, none⟩) := hz 1 _ (hw 1 (by kernel_rfl)) rfl
          have cl := (hx.out.low.cell (p := ⟨w.heap.size + 1, 1, none⟩) (World.block_lt_of_cell? _ _ CP1.out)).trans CP1.out
          refine wpOp_plain rfl rfl ?_
          go_simp
          exact ⟨⟨by simp [hsz.out], hx.out.same (by decide)⟩, upd z 57 (.int .u64 (pos : Nat)), (by unfold Hid; simp [upd, e1]), hz.next apx hsz.out 2 (by decide) _ (fun _ h => Option.some.inj h), hp3.keep (by decide), hp4.keep (by decide), hp9.keep (by decide), hp10.keep (by decide), BefP.keep hb10 (by decide)⟩
        · have e2 : z 57 = .int .u64 (pos : Nat) := hz 2 _ (hw 2 (by kernel_rfl)) rfl
          refine wpOp_plain rfl rfl ?_
          go_simp
          go_at_call 20
          refine (lnum_any pos 8 (by decide) HP.out.1 wx).mono ?_
          rintro e w9 ⟨vr, rfl, hsb, low⟩
          exact ⟨⟨by simp [hsz.out], hx.out.call (by decide) low⟩, upd z 58 (vr), (by unfold Hid; simp [upd, e2]), hz.next apx hsz.out 3 (by decide) _ (fun _ h => by cases h), Whu.done (hsb.sl), (hp4.keep (by decide)).map (fun h => h.later low), (hp9.keep (by decide)).map (fun h => h.later low), (hp10.keep (by decide)).map (fun h => h.later low), BefP.keep hb10 (by decide)⟩
        · have e0 : z 55 = u12 := hz 0 _ (hw 0 (by kernel_rfl)) rfl
          have p3 := hp3.get (hw 3 (by kernel_rfl)) hu
          refine wpOp_plain rfl rfl (wp_app_any (.tmp 55) (.tmp 58) rfl w6.heap.size u12 G1 e0 (hx.out.own hu) (z 58) (numL pos 8) rfl p3 (by have := HG.out.1; rw [numL_length]; omega) hx.out.low.size ?_)
          intro vr w9 own low9
          have lowB := Lib.hid (low9 _ _ hx.out.low (Nat.le_refl _))
          go_simp
          exact ⟨⟨by simp [hsz.out], hx.out.done (by rw [hsz.out]; decide) lowB.out⟩, upd z 59 (vr), (by unfold Hid; simp [upd, e0]), hz.next apx hsz.out 4 (by decide) _ (fun _ h => by cases h), Whu.past (by rw [hsz.out]; decide), Whu.done (HG2.out ▸ own), Whn.never (by decide) (fun hl => hcl 9 4 hl (by kernel_rfl)) hu, Whn.never (by decide) (fun hl => hcl 9 4 (hcl 10 9 hl (by kernel_rfl)) (by kernel_rfl)) hu, BefP.keep hb10 (by decide)⟩
        · refine wpOp_plain rfl rfl ?_
          go_simp
          exact ⟨⟨by simp [hsz.out], hx.out.same (by decide)⟩, upd z 60 (.slice (some ⟨g, off, none⟩) m c2), (by unfold Hid; simp [upd]), hz.next apx hsz.out 5 (by decide) _ (fun _ h => Option.some.inj h), hp3.keep (by decide), hp4.keep (by decide), hp9.keep (by decide), hp10.keep (by decide), BefP.keep hb10 (by decide)⟩
        · refine wpOp_plain rfl rfl ?_
          go_simp
          exact ⟨⟨by simp [hsz.out], hx.out.same (by decide)⟩, upd z 61 (.int .i64 (q : Nat)), (by unfold Hid; simp [upd]), hz.next apx hsz.out 6 (by decide) _ (fun _ h => Option.some.inj h), hp3.keep (by decide), hp4.keep (by decide), hp9.keep (by decide), hp10.keep (by decide), BefP.keep hb10 (by decide)⟩
        · have e6 : z 61 = .int .i64 (q : Nat) := hz 6 _ (hw 6 (by kernel_rfl)) rfl
          refine wpOp_plain rfl rfl ?_
          go_simp
          exact ⟨⟨by simp [hsz.out], hx.out.same (by decide)⟩, upd z 62 (.int .i64 (4 + (q : Int))), (by unfold Hid; simp [upd, e6]), hz.next apx hsz.out 7 (by decide) _ (fun _ h => Option.some.inj h), hp3.keep (by decide), hp4.keep (by decide), hp9.keep (by decide), hp10.keep (by decide), BefP.keep hb10 (by decide)⟩
        · have e5 : z 60 = .slice (some ⟨g, off, none⟩) m c2 := hz 5 _ (hw 5 (by kernel_rfl)) rfl
          have e7 : z 62 = .int .i64 (4 + (q : Int)) := hz 7 _ (hw 7 (by kernel_rfl)) rfl
          refine wpOp_plain rfl rfl ?_
          go_simp
          exact ⟨⟨by simp [hsz.out], hx.out.same (by decide)⟩, upd z 63 (.slice (some ⟨g, off, none⟩) (4 + q) c2), (by unfold Hid; simp [upd, e5, e7]), hz.next apx hsz.out 8 (by decide) _ (fun _ h => Option.some.inj h), hp3.keep (by decide), hp4.keep (by decide), hp9.keep (by decide), hp10.keep (by decide), BefP.keep hb10 (by decide)⟩
        · have e8 : z 63 = .slice (some ⟨g, off, none⟩) (4 + q) c2 := hz 8 _ (hw 8 (by kernel_rfl)) rfl
          have p4 := hp4.get (hw 4 (by kernel_rfl)) hu
          refine wpOp_plain rfl rfl (wp_app_any (.tmp 59) (.tmp 63) rfl w6.heap.size (z 59) G2 rfl p4 (.slice (some ⟨g, off, none⟩) (4 + q) c2) (S.take (4 + q)) e8 ⟨some ⟨g, off, none⟩, c2, by rw [List.length_take, Nat.min_eq_left hqs], Str.byt_take (HSb6.out.below hx.out.low (Nat.le_refl _)) _⟩ (by have := HG.out.2; have := HS.out.1; have := HS.out.2.2; rw [List.length_take]; omega) hx.out.low.size ?_)
          intro vr w9 own low9
          have lowB := Lib.hid (low9 _ _ hx.out.low (Nat.le_refl _))
          go_simp
          exact ⟨⟨by simp [hsz.out], hx.out.past lowB.out (hw 4 (by kernel_rfl))⟩, upd z 64 (vr), (by unfold Hid; simp [upd, e8]), hz.next apx hsz.out 9 (by decide) _ (fun _ h => by cases h), Whu.gone (hw 4 (by kernel_rfl)), Whu.past (by rw [hsz.out]; decide), Whn.done (HG3.out ▸ own), Whn.never (by decide) (fun hl => hcl 10 9 hl (by kernel_rfl)) hu, BefP.keep hb10 (by decide)⟩
        · have p9 := hp9.get (hw 9 (by kernel_rfl))
          obtain ⟨x7, e7⟩ : ∃ x7, x7 = z 64 := ⟨_, rfl⟩
          refine wpOp_plain rfl rfl ?_
          go_simp
          exact ⟨⟨by simp [hsz.out], hx.out.same (by decide)⟩, upd z 12 (z 64), (by unfold Hid; simp [upd]), hz.next apx hsz.out 10 (by decide) _ (fun _ h => by cases h), hp3.keep (by decide), hp4.keep (by decide), hp9.keep (by decide), Whn.done (p9), BefP.past (by rw [hsz.out]; decide)⟩
      · exact ⟨⟨rfl, AppR.start Hlow8.out Hown8.out⟩, fun xx => (#[.agg (u8s k), .agg #[.slice A n c, .int .u64 (pos : Nat), .int .u32 (ep : Nat)], .slice (some ⟨g, off, none⟩) m c2, .pointer (some ⟨w.heap.size, 0, none⟩), .pointer (some ⟨w.heap.size + 1, 0, none⟩), undef, .bool false, .slice A7 l7 c7, .int .u32 x8, .int .i64 e9, .int .i64 (q : Nat), .pointer (some ⟨w5.heap.size, 0, none⟩), u12, undef, .agg #[.slice A n c, .int .u64 (pos : Nat), .int .u32 (ep : Nat)], .slice (some ⟨g, off, none⟩) m c2, .slice (some ⟨w.heap.size + 1 + 1, 0, none⟩) 1 1, .bool false, undef, .tuple #[.slice A7 l7 c7, .int .u32 x8, .int .i64 e9], .agg (u8s k), .agg #[.slice A n c, .int .u64 (pos : Nat), .int .u32 (ep : Nat)], .slice (some ⟨g, off, none⟩) m c2, .tuple #[.slice A7 l7 c7, .int .u32 x8, .int .i64 e9], .slice A7 l7 c7, .int .u32 x8, .int .i64 e9, .slice (some ⟨g, off, none⟩) m c2, .int .i64 (m : Nat), .int .i64 (q : Nat), .int .i64 (q : Nat), .bool (decide ((q : Int) < 64)), undef, undef, undef, undef, undef, undef, undef, undef, undef, undef, .agg (u8s k), .pointer (some ⟨w.heap.size + 1, 0, none⟩), .slice A n c, .slice (some ⟨w2.heap.size, 0, none⟩) 1 1, .agg (u8s KK), u47, u48, u49, u50, u51, u52, u53, u54, undef, undef, undef, undef, undef, undef, undef, undef, undef, undef, undef, undef, undef, undef, undef, undef, undef, undef, undef, undef, undef, undef, undef, undef, undef, undef, undef, undef, undef, undef, undef, undef, undef, undef, undef, undef, undef, undef, undef, undef, undef, undef, undef, undef] : Array Value).getD xx undef, (by rfl), Holding.start, Whu.none (by decide), Whu.none (by decide), Whn.none (by decide), Whn.none (by decide), BefP.start rfl⟩
    case rest =>
      obtain ⟨hown, hlow⟩ := hcut
      rw [HQ3.out] at hown
      obtain ⟨A12, c12, rfl, hs12⟩ := OwnB.sl hown
      have Hs12 := Lib.hid hs12
      have Hl9 := Lib.hid hlow
      have H9 := Lib.hid (H6.out.later hlow)
      have HKK9 := Lib.hid ((hlow.block _ (Array.getElem?_eq_some_iff.1 HKK.out).1).trans HKK.out)
      clear hown hlow hs12 Hown8 Hlow8 HKK H6 CP0 CP1 HCb6 HSb6
      go_upto_region 11 with (first
        | (go_at_call 21; refine (tag_at HTm.out HKN.out.1 HKN.out.2 HTi.out.1 (byt_rowF HKK9.out HKN.out.1) Hs12.out (HLD.out.later H9.out.low).sha HTi.out.2).mono ?_; rintro e w10 ⟨rfl, hb10⟩; have H10 := Lib.hid (H9.out.later hb10); clear hb10)
        | (refine wpList_store_new rfl (.tmp 13) (.tmp 67) rfl TT HT32.out.1 _ (by rfl) (by rfl) (by rfl) ?_; intro w11 hr11 hb11; have HR11 := Lib.hid hr11; have H11 := Lib.hid (H10.out.later hb11); clear hr11 hb11))
      clear H9 H10 HKK9 Hs12
      have k1 := fun nq => Cha.conv_any ((byt_rowF HR11.out HT32.out.1).below (Below.drewN (Below.refl _ _) nq) (Nat.le_refl _)) HT32.out.1
      have k2 := fun nq => Cha.conv_any (HTDb.out _ (Below.drewN H11.out.low nq)) HTD.out.1
      have hc4 : ¬ c2 = 4 + q := by have := Hmq.out; omega
      have hc5 : ¬ 4 + q = c2 := by have := Hmq.out; omega
      have hmm : m - (4 + q) = 32 := by have := Hmq.out; omega
      by_cases htt : TT = TD
      · have h9 := HQ.out.2
        subst htt
        clear HQ HNo
        go_quiet (fail)
        rcases h9 with rfl | rfl
        all_goals
          go_wp2_with (go_at_call 10; refine (awake_any _ (HLD.out.later (Below.drewN H11.out.low _))).mono ?_; rintro e wz ⟨rfl, hbz⟩; have Hbz := Lib.hid hbz; clear hbz)
          go_ret
          exact ⟨rfl, (Below.drewN H11.out.low _).trans (Hbz.out.mono (Nat.le_trans H11.out.low.size (Nat.le_refl _)))⟩
      · obtain ⟨rfl, rfl, rfl⟩ := HQ.out.1 (HNo.out htt)
        have hne : ((strOfNums TT).toList == (strOfNums TD).toList) = false := by rw [beq_eq_false_iff_ne]; exact Str.str_ne HT32.out.2 HTD.out.2 htt
        clear HQ HNo htt
        go_quiet (fail)
        go_wp2_with (go_at_call 10; refine (awake_any _ (HLD.out.later (Below.drewN H11.out.low _))).mono ?_; rintro e wz ⟨rfl, hbz⟩; have Hbz := Lib.hid hbz; clear hbz)
        go_ret
        exact ⟨rfl, (Below.drewN H11.out.low _).trans (Hbz.out.mono (Nat.le_trans H11.out.low.size (Nat.le_refl _)))⟩
theorem tags_walk (k C S : List Int) (pos ep : Nat) (A A2 : Option Addr) (n c m c2 : Nat) (w : World) (hk : k.length = 32) (hkb : InB k) (hC : C.length = n) (hCin : InB C) (_hn : n ≤ 9223372036854775807) (hS : S.length = m) (hSin : InB S) (_hm : m ≤ 9223372036854775807) (hp : pos < 18446744073709551616 ∧ ep < 4294967296) (hCb : Byt w A c C) (hSb : Byt w A2 c2 S) (hLd : SLaid w) : Calls Tryd.prog 8 #[.agg (u8s k), .agg #[.slice A n c, .int .u64 (pos : Nat), .int .u32 (ep : Nat)], .slice A2 m c2] w fun e w' => e = .returned (.bool true) ∧ Below w.heap.size w w' := by
  by_cases hl : 3000 < m ∨ 200 < n
  · exact tags_long k A A2 n c m c2 pos ep w hl hLd
  · by_cases hm : m < 100
    · exact tags_short k C S pos ep A A2 n c m c2 w hk hkb hC hCin hS hSin hp hCb hSb hLd hl hm
    · exact tags_many k C S pos ep (m - 36) A A2 n c m c2 w hk hkb hC hCin hS hSin hp hCb hSb hLd hl (by omega) (by omega)
end Go.Proofs.YtkbkgbcdmhkicaaDoor.Seal
