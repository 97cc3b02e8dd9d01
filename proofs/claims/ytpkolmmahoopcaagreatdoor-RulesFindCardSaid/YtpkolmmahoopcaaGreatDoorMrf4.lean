/- DERIVED. Texts of ours, merged: XLabRows XLabDist. -/
import Derived.Test.YtpkolmmahoopcaaGreatDoorMrf3
import Derived.Lib.AppendStr
import Derived.Great.BuildSlice
import Derived.Maps.AppendAt
import Derived.Great.CaseRows
import Derived.Deep.DeepCutAuto
/- DERIVED. Slices of labels: Labs (any), OwnL (an own row), an append of one. -/
namespace Go.Proofs.YtpkolmmahoopcaaGreatDoor.Lab
open Go.RowKit Str
/-- a slice that reads as labels: their Levels and Comps. -/
def Labs (w : World) (A : Option Addr) (c : Nat) (xs : List (Int × Nat)) : Prop :=
  xs.length ≤ c ∧ (A = none → c = 0) ∧ (0 < xs.length → ∃ b off, A = some ⟨b, off, none⟩ ∧ b < w.heap.size ∧ ∀ i x, xs[i]? = some x → w.rangeAt b (off + i * 2) (lab x.1 x.2).toList)
theorem Labs.below {w w' : World} {B c : Nat} {A : Option Addr} {xs : List (Int × Nat)} (h : Labs w A c xs) (hb : Below B w w') (hB : w.heap.size ≤ B) : Labs w' A c xs :=
  ⟨h.1, h.2.1, fun hl => by
    obtain ⟨b, off, hA, hg, hc⟩ := h.2.2 hl
    exact ⟨b, off, hA, Nat.lt_of_lt_of_le hg hb.size, fun i x hx j v hv => (hb.cell (p := ⟨b, off + i * 2 + j, none⟩) (Nat.lt_of_lt_of_le hg hB)).trans (hc i x hx j v hv)⟩⟩
def flatP (xs : List (Int × Nat)) : List Value := (xs.map fun x => (lab x.1 x.2).toList).flatten
theorem flatP_app (xs : List (Int × Nat)) (x : Int × Nat) : flatP (xs ++ [x]) = flatP xs ++ (lab x.1 x.2).toList := by simp [flatP]
theorem flatP_get {xs : List (Int × Nat)} : ∀ (i : Nat) (x : Int × Nat), xs[i]? = some x → ∀ j v, (lab x.1 x.2).toList[j]? = some v → (flatP xs)[i * 2 + j]? = some v := by
  induction xs with
  | nil => intro i x hx; simp at hx
  | cons y ys ih =>
    intro i x hx j v hv
    simp only [flatP, List.map_cons, List.flatten_cons]
    cases i with
    | zero =>
      obtain rfl := Option.some.inj hx
      have hj := (List.getElem?_eq_some_iff.1 hv).1
      rw [Nat.zero_mul, Nat.zero_add, List.getElem?_append_left (by omega)]
      exact hv
    | succ i =>
      rw [List.getElem?_append_right (by simp only [List.length_cons, List.length_nil]; omega)]
      have e : (i + 1) * 2 + j - 2 = i * 2 + j := by omega
      show (List.flatten _)[(i + 1) * 2 + j - 2]? = some v
      rw [e]
      exact ih i x (by simpa using hx) j v hv
/-- a row of labels of the call's own. -/
def OwnL (base : Nat) (xs : List (Int × Nat)) (v : Value) (w : World) : Prop := w.ownsRow base 34 2 v xs.length (flatP xs)
theorem OwnL.nil (w : World) (base : Nat) : OwnL base [] (.slice none 0 0) w := World.ownsRow_nil w base 34 2
theorem OwnL.labs {base : Nat} {xs : List (Int × Nat)} {v : Value} {w : World} (h : OwnL base xs v w) : ∃ A c, v = .slice A xs.length c ∧ Labs w A c xs := by
  rcases h.2 with ⟨rfl, h0⟩ | ⟨g, cap, cur, hv, hb, hg, hn, hm, hs, ht⟩
  · exact ⟨none, 0, by rw [h0], by omega, fun _ => rfl, fun h => by omega⟩
  · refine ⟨_, cap, hv, hn, (fun h => by cases h), fun _ => ⟨g, 0, rfl, (Array.getElem?_eq_some_iff.1 hg).1, fun i x hx j u hu => ?_⟩⟩
    have k := flatP_get i x hx j u hu
    rw [← ht] at k
    have hlt : i * 2 + j < xs.length * 2 := by
      have := (List.getElem?_eq_some_iff.1 k).1
      rw [List.length_take] at this
      omega
    rw [List.getElem?_take, if_pos hlt] at k
    rw [Nat.zero_add, cell_row hg]
    simpa using k
def labZero : Value := .agg (lab 0 0)
theorem infoLz : (Tryz.prog.info? 34).map (fun i => (i.zero, i.size, i.bytes)) = some (some labZero, 2, 16) := by kernel_rfl
theorem lab_ones (a : Int) (c : Nat) : ∀ u ∈ (lab a c).toList, u.oneCell' = true := by
  intro v hv
  simp only [List.mem_cons, List.mem_nil_iff, or_false] at hv
  rcases hv with rfl | rfl <;> rfl
/-- append(m, x), x laid in a block of its own. -/
theorem wpList_append_lab {w : World} {ops : Array Oper} {rest : List Oper} {o : Oper} {a : Act} {Q : Exit → Act → World → Prop} (hgd : o.guard = none) (s y : Operand)
    (ho : o.op = .call { callee := .builtin .append, args := #[s, y], argTypes := #[38, 38] }) (base : Nat) (v : Value) (xs : List (Int × Nat)) (x : Int × Nat) (hs : a.eval s = v) (hown : OwnL base xs v w)
    (g : Nat) (hy : a.eval y = .slice (some ⟨g, 0, none⟩) 1 1) (hg : w.heap[g]? = some (.cells (lab x.1 x.2) 34 (0, 0))) (h63 : xs.length ≤ 100000) (hbase : base ≤ w.heap.size)
    (h : ∀ v' w', OwnL base (xs ++ [x]) v' w' → w.grownBy w' v.ownBlock → wpList Tryz.prog ops Q rest (a.put o.dst v') w') : wpList Tryz.prog ops Q (o :: rest) a w := by
  obtain ⟨i0, hi0, hz00, hz10, hz20⟩ := info_parts infoLz
  refine wpList_append_own_at _ hgd s y 38 ho base 34 i0 labZero 2 16 Tryz.underlying38 hi0 hz00 hz10 hz20 rfl (by decide) v xs.length (flatP xs) hs hown ⟨g, 0, none⟩ 1 1 (lab x.1 x.2).toList hy rfl
    (fun j u hu => by rw [Addr.add_mid, Nat.zero_add, cell_row hg]; simpa using hu) (lab_ones _ _) (by unfold maxLen; omega) (by omega) hbase ?_
  intro v' w' hown' hgrow _ _
  refine h v' w' ?_ hgrow
  unfold OwnL
  rw [flatP_app, List.length_append]
  exact hown'
/-- equal labels that stand side by side, each once. -/
def distG (p : Int × Nat) : List (Int × Nat) → List (Int × Nat)
  | [] => []
  | x :: r => if x = p then distG p r else x :: distG x r
def distL : List (Int × Nat) → List (Int × Nat)
  | [] => []
  | x :: r => x :: distG x r
theorem distG_app (x : Int × Nat) : ∀ (r : List (Int × Nat)) (p : Int × Nat), distG p (r ++ [x]) = if x = r.getLast?.getD p then distG p r else distG p r ++ [x] := by
  intro r
  induction r with
  | nil => intro p; by_cases h : x = p <;> simp [distG, h]
  | cons y r ih =>
    intro p
    have hl : (y :: r).getLast?.getD p = r.getLast?.getD y := by
      cases r with
      | nil => rfl
      | cons z t =>
        rw [List.getLast?_cons_cons]
        cases hu : (z :: t).getLast? with
        | none => simp at hu
        | some u => rfl
    rw [hl, List.cons_append]
    by_cases h : y = p
    · subst h
      simp only [distG, if_true]
      exact ih y
    · simp only [distG, if_neg h]
      rw [ih y]
      split
      · rfl
      · rfl
/-- one more label. -/
theorem distL_step {xs : List (Int × Nat)} {k : Nat} {x : Int × Nat} (hx : xs[k]? = some x) (y : Int × Nat) (hy : k ≠ 0 → xs[k - 1]? = some y) :
    distL (xs.take (k + 1)) = if k ≠ 0 ∧ x = y then distL (xs.take k) else distL (xs.take k) ++ [x] := by
  rw [List.take_add_one, hx]
  cases k with
  | zero => simp [distL, distG]
  | succ k =>
    have hy := hy (by omega)
    rw [Nat.add_sub_cancel] at hy
    obtain ⟨z, r, hz⟩ : ∃ z r, xs.take (k + 1) = z :: r := by
      cases xs with
      | nil => simp at hx
      | cons z t => exact ⟨z, t.take k, rfl⟩
    have hlast : r.getLast?.getD z = y := by
      have h1 : (xs.take (k + 1)).getLast? = some y := by
        rw [List.take_add_one, hy]
        simp
      rw [hz] at h1
      cases r with
      | nil => simpa using h1
      | cons u t => rw [List.getLast?_cons_cons] at h1; rw [h1]; rfl
    rw [hz]
    show distL (z :: (r ++ [x])) = _
    simp only [distL]
    rw [distG_app, hlast]
    by_cases h : x = y
    · rw [if_pos h, if_pos ⟨by omega, h⟩]
    · rw [if_neg h, if_neg (fun h2 => h h2.2)]
      rfl
end Go.Proofs.YtpkolmmahoopcaaGreatDoor.Lab
/- DERIVED. The contract of label.distinct. Written by mkdist.py. -/
namespace Go.Proofs.YtpkolmmahoopcaaGreatDoor.Lab
open Go.RowKit Str
theorem infoL2 : ∀ {a : Int} {c : Nat}, (Tryz.prog.info? 34).map (·.size) = some (lab a c).toList.length := fun {_ _} => infoL
theorem OwnL.keep {base D : Nat} {xs : List (Int × Nat)} {v : Value} {w w' : World} (h : OwnL base xs v w) (hb : Below D w w') (hf : ∀ q, v.ownBlock = some q → q < D) : OwnL base xs v w' := by
  refine ⟨h.1, ?_⟩
  rcases h.2 with h2 | ⟨g, cap, cur, hv, h1, h2, h3⟩
  · exact .inl h2
  · exact .inr ⟨g, cap, cur, hv, h1, (hb.block g (hf g (by rw [hv]; rfl))).trans h2, h3⟩
theorem distG_len : ∀ (r : List (Int × Nat)) (p : Int × Nat), (distG p r).length ≤ r.length := by
  intro r
  induction r with
  | nil => intro p; exact Nat.le_refl _
  | cons x r ih =>
    intro p
    unfold distG
    split
    · have := ih p; simp only [List.length_cons]; omega
    · have := ih x; simp only [List.length_cons]; omega
theorem distL_len (r : List (Int × Nat)) : (distL r).length ≤ r.length := by
  cases r with
  | nil => exact Nat.le_refl _
  | cons x r => have := distG_len r x; simp only [distL, List.length_cons]; omega
set_option maxRecDepth 100000 in
set_option maxHeartbeats 4000000 in
theorem distinct_any (A : Option Addr) (n c : Nat) (xs : List (Int × Nat)) (hn : xs.length = n) (hle : n ≤ 100000) (w : World) (hX : Labs w A c xs) :
    Calls Tryz.prog 41 #[.slice A n c] w fun e w' => ∃ v, e = .returned v ∧ OwnL w.heap.size (distL xs) v w' ∧ Below w.heap.size w w' := by
  have HX := Lib.hid hX
  have Hn := Lib.hid hn
  have HW0 : Hid (OwnL w.heap.size (distL (xs.take 0)) (.slice none 0 0) w ∧ Below w.heap.size w w) := ⟨OwnL.nil w _, Below.refl _ _⟩
  clear hX hn
  go_enter Tryz.func41, Tryz.ntmps41
  go_wp2
  go_loopw [3, 8] (fun s3 i wr => ∃ k : Nat, k ≤ n ∧ i = .int .i64 (k : Nat) ∧ Hid (OwnL w.heap.size (distL (xs.take k)) s3 wr ∧ Below w.heap.size w wr)) (fun _ i _ => n - (intOf i).toNat)
  case atStart => exact ⟨0, by omega, rfl, HW0⟩
  case round =>
    obtain ⟨k, hk, rfl, hI⟩ := hrel
    clear HW0
    by_cases hlt : k < n
    · have hlt' : (k : Int) < n := by omega
      obtain ⟨x, hx⟩ : ∃ x, xs[k]? = some x := ⟨_, List.getElem?_eq_getElem (by have := Hn.out; omega)⟩
      obtain ⟨b, off, rfl, hb, hcell⟩ := HX.out.2.2 (by have := Hn.out; omega)
      have hcap1 : n ≤ c := by have := HX.out.1; have := Hn.out; omega
      have Hr : Hid (wr.rangeAt b (off + k * 2) (lab x.1 x.2).toList) := fun j v hv => (hI.out.2.cell (p := ⟨b, off + k * 2 + j, none⟩) hb).trans (hcell k x hx j v hv)
      obtain ⟨y, hy⟩ : ∃ y, y = xs.getD (k - 1) (0, 0) := ⟨_, rfl⟩
      have hy2 : xs[k - 1]? = some y := by rw [hy, List.getD_eq_getElem?_getD]; cases h : xs[k - 1]? with | none => have := List.getElem?_eq_none_iff.1 h; have := Hn.out; omega | some u => rfl
      have Hst := Lib.hid (distL_step hx y (fun _ => hy2))
      have Hcy : Hid (wr.rangeAt b (off + (k - 1) * 2) (lab y.1 y.2).toList) := fun j v hv => (hI.out.2.cell (p := ⟨b, off + (k - 1) * 2 + j, none⟩) hb).trans (hcell (k - 1) y hy2 j v hv)
      clear hcell hx hb hy hy2
      go_upto_region 5 with (first
        | (with_reducible refine wpList_load_mid rfl 34 (.tmp 11) rfl b (off + k * 2) rfl (lab x.1 x.2).toList _ Hr.out Tryz.underlying34 rfl infoL2 ?_)
        | (refine wpList_store_row rfl 34 (.tmp 5) (.tmp 12) rfl wr.heap.size (lab x.1 x.2) rfl rfl 34 _ (Go.heap_alloc_new wr _) infoL rfl (lab_one _ _) ?_; rw [World.setRow_alloc_new]))
      obtain ⟨w4, hw4⟩ : ∃ w4, w4 = wr.alloc (.cells (lab x.1 x.2) 34) := ⟨_, rfl⟩
      have h4 : w4.heap[wr.heap.size]? = some (.cells (lab x.1 x.2) 34 (0, 0)) := by rw [hw4]; exact Go.heap_alloc_new wr _
      have l4 : Below wr.heap.size wr w4 := by rw [hw4]; exact (Below.refl _ _).alloc (Nat.le_refl _) _
      rw [← hw4]
      clear hw4
      have Hry : Hid (w4.rangeAt b (off + (k - 1) * 2) (lab y.1 y.2).toList) := fun j v hv => (l4.cell (p := ⟨b, off + (k - 1) * 2 + j, none⟩) (World.block_lt_of_cell? _ _ (Hcy.out j v hv))).trans (Hcy.out j v hv)
      obtain ⟨bx, hbx⟩ : ∃ bx, bx = wr.heap.size := ⟨_, rfl⟩
      rw [← hbx] at h4 ⊢
      have H4 := Lib.hid h4
      have L4 := Lib.hid l4
      have Hbx := Lib.hid hbx
      clear h4 l4 Hcy Hr hbx
      go_cut [23] (fun s23 wx => ∃ r, s23 = .bool r ∧ Hid (r = !decide (k ≠ 0 ∧ x = y)) ∧ Hid (Below w4.heap.size w4 wx))
      case first =>
        by_cases hk0 : k = 0
        · obtain rfl : k = 0 := hk0
          have apx : apartB [13, 14, 15, 16, 17, 18, 19, 20, 21, 22, 23] = true := by decide
          refine wp_region_any (by kernel_rfl) ?_
          change wpAny _ _ _ _ _ _ _ (World.drew _)
          refine wpAny_inv (fun ll aa wx => Hid (ll.size = 11 ∧ Below w4.heap.size w4 wx) ∧ ∃ (z : Nat → Value), Hid (aa = ⟨#[.slice (some ⟨b, off, none⟩) n c, undef, .slice none 0 0, u3, .int .i64 ((0 : Nat) : Int), .pointer (some ⟨bx, 0, none⟩), .slice (some ⟨b, off, none⟩) n c, .int .i64 (n : Nat), .int .i64 ((0 : Nat) : Int), .bool true, .int .i64 ((0 : Nat) : Int), .pointer (some ⟨b, off + 0 * 2, none⟩), .agg (lab x.1 x.2), z 13, z 14, z 15, z 16, z 17, z 18, z 19, z 20, z 21, z 22, z 23, u24, u25, u26, u27, u28, undef], []⟩) ∧ Holding [13, 14, 15, 16, 17, 18, 19, 20, 21, 22, 23] [some (.int .i64 0), some (.bool true), some (.bool true), some (undef), some (undef), some (undef), some (undef), some (undef), some (undef), some (undef), some (.bool true)] ll z) ?_ (by kernel_rfl) ?_ ?_ _ _ _ _ (unlisted_none _) ?_
          · rintro ll aa wx ⟨hI, _⟩
            exact hI.out.1
          · rintro ll aa wx ⟨hI, z, ha, hz⟩ hall
            have hx := Lib.hid hI.out.2
            have e0 : z 13 = .int .i64 0 := hz 0 _ (hall 0 (by decide)) rfl
            have e1 : z 14 = .bool true := hz 1 _ (hall 1 (by decide)) rfl
            have e2 : z 15 = .bool true := hz 2 _ (hall 2 (by decide)) rfl
            have e3 : z 16 = undef := hz 3 _ (hall 3 (by decide)) rfl
            have e4 : z 17 = undef := hz 4 _ (hall 4 (by decide)) rfl
            have e5 : z 18 = undef := hz 5 _ (hall 5 (by decide)) rfl
            have e6 : z 19 = undef := hz 6 _ (hall 6 (by decide)) rfl
            have e7 : z 20 = undef := hz 7 _ (hall 7 (by decide)) rfl
            have e8 : z 21 = undef := hz 8 _ (hall 8 (by decide)) rfl
            have e9 : z 22 = undef := hz 9 _ (hall 9 (by decide)) rfl
            have e10 : z 23 = .bool true := hz 10 _ (hall 10 (by decide)) rfl
            clear hall hz hI 
            obtain rfl := ha.out
            clear ha
            clear apx
            have E := Lib.hid e10
            have HX2 := Lib.hid hx.out
            clear e0 e1 e2 e3 e4 e5 e6 e7 e8 e9 e10 hx
            rw [E.out]
            go_wp2
            go_meet
            exact ⟨_, rfl, rfl, HX2.out⟩
          · rintro ll aa wx i ⟨hI, z, ha, hz⟩ hi hu hw
            obtain rfl := ha.out
            have hsz := Lib.hid hI.out.1
            have hx := Lib.hid hI.out.2
            clear ha hI
            have hin : i < 11 := hi
            obtain rfl | rfl | rfl | rfl | rfl | rfl | rfl | rfl | rfl | rfl | rfl : i = 0 ∨ i = 1 ∨ i = 2 ∨ i = 3 ∨ i = 4 ∨ i = 5 ∨ i = 6 ∨ i = 7 ∨ i = 8 ∨ i = 9 ∨ i = 10 := by omega
            · refine wpOp_plain rfl rfl ?_
              go_simp
              exact ⟨⟨by simp [hsz.out], hx.out⟩, upd z 13 (.int .i64 0), (by unfold Hid; simp [upd]), hz.next apx hsz.out 0 (by decide) _ (fun _ h => Option.some.inj h)⟩
            · have e0 : z 13 = .int .i64 0 := hz 0 _ (hw 0 (by kernel_rfl)) rfl
              refine wpOp_plain rfl rfl ?_
              go_simp
              exact ⟨⟨by simp [hsz.out], hx.out⟩, upd z 14 (.bool true), (by unfold Hid; simp [upd, e0]), hz.next apx hsz.out 1 (by decide) _ (fun _ h => Option.some.inj h)⟩
            · have e1 : z 14 = .bool true := hz 1 _ (hw 1 (by kernel_rfl)) rfl
              refine wpOp_plain rfl rfl ?_
              go_simp
              exact ⟨⟨by simp [hsz.out], hx.out⟩, upd z 15 (.bool true), (by unfold Hid; simp [upd, e1]), hz.next apx hsz.out 2 (by decide) _ (fun _ h => Option.some.inj h)⟩
            · have e2 : z 15 = .bool true := hz 2 _ (hw 2 (by kernel_rfl)) rfl
              refine wpOp_skip rfl (by simp [Region.wanted, yielded, e2]) ?_
              go_simp
              exact ⟨⟨by simp [hsz.out], hx.out⟩, upd z 16 (undef), (by unfold Hid; simp [upd, e2]), hz.next apx hsz.out 3 (by decide) _ (fun _ h => Option.some.inj h)⟩
            · have e2 : z 15 = .bool true := hz 2 _ (hw 2 (by kernel_rfl)) rfl
              refine wpOp_skip rfl (by simp [Region.wanted, yielded, e2]) ?_
              go_simp
              exact ⟨⟨by simp [hsz.out], hx.out⟩, upd z 17 (undef), (by unfold Hid; simp [upd, e2]), hz.next apx hsz.out 4 (by decide) _ (fun _ h => Option.some.inj h)⟩
            · have e2 : z 15 = .bool true := hz 2 _ (hw 2 (by kernel_rfl)) rfl
              refine wpOp_skip rfl (by simp [Region.wanted, yielded, e2]) ?_
              go_simp
              exact ⟨⟨by simp [hsz.out], hx.out⟩, upd z 18 (undef), (by unfold Hid; simp [upd, e2]), hz.next apx hsz.out 5 (by decide) _ (fun _ h => Option.some.inj h)⟩
            · have e2 : z 15 = .bool true := hz 2 _ (hw 2 (by kernel_rfl)) rfl
              refine wpOp_skip rfl (by simp [Region.wanted, yielded, e2]) ?_
              go_simp
              exact ⟨⟨by simp [hsz.out], hx.out⟩, upd z 19 (undef), (by unfold Hid; simp [upd, e2]), hz.next apx hsz.out 6 (by decide) _ (fun _ h => Option.some.inj h)⟩
            · have e2 : z 15 = .bool true := hz 2 _ (hw 2 (by kernel_rfl)) rfl
              refine wpOp_skip rfl (by simp [Region.wanted, yielded, e2]) ?_
              go_simp
              exact ⟨⟨by simp [hsz.out], hx.out⟩, upd z 20 (undef), (by unfold Hid; simp [upd, e2]), hz.next apx hsz.out 7 (by decide) _ (fun _ h => Option.some.inj h)⟩
            · have e2 : z 15 = .bool true := hz 2 _ (hw 2 (by kernel_rfl)) rfl
              refine wpOp_skip rfl (by simp [Region.wanted, yielded, e2]) ?_
              go_simp
              exact ⟨⟨by simp [hsz.out], hx.out⟩, upd z 21 (undef), (by unfold Hid; simp [upd, e2]), hz.next apx hsz.out 8 (by decide) _ (fun _ h => Option.some.inj h)⟩
            · have e2 : z 15 = .bool true := hz 2 _ (hw 2 (by kernel_rfl)) rfl
              refine wpOp_skip rfl (by simp [Region.wanted, yielded, e2]) ?_
              go_simp
              exact ⟨⟨by simp [hsz.out], hx.out⟩, upd z 22 (undef), (by unfold Hid; simp [upd, e2]), hz.next apx hsz.out 9 (by decide) _ (fun _ h => Option.some.inj h)⟩
            · have e2 : z 15 = .bool true := hz 2 _ (hw 2 (by kernel_rfl)) rfl
              have e9 : z 22 = undef := hz 9 _ (hw 9 (by kernel_rfl)) rfl
              refine wpOp_plain rfl rfl ?_
              go_simp
              exact ⟨⟨by simp [hsz.out], hx.out⟩, upd z 23 (.bool true), (by unfold Hid; simp [upd, e2, e9]), hz.next apx hsz.out 10 (by decide) _ (fun _ h => Option.some.inj h)⟩
          · exact ⟨⟨rfl, (Below.refl _ _).drew⟩, fun xx => (#[.slice (some ⟨b, off, none⟩) n c, undef, .slice none 0 0, u3, .int .i64 ((0 : Nat) : Int), .pointer (some ⟨bx, 0, none⟩), .slice (some ⟨b, off, none⟩) n c, .int .i64 (n : Nat), .int .i64 ((0 : Nat) : Int), .bool true, .int .i64 ((0 : Nat) : Int), .pointer (some ⟨b, off + 0 * 2, none⟩), .agg (lab x.1 x.2), u13, u14, u15, u16, u17, u18, u19, u20, u21, u22, u23, u24, u25, u26, u27, u28, undef] : Array Value).getD xx undef, rfl, Holding.start⟩
        · obtain ⟨q, rfl⟩ : ∃ q, k = q + 1 := ⟨k - 1, by omega⟩
          have Hry2 : Hid (w4.rangeAt b (off + q * 2) (lab y.1 y.2).toList) := Hry.out
          obtain ⟨rr, hrr⟩ : ∃ rr, (!decide (x = y)) = rr := ⟨_, rfl⟩
          have Hrr : Hid (rr = !decide (q + 1 ≠ 0 ∧ x = y)) := by show _ = _; rw [← hrr]; simp
          have heq : ∀ W : World, (if x.1 = y.1 then (if (x.2 : Int) = (y.2 : Int) then Result.ok (Next.value (Value.bool false)) W else Result.ok (Next.value (Value.bool true)) W) else Result.ok (Next.value (Value.bool true)) W) = Result.ok (Next.value (Value.bool rr)) W := by
            intro W
            rw [← hrr]
            obtain ⟨a1, a2⟩ := x
            obtain ⟨b1, b2⟩ := y
            by_cases h1 : a1 = b1 <;> by_cases h2 : a2 = b2 <;> simp [h1, h2] <;> omega
          have hq1 : ¬ (q : Int) + 1 = 0 := by omega
          have hwq : IntKind.i64.wrap (q : Int) = q := by rw [IntKind.wrap_i64]; omega
          have hq2 : (q : Int) < n := by omega
          clear Hry hrr hk0
          have apx : apartB [13, 14, 15, 16, 17, 18, 19, 20, 21, 22, 23] = true := by decide
          refine wp_region_any (by kernel_rfl) ?_
          change wpAny _ _ _ _ _ _ _ (World.drew _)
          refine wpAny_inv (fun ll aa wx => Hid (ll.size = 11 ∧ Below w4.heap.size w4 wx) ∧ ∃ (z : Nat → Value), Hid (aa = ⟨#[.slice (some ⟨b, off, none⟩) n c, undef, .slice none 0 0, u3, .int .i64 ((q + 1 : Nat) : Int), .pointer (some ⟨bx, 0, none⟩), .slice (some ⟨b, off, none⟩) n c, .int .i64 (n : Nat), .int .i64 ((q + 1 : Nat) : Int), .bool true, .int .i64 ((q + 1 : Nat) : Int), .pointer (some ⟨b, off + (q + 1) * 2, none⟩), .agg (lab x.1 x.2), z 13, z 14, z 15, z 16, z 17, z 18, z 19, z 20, z 21, z 22, z 23, u24, u25, u26, u27, u28, undef], []⟩) ∧ Holding [13, 14, 15, 16, 17, 18, 19, 20, 21, 22, 23] [some (.int .i64 ((q + 1 : Nat) : Int)), some (.bool false), some (.bool false), some (.agg (lab x.1 x.2)), some (.slice (some ⟨b, off, none⟩) n c), some (.int .i64 ((q + 1 : Nat) : Int)), some (.int .i64 (q : Nat)), some (.pointer (some ⟨b, off + q * 2, none⟩)), some (.agg (lab y.1 y.2)), some (.bool rr), some (.bool rr)] ll z) ?_ (by kernel_rfl) ?_ ?_ _ _ _ _ (unlisted_none _) ?_
          · rintro ll aa wx ⟨hI, _⟩
            exact hI.out.1
          · rintro ll aa wx ⟨hI, z, ha, hz⟩ hall
            have hx := Lib.hid hI.out.2
            have e0 : z 13 = .int .i64 ((q + 1 : Nat) : Int) := hz 0 _ (hall 0 (by decide)) rfl
            have e1 : z 14 = .bool false := hz 1 _ (hall 1 (by decide)) rfl
            have e2 : z 15 = .bool false := hz 2 _ (hall 2 (by decide)) rfl
            have e3 : z 16 = .agg (lab x.1 x.2) := hz 3 _ (hall 3 (by decide)) rfl
            have e4 : z 17 = .slice (some ⟨b, off, none⟩) n c := hz 4 _ (hall 4 (by decide)) rfl
            have e5 : z 18 = .int .i64 ((q + 1 : Nat) : Int) := hz 5 _ (hall 5 (by decide)) rfl
            have e6 : z 19 = .int .i64 (q : Nat) := hz 6 _ (hall 6 (by decide)) rfl
            have e7 : z 20 = .pointer (some ⟨b, off + q * 2, none⟩) := hz 7 _ (hall 7 (by decide)) rfl
            have e8 : z 21 = .agg (lab y.1 y.2) := hz 8 _ (hall 8 (by decide)) rfl
            have e9 : z 22 = .bool rr := hz 9 _ (hall 9 (by decide)) rfl
            have e10 : z 23 = .bool rr := hz 10 _ (hall 10 (by decide)) rfl
            clear hall hz hI 
            obtain rfl := ha.out
            clear ha
            clear apx
            have E := Lib.hid e10
            have HX2 := Lib.hid hx.out
            clear e0 e1 e2 e3 e4 e5 e6 e7 e8 e9 e10 hx
            rw [E.out]
            go_wp2
            go_meet
            exact ⟨_, rfl, Hrr.out, HX2.out⟩
          · rintro ll aa wx i ⟨hI, z, ha, hz⟩ hi hu hw
            obtain rfl := ha.out
            have hsz := Lib.hid hI.out.1
            have hx := Lib.hid hI.out.2
            clear ha hI
            have hin : i < 11 := hi
            obtain rfl | rfl | rfl | rfl | rfl | rfl | rfl | rfl | rfl | rfl | rfl : i = 0 ∨ i = 1 ∨ i = 2 ∨ i = 3 ∨ i = 4 ∨ i = 5 ∨ i = 6 ∨ i = 7 ∨ i = 8 ∨ i = 9 ∨ i = 10 := by omega
            · refine wpOp_plain rfl rfl ?_
              go_simp
              exact ⟨⟨by simp [hsz.out], hx.out⟩, upd z 13 (.int .i64 ((q + 1 : Nat) : Int)), (by unfold Hid; simp [upd]), hz.next apx hsz.out 0 (by decide) _ (fun _ h => Option.some.inj h)⟩
            · have e0 : z 13 = .int .i64 ((q + 1 : Nat) : Int) := hz 0 _ (hw 0 (by kernel_rfl)) rfl
              refine wpOp_plain rfl rfl ?_
              go_simp
              exact ⟨⟨by simp [hsz.out], hx.out⟩, upd z 14 (.bool false), (by unfold Hid; simp [upd, e0, hq1]), hz.next apx hsz.out 1 (by decide) _ (fun _ h => Option.some.inj h)⟩
            · have e1 : z 14 = .bool false := hz 1 _ (hw 1 (by kernel_rfl)) rfl
              refine wpOp_plain rfl rfl ?_
              go_simp
              exact ⟨⟨by simp [hsz.out], hx.out⟩, upd z 15 (.bool false), (by unfold Hid; simp [upd, e1]), hz.next apx hsz.out 2 (by decide) _ (fun _ h => Option.some.inj h)⟩
            · have e2 : z 15 = .bool false := hz 2 _ (hw 2 (by kernel_rfl)) rfl
              have cl := (hx.out.block _ (Array.getElem?_eq_some_iff.1 H4.out).1).trans H4.out
              refine wpOp_want rfl (by simp [Region.wanted, yielded, e2]) (wp_load_row 34 (.tmp 5) rfl (bx) rfl 34 (lab x.1 x.2) (0, 0) _ cl Tryz.underlying34 rfl infoL ?_)
              go_simp
              exact ⟨⟨by simp [hsz.out], hx.out⟩, upd z 16 (.agg (lab x.1 x.2)), (by unfold Hid; simp [upd, e2]), hz.next apx hsz.out 3 (by decide) _ (fun _ h => Option.some.inj h)⟩
            · have e2 : z 15 = .bool false := hz 2 _ (hw 2 (by kernel_rfl)) rfl
              refine wpOp_want rfl (by simp [Region.wanted, yielded, e2]) ?_
              go_simp
              exact ⟨⟨by simp [hsz.out], hx.out⟩, upd z 17 (.slice (some ⟨b, off, none⟩) n c), (by unfold Hid; simp [upd, e2]), hz.next apx hsz.out 4 (by decide) _ (fun _ h => Option.some.inj h)⟩
            · have e2 : z 15 = .bool false := hz 2 _ (hw 2 (by kernel_rfl)) rfl
              refine wpOp_want rfl (by simp [Region.wanted, yielded, e2]) ?_
              go_simp
              exact ⟨⟨by simp [hsz.out], hx.out⟩, upd z 18 (.int .i64 ((q + 1 : Nat) : Int)), (by unfold Hid; simp [upd, e2]), hz.next apx hsz.out 5 (by decide) _ (fun _ h => Option.some.inj h)⟩
            · have e2 : z 15 = .bool false := hz 2 _ (hw 2 (by kernel_rfl)) rfl
              have e5 : z 18 = .int .i64 ((q + 1 : Nat) : Int) := hz 5 _ (hw 5 (by kernel_rfl)) rfl
              refine wpOp_want rfl (by simp [Region.wanted, yielded, e2]) ?_
              go_simp
              exact ⟨⟨by simp [hsz.out], hx.out⟩, upd z 19 (.int .i64 (q : Nat)), (by unfold Hid; simp [upd, e2, e5]), hz.next apx hsz.out 6 (by decide) _ (fun _ h => Option.some.inj h)⟩
            · have e2 : z 15 = .bool false := hz 2 _ (hw 2 (by kernel_rfl)) rfl
              have e4 : z 17 = .slice (some ⟨b, off, none⟩) n c := hz 4 _ (hw 4 (by kernel_rfl)) rfl
              have e6 : z 19 = .int .i64 (q : Nat) := hz 6 _ (hw 6 (by kernel_rfl)) rfl
              refine wpOp_want rfl (by simp [Region.wanted, yielded, e2]) ?_
              go_simp
              exact ⟨⟨by simp [hsz.out], hx.out⟩, upd z 20 (.pointer (some ⟨b, off + q * 2, none⟩)), (by unfold Hid; simp [upd, e2, e4, e6]), hz.next apx hsz.out 7 (by decide) _ (fun _ h => Option.some.inj h)⟩
            · have e2 : z 15 = .bool false := hz 2 _ (hw 2 (by kernel_rfl)) rfl
              have e7 : z 20 = .pointer (some ⟨b, off + q * 2, none⟩) := hz 7 _ (hw 7 (by kernel_rfl)) rfl
              have rg : wx.rangeAt b (off + q * 2) (lab y.1 y.2).toList := fun j v hv => (hx.out.cell (p := ⟨b, off + q * 2 + j, none⟩) (World.block_lt_of_cell? _ _ (Hry2.out j v hv))).trans (Hry2.out j v hv)
              refine wpOp_want rfl (by simp [Region.wanted, yielded, e2]) (wp_load_mid 34 (.tmp 20) rfl b (off + q * 2) e7 (lab y.1 y.2).toList _ rg Tryz.underlying34 rfl infoL2 ?_)
              go_simp
              exact ⟨⟨by simp [hsz.out], hx.out⟩, upd z 21 (.agg (lab y.1 y.2)), (by unfold Hid; simp [upd, e2, e7]), hz.next apx hsz.out 8 (by decide) _ (fun _ h => Option.some.inj h)⟩
            · have e2 : z 15 = .bool false := hz 2 _ (hw 2 (by kernel_rfl)) rfl
              have e3 : z 16 = .agg (lab x.1 x.2) := hz 3 _ (hw 3 (by kernel_rfl)) rfl
              have e8 : z 21 = .agg (lab y.1 y.2) := hz 8 _ (hw 8 (by kernel_rfl)) rfl
              refine wpOp_want rfl (by simp [Region.wanted, yielded, e2]) ?_
              go_simp
              exact ⟨⟨by simp [hsz.out], hx.out⟩, upd z 22 (.bool rr), (by unfold Hid; simp [upd, e2, e3, e8]), hz.next apx hsz.out 9 (by decide) _ (fun _ h => Option.some.inj h)⟩
            · have e2 : z 15 = .bool false := hz 2 _ (hw 2 (by kernel_rfl)) rfl
              have e9 : z 22 = .bool rr := hz 9 _ (hw 9 (by kernel_rfl)) rfl
              refine wpOp_plain rfl rfl ?_
              go_simp
              exact ⟨⟨by simp [hsz.out], hx.out⟩, upd z 23 (.bool rr), (by unfold Hid; simp [upd, e2, e9]), hz.next apx hsz.out 10 (by decide) _ (fun _ h => Option.some.inj h)⟩
          · exact ⟨⟨rfl, (Below.refl _ _).drew⟩, fun xx => (#[.slice (some ⟨b, off, none⟩) n c, undef, .slice none 0 0, u3, .int .i64 ((q + 1 : Nat) : Int), .pointer (some ⟨bx, 0, none⟩), .slice (some ⟨b, off, none⟩) n c, .int .i64 (n : Nat), .int .i64 ((q + 1 : Nat) : Int), .bool true, .int .i64 ((q + 1 : Nat) : Int), .pointer (some ⟨b, off + (q + 1) * 2, none⟩), .agg (lab x.1 x.2), u13, u14, u15, u16, u17, u18, u19, u20, u21, u22, u23, u24, u25, u26, u27, u28, undef] : Array Value).getD xx undef, rfl, Holding.start⟩
      case rest =>
        obtain ⟨r, rfl, hr, hl⟩ := hcut
        have lw := L4.out.trans (hl.out.mono L4.out.size)
        have own5 := OwnL.keep hI.out.1 lw (fun q e => (World.ownsRow.lt hI.out.1 q e).2)
        have low5 : Below w.heap.size w wc := hI.out.2.trans (lw.mono hI.out.2.size)
        have h5 : wc.heap[bx]? = some (.cells (lab x.1 x.2) 34 (0, 0)) := (hl.out.block _ (Array.getElem?_eq_some_iff.1 H4.out).1).trans H4.out
        have hlen : (distL (xs.take k)).length ≤ 100000 := by have := distL_len (xs.take k); rw [List.length_take] at this; omega
        cases r with
        | false =>
          have hc : k ≠ 0 ∧ x = y := by have := hr.out; simpa using this
          have HI2 : Hid (OwnL w.heap.size (distL (xs.take (k + 1))) u3 wc ∧ Below w.heap.size w wc) := by
            refine ⟨?_, low5⟩
            rw [Hst.out, if_pos hc]
            exact own5
          clear hc hr hl lw own5 low5 h5 hlen hI Hst Hry H4 L4 Hbx
          go_wp2
          go_roundw
          case rel => exact ⟨k + 1, by omega, by go_num, HI2⟩
          case measure => simp [intOf]; omega
        | true =>
          have hc : ¬ (k ≠ 0 ∧ x = y) := fun h2 => by have h3 := hr.out; rw [decide_eq_true h2] at h3; cases h3
          have Hcr : Hid (wc.rangeAt bx 0 (lab x.1 x.2).toList) := fun j v hv => by rw [Nat.zero_add, cell_row h5]; simpa using hv
          have Own5 := Lib.hid own5
          have Low5 := Lib.hid low5
          have Hc := Lib.hid hc
          clear hc hr hl lw own5 low5 h5 hI Hry H4 L4 Hbx
          go_upto_region 6 with (fail)
          refine wp_region_lit ?_
          refine wpList_plain rfl (fun K hK => ?_)
          go_simp
          refine hK _ _ ?_
          clear hK
          clear K
          refine wpList_load_mid rfl 34 (.tmp 5) rfl bx 0 rfl (lab x.1 x.2).toList _ Hcr.out Tryz.underlying34 rfl infoL2 ?_
          have hv1 : ∀ v ∈ [Value.agg (lab x.1 x.2)], v.cells.size = 2 := fun v hv => by obtain rfl := List.mem_singleton.1 hv; rfl
          refine Great.wpList_buildRows (by rfl) 38 34 #[(0, .tmp 25)] 2 [.agg (lab x.1 x.2)] (by rfl) (fun _ => 25) wc.heap.size (by rfl) (some 26) (by rfl) Tryz.underlying38 (infoL2 (a := 0) (c := 0)) (by kernel_rfl) (by decide) (Nat.zero_lt_one) (by show 1 * 2 ≤ 2 ^ 24; decide) (by rfl) hv1 (fun i h => by
            obtain rfl : i = 0 := by simpa using h
            rfl) ?_
          obtain ⟨w7, hw7⟩ : ∃ w7, w7 = wc.alloc (.cells (lab x.1 x.2) 34) := ⟨_, rfl⟩
          have e7 : wc.alloc (.cells (([.agg (lab x.1 x.2)] : List Value).flatMap fun v => v.cells.toList).toArray 34) = w7 := by rw [hw7]; rfl
          rw [e7]
          have h7 : w7.heap[wc.heap.size]? = some (.cells (lab x.1 x.2) 34 (0, 0)) := by rw [hw7]; exact Go.heap_alloc_new wc _
          have l7 : Below wc.heap.size wc w7 := by rw [hw7]; exact (Below.refl _ _).alloc (Nat.le_refl _) _
          clear e7 hw7
          have own7 : OwnL w.heap.size (distL (xs.take k)) u3 w7 := OwnL.keep Own5.out l7 (fun q e => (World.ownsRow.lt Own5.out q e).2)
          have low7 : Below w.heap.size w w7 := Low5.out.trans (l7.mono Low5.out.size)
          refine wpList_append_lab rfl (.tmp 24) (.tmp 26) rfl w.heap.size u3 (distL (xs.take k)) x rfl own7 wc.heap.size rfl h7 hlen low7.size ?_
          intro v8 w8 own8 gr8
          have HI2 : Hid (OwnL w.heap.size (distL (xs.take (k + 1))) v8 w8 ∧ Below w.heap.size w w8) := by
            refine ⟨?_, low7.grown gr8 low7.size (fun q hq => (World.ownsRow.lt own7 q hq).1)⟩
            rw [Hst.out, if_neg Hc.out]
            exact own8
          clear own8 gr8 own7 low7 h7 l7 Own5 Low5 Hc Hst hv1 Hcr hlen
          refine wpList_plain rfl (fun K hK => ?_)
          go_simp
          refine hK _ _ ?_
          clear hK
          clear K
          refine wpList_nil ?_
          go_simp
          go_wp2
          go_roundw
          case rel => exact ⟨k + 1, by omega, by go_num, HI2⟩
          case measure => simp [intOf]; omega
    · have hlt' : ¬ (k : Int) < n := by omega
      obtain rfl : k = n := by omega
      have Ho : Hid (OwnL w.heap.size (distL xs) u3 wr) := by
        have h := hI.out.1
        rwa [List.take_of_length_le (by have := Hn.out; omega)] at h
      have Hl := Lib.hid hI.out.2
      clear hI
      go_wp2
      go_ret
      exact ⟨_, rfl, Ho.out, Hl.out⟩
end Go.Proofs.YtpkolmmahoopcaaGreatDoor.Lab
