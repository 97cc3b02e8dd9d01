/- DERIVED. The contract of label.Sorted: slices.Clone, slices.SortFunc by the shelf's contracts, distinct. -/
import Derived.Test.YtmbcojpdigoojaaGreatDoorShelf
import Derived.Test.YtmbcojpdigoojaaGreatDoorLabRSort
namespace Go.Proofs.YtmbcojpdigoojaaGreatDoor.Lab
open Go.RowKit Str Go.Shelf Go.Sort
def cfL (x y : Int × Nat) : Int := ordL x.1 x.2 y.1 y.2
theorem ltOf_cf : ltOf cfL = ltP := by
  funext x y
  exact ordL_less y x
def encL (x : Int × Nat) : List Value := (lab x.1 x.2).toList
theorem swo : SWO (ltOf cfL) := by
  rw [ltOf_cf]
  exact ⟨ltP_irrefl, fun _ _ _ => ltP_trans, fun _ _ _ h k => ltP_ntrans (x := _) k h⟩
theorem cmpLays (blk off size : Nat) (w : World) : CmpLays Tryz.prog 46 #[] encL 2 cfL blk off size w := by
  intro m os dk _ x y
  refine (order_world x.1 y.1 x.2 y.2 _).mono ?_
  rintro e w' ⟨he, hw⟩
  exact ⟨he, 0, #[.cells (lab x.1 x.2) 34, .cells (lab y.1 y.2) 34], by rw [← hw, alloc_eq_grow, alloc_eq_grow, grow_grow]; rfl⟩
theorem aggLab : ∀ w, (isAgg 34).run Tryz.prog w = .ok true w := Tryz.isAgg34
theorem sizeLab : ∀ w, (Go.sizeOf 34).run Tryz.prog w = .ok 2 w := Tryz.sizeOf34
theorem sort_some (g cap : Nat) (d : Array (Int × Nat)) (w : World) (hH : HoldsK encL 2 w g 0 d) (hg : g < w.heap.size) (hsz : d.size < 4611686018427387904) :
    Calls Tryz.prog 45 #[.slice (some ⟨g, 0, none⟩) d.size cap, .func (.func 46) #[] #[]] w fun e w' => e = .returned (.tuple #[]) ∧ ∃ n os, w' = sortWorldK encL 2 w g 0 n (sortL d.toList).toArray os := by
  have eg : ∀ args w, (callFunc 46 args).run Tryz.prog w = .ok (.enter 46 args) w := enters_of Tryz.func46 (by kernel_rfl) rfl
  have h := AnyQ.slices_SortFunc_total Tryz.sortLab 2 aggLab sizeLab encL (fun _ => rfl) (fun x => lab_ones x.1 x.2) cfL swo 46 #[] g 0 cap d w eg (cmpLays g 0 d.size w) hH hg hsz (fun x y h k => by rw [ltOf_cf] at h k; exact ltP_total h k)
  rw [ltOf_cf] at h
  exact h
theorem sort_none (p : Option Addr) (cap : Nat) (fv : Value) (w : World) : Calls Tryz.prog 45 #[.slice p 0 cap, fv] w fun e w' => e = .returned (.tuple #[]) ∧ w' = w :=
  AnyF.slices_SortFunc_none (P := Tryz.prog) (ρ := Tryz.sortLab_ren) { Tryz.sortLab with } p cap fv w
theorem flatP_enc {xs : List (Int × Nat)} : ∀ (t : Nat), t < xs.length * 2 → (flatP xs)[t]? = some (encL xs.toArray[t / 2]!)[t % 2]! := by
  intro t ht
  have h1 : t / 2 < xs.length := by omega
  have hx : xs[t / 2]? = some xs[t / 2] := List.getElem?_eq_getElem h1
  have h2 : (lab xs[t / 2].1 xs[t / 2].2).toList[t % 2]? = some (encL xs[t / 2])[t % 2]! := by
    have : t % 2 = 0 ∨ t % 2 = 1 := by omega
    rcases this with e | e <;> rw [e] <;> rfl
  have h3 := flatP_get (t / 2) _ hx (t % 2) _ h2
  rw [show t / 2 * 2 + t % 2 = t by omega] at h3
  rw [h3]
  simp [h1]
theorem holds_of {w : World} {g cap n T : Nat} {xs : List (Int × Nat)} {cur : Array Value} (hn : xs.length = n) (hg : w.heap[g]? = some (.cells cur T (0, 0))) (ht : cur.toList.take (n * 2) = flatP xs) (_hc : n ≤ cap) : HoldsK encL 2 w g 0 xs.toArray := by
  intro j hj
  rw [size_flatK] at hj
  have hj' : j < xs.length * 2 := by simpa using hj
  have h1 := flatP_enc (xs := xs) j hj'
  rw [← ht, List.getElem?_take, if_pos (by omega)] at h1
  refine ⟨?_, free_row hg _⟩
  rw [get_flatK _ _ _ _ (by simpa using hj), Nat.zero_add, cell_row hg]
  simpa using h1
theorem labs_of {w : World} {g cap : Nat} {xs : List (Int × Nat)} (h : HoldsK encL 2 w g 0 xs.toArray) (hg : g < w.heap.size) (hc : xs.length ≤ cap) : Labs w (some ⟨g, 0, none⟩) cap xs := by
  refine ⟨hc, (fun h => by cases h), fun _ => ⟨g, 0, rfl, hg, fun i x hx j v hv => ?_⟩⟩
  have hi := (List.getElem?_eq_some_iff.1 hx).1
  have hj : j < 2 := by have := (List.getElem?_eq_some_iff.1 hv).1; simpa using this
  have k := (h.cell (i := i) (c := j) (by simpa using hi) hj).1
  rw [k]
  have e : (xs.toArray)[i]! = x := by
    rw [List.getElem?_eq_getElem hi] at hx
    simp [hi] at hx ⊢
    exact hx
  rw [e]
  have hv2 : (encL x)[j]? = some v := hv
  rw [List.getElem!_eq_getElem?_getD, hv2]
  rfl
theorem below_sort {w : World} {B g n : Nat} {d : Array (Int × Nat)} {os : Array Obj} (hB : B ≤ g) (hg : g < w.heap.size) : Below B w (sortWorldK encL 2 w g 0 n d os) := by
  refine ⟨rfl, rfl, rfl, size_sortWorldK_c _ _ _ _ _ _ _ _, fun k hk => ?_⟩
  show ((putRowK encL 2 (Sort.ahead w n) g 0 d).heap ++ os)[k]? = _
  have hs : (putRowK encL 2 (Sort.ahead w n) g 0 d).heap.size = w.heap.size := by rw [size_putRowK]; rfl
  rw [Array.getElem?_append_left (by omega)]
  show (w.heap.modify g _)[k]? = _
  rw [Array.getElem?_modify, if_neg (by omega)]
theorem clone_some (b off n c : Nat) (xs : List (Int × Nat)) (hn : xs.length = n) (hle : n ≤ 100000) (w : World) (hX : Labs w (some ⟨b, off, none⟩) c xs) :
    Calls Tryz.prog 44 #[.slice (some ⟨b, off, none⟩) n c] w fun e w' => ∃ v', e = .returned v' ∧ w'.ownsRow w.heap.size 34 2 v' n (flatP xs) ∧ v' ≠ .slice none 0 0 ∧ Below w.heap.size w w' := by
  obtain ⟨i0, hi0, hz00, hz10, hz20⟩ := info_parts infoLz
  refine AnyE.slices_Clone Tryz.cloneLab i0 labZero 2 16 hi0 hz00 hz10 hz20 rfl (by decide) sizeLab b off n c (flatP xs) w (by rw [flatP_len, hn]) (by unfold maxLen; omega) (by omega) (fun j u hu => ?_) flatP_one
  obtain ⟨i, x, r, e, h1, h2⟩ := flatP_cell j u hu
  have hi : i < xs.length := (List.getElem?_eq_some_iff.1 h1).1
  obtain ⟨b', off', e2, hb, hc⟩ := hX.2.2 (by omega)
  cases e2
  rw [e, ← Nat.add_assoc]
  exact hc i x h1 r u h2
theorem clone_none (n c : Nat) (w : World) : Calls Tryz.prog 44 #[.slice none n c] w fun e w' => e = .returned (.slice none 0 0) ∧ w' = w :=
  AnyE.slices_Clone_nil Tryz.cloneLab n c w
/-- label.Sorted of any slice of labels. -/
theorem sorted_any (A : Option Addr) (n c : Nat) (xs : List (Int × Nat)) (hn : xs.length = n) (hle : n ≤ 100000) (w : World) (hX : Labs w A c xs) (hA : A = none ∨ ∃ b off, A = some ⟨b, off, none⟩) :
    Calls Tryz.prog 27 #[.slice A n c] w fun e w' => ∃ v, e = .returned v ∧ OwnL w.heap.size (refL xs) v w' ∧ Below w.heap.size w w' := by
  rcases hA with rfl | ⟨b, off, rfl⟩
  · have h0 : n = 0 := by have := hX.2.1 rfl; have := hX.1; omega
    have e0 : xs = [] := List.eq_nil_of_length_eq_zero (by omega)
    subst h0 e0
    go_enter Tryz.func27, Tryz.ntmps27
    go_wp2_with fail
    refine (clone_none _ _ _).mono ?_
    rintro e w1 ⟨rfl, rfl⟩
    go_wp2_with fail
    refine (sort_none _ _ _ _).mono ?_
    rintro e w2 ⟨rfl, rfl⟩
    go_wp2_with fail
    refine (distinct_any none 0 0 [] rfl (by omega) _ (Labs.nil _)).mono ?_
    rintro e w3 ⟨v, rfl, hO, hb⟩
    go_wp2
    go_ret
    exact ⟨_, rfl, hO, hb⟩
  · have HX := Lib.hid hX
    have Hn := Lib.hid hn
    clear hX hn
    go_enter Tryz.func27, Tryz.ntmps27
    go_wp2_with fail
    refine (clone_some b off n c xs Hn.out hle _ HX.out).mono ?_
    rintro e w1 ⟨v', rfl, hO1, hne, hb1⟩
    rcases hO1.2 with ⟨hv, _⟩ | ⟨g, cap, cur, hv, hbg, hg, hnc, hm, hs, ht⟩
    · exact absurd hv hne
    · subst hv
      have hg1 : g < w1.heap.size := (Array.getElem?_eq_some_iff.1 hg).1
      have HH := Lib.hid (holds_of Hn.out hg ht hnc)
      clear hO1 hne hg ht hm hs
      have hsz : xs.toArray.size = n := by simpa using Hn.out
      have hS : Calls Tryz.prog 45 #[.slice (some ⟨g, 0, none⟩) n cap, .func (.func 46) #[] #[]] w1 fun e w' => e = .returned (.tuple #[]) ∧ Labs w' (some ⟨g, 0, none⟩) cap (sortL xs) ∧ Below w.heap.size w1 w' := by
        have h := sort_some g cap xs.toArray w1 HH.out hg1 (by omega)
        rw [hsz] at h
        refine h.mono ?_
        rintro e w2 ⟨he, nn, os, hw⟩
        rw [List.toList_toArray] at hw
        have hlen : (sortL xs).length = n := by rw [← Hn.out]; exact List.length_mergeSort _
        have hB : Below w.heap.size w1 w2 := by rw [hw]; exact below_sort hbg hg1
        refine ⟨he, labs_of ?_ (Nat.lt_of_lt_of_le hg1 hB.size) (by omega), hB⟩
        rw [hw]
        exact holdsK_sortWorldK_c _ _ _ _ _ xs.toArray _ _ _ HH.out hg1 (by simp [hlen, Hn.out])
      clear HH hsz
      have HS := Lib.hid hS
      clear hS
      go_wp2_with fail
      refine HS.out.mono ?_
      rintro e w2 ⟨rfl, hL2, hb2⟩
      have hlen : (sortL xs).length = n := by rw [← Hn.out]; exact List.length_mergeSort _
      have HD := Lib.hid (distinct_any (some ⟨g, 0, none⟩) n cap (sortL xs) hlen hle w2 hL2)
      clear hlen hL2 HS
      go_wp2_with fail
      refine HD.out.mono ?_
      rintro e w3 ⟨v, rfl, hO3, hb3⟩
      have hb12 : Below w.heap.size w w2 := hb1.trans hb2
      have HO : Hid (OwnL w.heap.size (refL xs) v w3 ∧ Below w.heap.size w w3) := by
        rw [dist_sort] at hO3
        exact ⟨hO3.base hb12.size, hb12.trans (hb3.mono hb12.size)⟩
      clear hO3 hb12 HD hb1 hb2 hb3
      go_wp2
      go_ret
      exact ⟨_, rfl, HO.out.1, HO.out.2⟩
end Go.Proofs.YtmbcojpdigoojaaGreatDoor.Lab
