/- DERIVED. What the shelf's sort leaves, as a list of rules; a new row of rules read. -/
import Derived.Test.YtmbcojpdigoojaaGreatDoorRulSort
namespace Go.Proofs.YtmbcojpdigoojaaGreatDoor.Rul
open Go.RowKit Lab Pth Go.Shelf Go.Sort
theorem strict_of {xs us : List Rl} (hp : us.Perm xs) (hd : xs.Pairwise fun x y => x.p ≠ y.p) (hs : ∀ i j (hi : i < us.length) (hj : j < us.length), i < j → 0 ≤ ordR us[j] us[i]) : StrictR us := by
  have hd2 : us.Pairwise fun x y => x.p ≠ y.p := (hp.pairwise_iff (fun h e => h e.symm)).2 hd
  unfold StrictR
  rw [List.pairwise_iff_getElem] at hd2 ⊢
  intro i j hi hj hij
  have h1 := hs i j hi hj hij
  have h2 := ordR_neg us[j] us[i]
  by_cases e : ordR us[i] us[j] = 0
  · exact absurd (bl_inj ((Pth.ord_eq _ _).1 e)) (hd2 i j hi hj hij)
  · omega
theorem all_apart {p : ByteArray} {rs : List Rl} {r : Rl} (hs : StrictR rs) (hr : r.p = p) : (othersL p rs ++ [r]).Pairwise fun x y => x.p ≠ y.p := by
  rw [List.pairwise_append]
  refine ⟨?_, List.pairwise_singleton _ _, fun x hx y hy => ?_⟩
  · unfold othersL
    refine List.Pairwise.filter _ (hs.imp fun {x y} h e => ?_)
    have h0 : ordR x y = 0 := (Pth.ord_eq _ _).2 (by rw [e])
    omega
  · obtain rfl := List.mem_singleton.1 hy
    rw [hr]
    exact (mem_others.1 hx).2
theorem rules_sorted {xs : List Rl} {d' : Array Rl} (hp : PermIn 0 xs.toArray.size xs.toArray d') (hs : SortedIn (ltOf ordR) 0 xs.toArray.size d') (hd : xs.Pairwise fun x y => x.p ≠ y.p) : d'.toList.length = xs.length ∧ d'.toList.Perm xs ∧ StrictR d'.toList := by
  obtain ⟨h1, _, h3⟩ := hp
  have e1 : d'.size = xs.length := by simpa using h1
  have hp2 : d'.toList.Perm xs := by
    have a1 : d'.extract 0 xs.toArray.size = d' := by rw [← h1]; simp
    have a2 : xs.toArray.extract 0 xs.toArray.size = xs.toArray := by simp
    rw [a1, a2] at h3
    simpa using h3
  refine ⟨by simpa using e1, hp2, strict_of hp2 hd fun i j hi hj hij => ?_⟩
  have hj2 : j < d'.size := by simpa using hj
  have hi2 : i < d'.size := by simpa using hi
  have h := hs i j (Nat.zero_le _) hij (by rw [← h1]; exact hj2)
  rw [ltOf_no] at h
  simpa [hj2, hi2] using h
theorem flatR_enc {xs : List Rl} : ∀ (t : Nat), t < xs.length * 3 → (flatR xs)[t]? = some (encR xs.toArray[t / 3]!)[t % 3]! := by
  intro t ht
  have h1 : t / 3 < xs.length := by omega
  have hx : xs[t / 3]? = some xs[t / 3] := List.getElem?_eq_getElem h1
  have h2 : (rlc xs[t / 3]).toList[t % 3]? = some (encR xs[t / 3])[t % 3]! := by
    have : t % 3 = 0 ∨ t % 3 = 1 ∨ t % 3 = 2 := by omega
    rcases this with e | e | e <;> rw [e] <;> rfl
  have h3 := flatR_get (t / 3) _ hx (t % 3) _ h2
  rw [show t / 3 * 3 + t % 3 = t by omega] at h3
  rw [h3]
  simp [h1]
theorem holds_ofR {w : World} {g n T : Nat} {xs : List Rl} {cur : Array Value} (hn : xs.length = n) (hg : w.heap[g]? = some (.cells cur T (0, 0))) (ht : cur.toList.take (n * 3) = flatR xs) : HoldsK encR 3 w g 0 xs.toArray := by
  intro j hj
  rw [size_flatK] at hj
  have hj' : j < xs.length * 3 := by simpa using hj
  have h1 := flatR_enc (xs := xs) j hj'
  rw [← ht, List.getElem?_take, if_pos (by omega)] at h1
  refine ⟨?_, free_row hg _⟩
  rw [get_flatK _ _ _ _ (by simpa using hj), Nat.zero_add, cell_row hg]
  simpa using h1
theorem rules_ofK {w : World} {g cap : Nat} {xs : List Rl} (h : HoldsK encR 3 w g 0 xs.toArray) (hg : g < w.heap.size) (hc : xs.length ≤ cap) : Ruls w (some ⟨g, 0, none⟩) cap xs := by
  refine ⟨hc, (fun h => by cases h), fun _ => ⟨g, 0, rfl, hg, fun i x hx j v hv => ?_⟩⟩
  have hi := (List.getElem?_eq_some_iff.1 hx).1
  have hj : j < 3 := by have := (List.getElem?_eq_some_iff.1 hv).1; simpa using this
  have k := (h.cell (i := i) (c := j) (by simpa using hi) hj).1
  rw [k]
  have e : (xs.toArray)[i]! = x := by
    rw [List.getElem?_eq_getElem hi] at hx
    simp [hi] at hx ⊢
    exact hx
  rw [e]
  have hv2 : (encR x)[j]? = some v := hv
  rw [List.getElem!_eq_getElem?_getD, hv2]
  rfl
theorem below_sortR {w : World} {B g n : Nat} {d : Array Rl} {os : Array Obj} (hB : B ≤ g) (hg : g < w.heap.size) : RowKit.Below B w (sortWorldK encR 3 w g 0 n d os) := by
  refine ⟨rfl, rfl, rfl, size_sortWorldK_c _ _ _ _ _ _ _ _, fun k hk => ?_⟩
  show ((putRowK encR 3 (Sort.ahead w n) g 0 d).heap ++ os)[k]? = _
  have hs : (putRowK encR 3 (Sort.ahead w n) g 0 d).heap.size = w.heap.size := by rw [size_putRowK]; rfl
  rw [Array.getElem?_append_left (by omega)]
  show (w.heap.modify g _)[k]? = _
  rw [Array.getElem?_modify, if_neg (by omega)]
/-- slices.SortFunc on an own row of rules whose prefixes are unlike. -/
theorem sort_own {base : Nat} {xs : List Rl} {u : Value} {w : World} (ho : OwnR base xs u w) (h0 : 0 < xs.length) (hle : xs.length ≤ 1000) (hd : xs.Pairwise fun x y => x.p ≠ y.p) :
    ∃ g cap, u = .slice (some ⟨g, 0, none⟩) xs.length cap ∧ base ≤ g ∧ Calls Tryz.prog 37 #[u, .func (.func 38) #[] #[]] w fun e w' => e = .returned (.tuple #[]) ∧ ∃ us : List Rl, us.length = xs.length ∧ us.Perm xs ∧ StrictR us ∧ Ruls w' (some ⟨g, 0, none⟩) cap us ∧ (∀ i, i < us.length → w'.frozen? ⟨g, i * 3, none⟩ = false) ∧ RowKit.Below base w w' := by
  rcases ho.2 with ⟨_, h⟩ | ⟨g, cap, cur, hv, hb, hg, hn, hm, hs, ht⟩
  · omega
  · refine ⟨g, cap, hv, hb, ?_⟩
    have hg1 : g < w.heap.size := (Array.getElem?_eq_some_iff.1 hg).1
    have hH : HoldsK encR 3 w g 0 xs.toArray := holds_ofR rfl hg ht
    have hsz : xs.toArray.size = xs.length := by simp
    have h := sort_rules g cap xs.toArray w hH hg1 (by omega)
    rw [hsz] at h
    rw [hv]
    refine h.mono ?_
    rintro e w' ⟨he, d', n, os, hp, hsd, hw⟩
    rw [← hsz] at hp hsd
    obtain ⟨hl, hpm, hst⟩ := rules_sorted hp hsd hd
    have hB : RowKit.Below base w w' := by rw [hw]; exact below_sortR hb hg1
    have hd2 : d' = d'.toList.toArray := by simp
    have hK : HoldsK encR 3 w' g 0 d'.toList.toArray := by
      rw [hw]
      rw [← hd2]
      exact holdsK_sortWorldK_c _ _ _ _ _ xs.toArray _ _ _ hH hg1 (by have := hp.1; simpa using this)
    refine ⟨he, d'.toList, hl, hpm, hst, rules_ofK hK (Nat.lt_of_lt_of_le hg1 hB.size) (by omega), fun i hi => ?_, hB⟩
    have h0 := (hK.cell (i := i) (c := 0) (by simpa using hi) (by decide)).2
    simpa using h0
end Go.Proofs.YtmbcojpdigoojaaGreatDoor.Rul
