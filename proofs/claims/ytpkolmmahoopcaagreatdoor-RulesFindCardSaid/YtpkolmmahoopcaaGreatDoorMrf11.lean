/- DERIVED. Texts of ours, merged: XRefTouch XLabSorted XRulTouched XRulJust XRulCheck. -/
import Derived.Test.YtpkolmmahoopcaaGreatDoorMrf9
import Derived.Test.YtpkolmmahoopcaaGreatDoorMrf10
import Derived.Test.YtpkolmmahoopcaaGreatDoorShelf
import Derived.Test.YtpkolmmahoopcaaGreatDoorMrf5
import Derived.Deep.RegionWith
/- DERIVED. The reference's Touched of layer 7. -/
namespace Go.Proofs.YtpkolmmahoopcaaGreatDoor.Rul
open Go.RowKit Lab
attribute [local go_sem ↓ high] loadAtLb
theorem infoT3 : (Tryz.prog.info? 30).map (·.size) = some 2 := by kernel_rfl
set_option maxRecDepth 100000 in
set_option maxHeartbeats 4000000 in
theorem rtouched_any (v : Int) (A : Option Addr) (n c : Nat) (rs : List Rl) (s : ByteArray) (wb w : World) (hn : rs.length = n) (hR : Ruls wb A c rs) (hwb : Below wb.heap.size wb w) (hz : ∀ r ∈ rs, r.p.size ≤ 1000) (hs : s.size ≤ 1000) (hn9 : n ≤ 900) :
    Calls Tryz.prog 13 #[.agg (tabV v A n c), .string s] w fun e w' => ∃ u, e = .returned u ∧ OwnL w.heap.size (refL (touchF s rs)) u w' ∧ Below w.heap.size w w' := by
  have Hn := Lib.hid hn
  have HR := Lib.hid hR
  have Hwb := Lib.hid hwb
  have Hz := Lib.hid hz
  obtain ⟨q, hq⟩ : ∃ q, q = find s rs := ⟨_, rfl⟩
  have htf : touchF s rs = q :: coveredL s rs := by rw [touchF_eq, hq]
  rw [htf]
  have Hq := Lib.hid hq
  have h1 := Go.heap_alloc_new w (.cells (tabV v A n c) 30)
  have k1 : Below w.heap.size w (w.alloc (.cells (tabV v A n c) 30)) := (Below.refl _ _).alloc (Nat.le_refl _) _
  obtain ⟨W1, hW1⟩ : ∃ W1, W1 = w.alloc (.cells (tabV v A n c) 30) := ⟨_, rfl⟩
  rw [← hW1] at h1 k1
  have s1 : W1.heap.size = w.heap.size + 1 := by rw [hW1, World.size_alloc]
  have HW1 : Hid (w.alloc (.cells (tabV v A n c) 30) = W1) := hW1.symm
  have H1 := Lib.hid h1
  have K1 := Lib.hid k1
  have S1 := Lib.hid s1
  clear hn hR hwb hz hq htf h1 k1 hW1 s1
  go_enter Tryz.func13, Tryz.ntmps13
  go_upto_region 1 with fail
  rw [HW1.out]
  go_upto_region 2 with (first
    | (refine wpList_load_row rfl 30 (.tmp 2) rfl w.heap.size rfl 30 (tabV v A n c) (0, 0) _ H1.out Tryz.underlying30 rfl infoT3 ?_)
    | (go_at_call 10; refine (rfind_any v A n c rs s wb W1 Hn.out HR.out (Hwb.out.trans (K1.out.mono Hwb.out.size)) Hz.out hs (by omega)).mono ?_; rintro e w2 ⟨rfl, low2⟩; rw [← Hq.out]; have Low2 := Lib.hid low2; clear low2))
  obtain ⟨w3, hw3⟩ : ∃ w3, w3 = w2.alloc (.cells (lab q.1 q.2) 34) := ⟨_, rfl⟩
  have own3 : OwnL w2.heap.size ([q] ++ coveredL s (rs.take 0)) (.slice (some ⟨w2.heap.size, 0, none⟩) 1 1) w3 := by
    rw [hw3, List.take_zero, show coveredL s [] = [] by unfold coveredL; rfl]; exact own_one
  have low3 : Below W1.heap.size W1 w3 := by rw [hw3]; exact Low2.out.alloc Low2.out.size _
  have hsz3 : w2.heap.size ≤ w3.heap.size := by rw [hw3, World.size_alloc]; omega
  rw [← hw3]
  have hlim : W1.heap.size ≤ w2.heap.size := Low2.out.size
  have Own3 := Lib.hid own3
  have Low3 := Lib.hid low3
  have Hsz3 := Lib.hid hsz3
  have Hlim := Lib.hid hlim
  have C1 : Hid (W1.cell? ⟨w.heap.size, 1, none⟩ = some (.slice A n c)) := cell_row H1.out 1
  clear own3 low3 hsz3 hlim hw3
  generalize w2.heap.size = B at *
  go_wp2
  go_loopw [5, 6] (fun u i wr => ∃ k : Nat, k ≤ n ∧ i = .int .i64 k ∧ Hid (OwnL B ([q] ++ coveredL s (rs.take k)) u wr ∧ Below W1.heap.size W1 wr ∧ B ≤ wr.heap.size)) (fun _ i _ => n - (intOf i).toNat)
  case atStart => exact ⟨0, by omega, rfl, Own3.out, Low3.out, Hsz3.out⟩
  case round =>
    obtain ⟨k, hk, rfl, hI⟩ := hrel
    clear Own3 Low3
    have hb1 : w.heap.size < W1.heap.size := by rw [S1.out]; exact Nat.lt_succ_self _
    have c1 : wr.cell? ⟨w.heap.size, 1, none⟩ = some (.slice A n c) := (hI.out.2.1.cell (p := ⟨w.heap.size, 1, none⟩) hb1).trans C1.out
    have Hb1 := Lib.hid hb1
    clear hb1
    by_cases hlt : k < n
    · have hltI : (k : Int) < n := by omega
      obtain ⟨r, hr⟩ : ∃ r, rs[k]? = some r := ⟨_, List.getElem?_eq_getElem (by have := Hn.out; omega)⟩
      have hrp := Hz.out r (List.mem_of_getElem? hr)
      have hstep : coveredL s (rs.take (k + 1)) = if cov s r.p = true then coveredL s (rs.take k) ++ [(r.a, r.c)] else coveredL s (rs.take k) := by rw [List.take_add_one, hr]; exact coveredL_snoc s _ r
      obtain ⟨b, off, hA, hb, hrange⟩ := HR.out.at hr
      have hlow : Below wb.heap.size wb wr := Hwb.out.trans ((K1.out.trans (hI.out.2.1.mono K1.out.size)).mono Hwb.out.size)
      have Hr : Hid (wr.rangeAt b (off + k * 3) (rlc r).toList) := fun j u hu => (hlow.cell (p := ⟨b, off + k * 3 + j, none⟩) hb).trans (hrange j u hu)
      have hcap1 : n ≤ c := by have := HR.out.1; have := Hn.out; omega
      have cp : wr.cell? ⟨b, off + k * 3, none⟩ = some (.string r.p) := Hr.out 0 _ rfl
      have hlen : (coveredL s (rs.take k)).length ≤ 1000 := by have := coveredL_len s (rs.take k); rw [List.length_take] at this; omega
      have Hstep := Lib.hid hstep
      have Hlen := Lib.hid hlen
      subst hA
      clear hr hstep hrange hlow hb hlen
      have HC := Lib.hid (fun W => rover_any s r.p W hs (by omega))
      cases hcv : cov s r.p with
      | true =>
        have hc := HC.out
        rw [hcv] at hc
        have HC2 := Lib.hid hc
        have hs2 : [q] ++ coveredL s (rs.take (k + 1)) = ([q] ++ coveredL s (rs.take k)) ++ [(r.a, r.c)] := by rw [Hstep.out, if_pos hcv, List.append_assoc]
        have Hs2 := Lib.hid hs2
        clear hc hs2 HC hcv Hstep
        go_upto_region 6 with (go_at_call 24; refine (HC2.out _).mono ?_; rintro e w5 ⟨rfl, low5⟩; have Own5 : Hid (OwnL B ([q] ++ coveredL s (rs.take k)) u5 w5) := own_stays hI.out.1 low5; have L5 := Lib.hid low5; clear low5)
        have d1 : w5.cell? ⟨w.heap.size, 1, none⟩ = some (.slice (some ⟨b, off, none⟩) n c) := (L5.out.cell (p := ⟨w.heap.size, 1, none⟩) (World.block_lt_of_cell? _ _ c1)).trans c1
        have HLb : Hid (w5.rangeAt b (off + k * 3 + 1) (lab r.a r.c).toList) := fun j v hv => by
          have hj : j < 2 := by have := (List.getElem?_eq_some_iff.1 hv).1; simpa using this
          have hh : (rlc r).toList[1 + j]? = some v := by
            rcases (show j = 0 ∨ j = 1 by omega) with rfl | rfl <;> exact hv
          have h9 := Hr.out (1 + j) v hh
          rw [show off + k * 3 + 1 + j = off + k * 3 + (1 + j) by omega]
          exact (L5.out.cell (p := ⟨b, off + k * 3 + (1 + j), none⟩) (World.block_lt_of_cell? _ _ h9)).trans h9
        have Low5 := Lib.hid (hI.out.2.1.trans (L5.out.mono hI.out.2.1.size))
        have HB5 : Hid (B ≤ w5.heap.size) := Nat.le_trans hI.out.2.2 L5.out.size
        have hlen2 : ([q] ++ coveredL s (rs.take k)).length ≤ 100000 := by have := Hlen.out; simp; omega
        have Hlen2 := Lib.hid hlen2
        have cL5 := loadLb_eq HLb.out
        clear hlen2 c1 cp L5 Hr hI
        go_wp2_with (first
          | (at_builtin; refine wpList_append_lab rfl (.tmp 26) (.tmp 33) rfl B u5 ([q] ++ coveredL s (rs.take k)) (r.a, r.c) rfl (own_stays Own5.out ((Below.refl _ _).alloc (Nat.le_refl _) _)) w5.heap.size rfl (Go.heap_alloc_new w5 _) Hlen2.out (by have := HB5.out; rw [World.size_alloc]; omega) ?_; intro u6 w6 hown6 hgrow6; have Own6 := Lib.hid hown6; have Low6 := Lib.hid ((Low5.out.alloc Low5.out.size (.cells (lab r.a r.c) 34)).grown hgrow6 (by have := Low5.out.size; rw [World.size_alloc]; omega) (fun g hg => Nat.le_trans Hlim.out (World.ownsRow.lt Own5.out g hg).1)); have Hs6 := Lib.hid hgrow6.size; clear hown6 hgrow6))
        go_roundw
        case rel => exact ⟨k + 1, by omega, by go_num, by rw [Hs2.out]; exact ⟨Own6.out, Low6.out, by have h1 := HB5.out; have h2 := Hs6.out; rw [World.size_alloc] at h2; omega⟩⟩
        case measure => simp [intOf]; omega
      | false =>
        have hc := HC.out
        rw [hcv] at hc
        have HC2 := Lib.hid hc
        have hs2 : [q] ++ coveredL s (rs.take (k + 1)) = [q] ++ coveredL s (rs.take k) := by rw [Hstep.out, if_neg (by rw [hcv]; exact Bool.false_ne_true)]
        have Hs2 := Lib.hid hs2
        clear hc hs2 HC hcv Hstep
        go_wp2_with (go_at_call 24; refine (HC2.out _).mono ?_; rintro e w5 ⟨rfl, low5⟩; have Own5 : Hid (OwnL B ([q] ++ coveredL s (rs.take k)) u5 w5) := own_stays hI.out.1 low5; have Low5 := Lib.hid (hI.out.2.1.trans (low5.mono hI.out.2.1.size)); have HB5 : Hid (B ≤ w5.heap.size) := Nat.le_trans hI.out.2.2 low5.size; clear low5)
        go_roundw
        case rel => exact ⟨k + 1, by omega, by go_num, by rw [Hs2.out]; exact ⟨Own5.out, Low5.out, HB5.out⟩⟩
        case measure => simp [intOf]; omega
    · have hge : ¬ (k : Int) < n := by omega
      have ek : k = n := by omega
      have own := hI.out.1
      rw [ek, List.take_of_length_le (Nat.le_of_eq Hn.out)] at own
      obtain ⟨A2, c2, rfl, hlabs⟩ := OwnL.labs own
      have hlen : ([q] ++ coveredL s rs).length ≤ 1000 := by have := coveredL_len s rs; simp; have := Hn.out; omega
      have HS := Lib.hid (rsorted_any A2 _ c2 _ rfl hlen wr hlabs)
      have Low9 := Lib.hid (K1.out.trans (hI.out.2.1.mono K1.out.size))
      clear own hI ek hk hlt hlabs hlen
      go_wp2_with (go_at_call 26; refine HS.out.mono ?_; rintro e w9 ⟨u9, rfl, own9, low9⟩; have Own9 := Lib.hid own9; have Low10 := Lib.hid (Low9.out.trans (low9.mono Low9.out.size)); clear own9 low9)
      go_ret
      exact ⟨_, rfl, own_lower Own9.out Low9.out.size, Low10.out⟩
end Go.Proofs.YtpkolmmahoopcaaGreatDoor.Rul
/- DERIVED. The contract of label.Sorted: slices.Clone, slices.SortFunc by the shelf's contracts, distinct. -/
namespace Go.Proofs.YtpkolmmahoopcaaGreatDoor.Lab
open Go.RowKit Str Go.Shelf Go.Sort
def cfL (x y : Int × Nat) : Int := ordL x.1 x.2 y.1 y.2
theorem ltOf_cf : ltOf cfL = ltP := by
  funext x y
  exact ordL_less y x
def encL (x : Int × Nat) : List Value := (lab x.1 x.2).toList
theorem swo : SWO (ltOf cfL) := by
  rw [ltOf_cf]
  exact ⟨ltP_irrefl, fun _ _ _ => ltP_trans, fun _ _ _ h k => ltP_ntrans (x := _) k h⟩
theorem cmpLays (blk off size : Nat) (w : World) : CmpLays Tryz.prog 40 #[] encL 2 cfL blk off size w := by
  intro m os dk _ x y
  refine (order_world x.1 y.1 x.2 y.2 _).mono ?_
  rintro e w' ⟨he, hw⟩
  exact ⟨he, 0, #[.cells (lab x.1 x.2) 34, .cells (lab y.1 y.2) 34], by rw [← hw, alloc_eq_grow, alloc_eq_grow, grow_grow]; rfl⟩
theorem aggLab : ∀ w, (isAgg 34).run Tryz.prog w = .ok true w := Tryz.isAgg34
theorem sizeLab : ∀ w, (Go.sizeOf 34).run Tryz.prog w = .ok 2 w := Tryz.sizeOf34
theorem sort_some (g cap : Nat) (d : Array (Int × Nat)) (w : World) (hH : HoldsK encL 2 w g 0 d) (hg : g < w.heap.size) (hsz : d.size < 4611686018427387904) :
    Calls Tryz.prog 39 #[.slice (some ⟨g, 0, none⟩) d.size cap, .func (.func 40) #[] #[]] w fun e w' => e = .returned (.tuple #[]) ∧ ∃ n os, w' = sortWorldK encL 2 w g 0 n (sortL d.toList).toArray os := by
  have eg : ∀ args w, (callFunc 40 args).run Tryz.prog w = .ok (.enter 40 args) w := enters_of Tryz.func40 (by kernel_rfl) rfl
  have h := AnyQ.slices_SortFunc_total Tryz.sortLab 2 aggLab sizeLab encL (fun _ => rfl) (fun x => lab_ones x.1 x.2) cfL swo 40 #[] g 0 cap d w eg (cmpLays g 0 d.size w) hH hg hsz (fun x y h k => by rw [ltOf_cf] at h k; exact ltP_total h k)
  rw [ltOf_cf] at h
  exact h
theorem sort_none (p : Option Addr) (cap : Nat) (fv : Value) (w : World) : Calls Tryz.prog 39 #[.slice p 0 cap, fv] w fun e w' => e = .returned (.tuple #[]) ∧ w' = w :=
  AnyF.slices_SortFunc_none (P := Tryz.prog) (ρ := Tryz.sortLab_ren) { Tryz.sortLab with } p cap fv w
theorem flatP_enc {xs : List (Int × Nat)} : ∀ (t : Nat), t < xs.length * 2 → (flatP xs)[t]? = some (encL xs.toArray[t / 2]!)[t % 2]! := by
  intro t ht
  have h1 : t / 2 < xs.length := by omega
  have hx : xs[t / 2]? = some xs[t / 2] := List.getElem?_eq_getElem h1
  have h2 : (lab xs[t / 2].1 xs[t / 2].2).toList[t % 2]? = some (encL xs[t / 2])[t % 2]! := by
    have : t % 2 = 0 ∨ t % 2 = 1 := by omega
    rcases this with e | e <;> rw [e] <;> rfl
  have h3 := flatP_get (t / 2) _ hx (t % 2) _ h2
  rw [show t / 2 * 2 + t % 2 = t by omega] at h3
  rw [h3]
  simp [h1]
theorem holds_of {w : World} {g cap n T : Nat} {xs : List (Int × Nat)} {cur : Array Value} (hn : xs.length = n) (hg : w.heap[g]? = some (.cells cur T (0, 0))) (ht : cur.toList.take (n * 2) = flatP xs) (_hc : n ≤ cap) : HoldsK encL 2 w g 0 xs.toArray := by
  intro j hj
  rw [size_flatK] at hj
  have hj' : j < xs.length * 2 := by simpa using hj
  have h1 := flatP_enc (xs := xs) j hj'
  rw [← ht, List.getElem?_take, if_pos (by omega)] at h1
  refine ⟨?_, free_row hg _⟩
  rw [get_flatK _ _ _ _ (by simpa using hj), Nat.zero_add, cell_row hg]
  simpa using h1
theorem labs_of {w : World} {g cap : Nat} {xs : List (Int × Nat)} (h : HoldsK encL 2 w g 0 xs.toArray) (hg : g < w.heap.size) (hc : xs.length ≤ cap) : Labs w (some ⟨g, 0, none⟩) cap xs := by
  refine ⟨hc, (fun h => by cases h), fun _ => ⟨g, 0, rfl, hg, fun i x hx j v hv => ?_⟩⟩
  have hi := (List.getElem?_eq_some_iff.1 hx).1
  have hj : j < 2 := by have := (List.getElem?_eq_some_iff.1 hv).1; simpa using this
  have k := (h.cell (i := i) (c := j) (by simpa using hi) hj).1
  rw [k]
  have e : (xs.toArray)[i]! = x := by
    rw [List.getElem?_eq_getElem hi] at hx
    simp [hi] at hx ⊢
    exact hx
  rw [e]
  have hv2 : (encL x)[j]? = some v := hv
  rw [List.getElem!_eq_getElem?_getD, hv2]
  rfl
theorem below_sort {w : World} {B g n : Nat} {d : Array (Int × Nat)} {os : Array Obj} (hB : B ≤ g) (hg : g < w.heap.size) : Below B w (sortWorldK encL 2 w g 0 n d os) := by
  refine ⟨rfl, rfl, rfl, size_sortWorldK_c _ _ _ _ _ _ _ _, fun k hk => ?_⟩
  show ((putRowK encL 2 (Sort.ahead w n) g 0 d).heap ++ os)[k]? = _
  have hs : (putRowK encL 2 (Sort.ahead w n) g 0 d).heap.size = w.heap.size := by rw [size_putRowK]; rfl
  rw [Array.getElem?_append_left (by omega)]
  show (w.heap.modify g _)[k]? = _
  rw [Array.getElem?_modify, if_neg (by omega)]
theorem clone_some (b off n c : Nat) (xs : List (Int × Nat)) (hn : xs.length = n) (hle : n ≤ 100000) (w : World) (hX : Labs w (some ⟨b, off, none⟩) c xs) :
    Calls Tryz.prog 38 #[.slice (some ⟨b, off, none⟩) n c] w fun e w' => ∃ v', e = .returned v' ∧ w'.ownsRow w.heap.size 34 2 v' n (flatP xs) ∧ v' ≠ .slice none 0 0 ∧ Below w.heap.size w w' := by
  obtain ⟨i0, hi0, hz00, hz10, hz20⟩ := info_parts infoLz
  refine AnyE.slices_Clone Tryz.cloneLab i0 labZero 2 16 hi0 hz00 hz10 hz20 rfl (by decide) sizeLab b off n c (flatP xs) w (by rw [flatP_len, hn]) (by unfold maxLen; omega) (by omega) (fun j u hu => ?_) flatP_one
  obtain ⟨i, x, r, e, h1, h2⟩ := flatP_cell j u hu
  have hi : i < xs.length := (List.getElem?_eq_some_iff.1 h1).1
  obtain ⟨b', off', e2, hb, hc⟩ := hX.2.2 (by omega)
  cases e2
  rw [e, ← Nat.add_assoc]
  exact hc i x h1 r u h2
theorem clone_none (n c : Nat) (w : World) : Calls Tryz.prog 38 #[.slice none n c] w fun e w' => e = .returned (.slice none 0 0) ∧ w' = w :=
  AnyE.slices_Clone_nil Tryz.cloneLab n c w
/-- label.Sorted of any slice of labels. -/
theorem sorted_any (A : Option Addr) (n c : Nat) (xs : List (Int × Nat)) (hn : xs.length = n) (hle : n ≤ 100000) (w : World) (hX : Labs w A c xs) (hA : A = none ∨ ∃ b off, A = some ⟨b, off, none⟩) :
    Calls Tryz.prog 25 #[.slice A n c] w fun e w' => ∃ v, e = .returned v ∧ OwnL w.heap.size (refL xs) v w' ∧ Below w.heap.size w w' := by
  rcases hA with rfl | ⟨b, off, rfl⟩
  · have h0 : n = 0 := by have := hX.2.1 rfl; have := hX.1; omega
    have e0 : xs = [] := List.eq_nil_of_length_eq_zero (by omega)
    subst h0 e0
    go_enter Tryz.func25, Tryz.ntmps25
    go_wp2_with fail
    refine (clone_none _ _ _).mono ?_
    rintro e w1 ⟨rfl, rfl⟩
    go_wp2_with fail
    refine (sort_none _ _ _ _).mono ?_
    rintro e w2 ⟨rfl, rfl⟩
    go_wp2_with fail
    refine (distinct_any none 0 0 [] rfl (by omega) _ (Labs.nil _)).mono ?_
    rintro e w3 ⟨v, rfl, hO, hb⟩
    go_wp2
    go_ret
    exact ⟨_, rfl, hO, hb⟩
  · have HX := Lib.hid hX
    have Hn := Lib.hid hn
    clear hX hn
    go_enter Tryz.func25, Tryz.ntmps25
    go_wp2_with fail
    refine (clone_some b off n c xs Hn.out hle _ HX.out).mono ?_
    rintro e w1 ⟨v', rfl, hO1, hne, hb1⟩
    rcases hO1.2 with ⟨hv, _⟩ | ⟨g, cap, cur, hv, hbg, hg, hnc, hm, hs, ht⟩
    · exact absurd hv hne
    · subst hv
      have hg1 : g < w1.heap.size := (Array.getElem?_eq_some_iff.1 hg).1
      have HH := Lib.hid (holds_of Hn.out hg ht hnc)
      clear hO1 hne hg ht hm hs
      have hsz : xs.toArray.size = n := by simpa using Hn.out
      have hS : Calls Tryz.prog 39 #[.slice (some ⟨g, 0, none⟩) n cap, .func (.func 40) #[] #[]] w1 fun e w' => e = .returned (.tuple #[]) ∧ Labs w' (some ⟨g, 0, none⟩) cap (sortL xs) ∧ Below w.heap.size w1 w' := by
        have h := sort_some g cap xs.toArray w1 HH.out hg1 (by omega)
        rw [hsz] at h
        refine h.mono ?_
        rintro e w2 ⟨he, nn, os, hw⟩
        rw [List.toList_toArray] at hw
        have hlen : (sortL xs).length = n := by rw [← Hn.out]; exact List.length_mergeSort _
        have hB : Below w.heap.size w1 w2 := by rw [hw]; exact below_sort hbg hg1
        refine ⟨he, labs_of ?_ (Nat.lt_of_lt_of_le hg1 hB.size) (by omega), hB⟩
        rw [hw]
        exact holdsK_sortWorldK_c _ _ _ _ _ xs.toArray _ _ _ HH.out hg1 (by simp [hlen, Hn.out])
      clear HH hsz
      have HS := Lib.hid hS
      clear hS
      go_wp2_with fail
      refine HS.out.mono ?_
      rintro e w2 ⟨rfl, hL2, hb2⟩
      have hlen : (sortL xs).length = n := by rw [← Hn.out]; exact List.length_mergeSort _
      have HD := Lib.hid (distinct_any (some ⟨g, 0, none⟩) n cap (sortL xs) hlen hle w2 hL2)
      clear hlen hL2 HS
      go_wp2_with fail
      refine HD.out.mono ?_
      rintro e w3 ⟨v, rfl, hO3, hb3⟩
      have hb12 : Below w.heap.size w w2 := hb1.trans hb2
      have HO : Hid (OwnL w.heap.size (refL xs) v w3 ∧ Below w.heap.size w w3) := by
        rw [dist_sort] at hO3
        exact ⟨hO3.base hb12.size, hb12.trans (hb3.mono hb12.size)⟩
      clear hO3 hb12 HD hb1 hb2 hb3
      go_wp2
      go_ret
      exact ⟨_, rfl, HO.out.1, HO.out.2⟩
end Go.Proofs.YtpkolmmahoopcaaGreatDoor.Lab
/- DERIVED. The contract of rules.Touched: the labels that a prefix touches. -/
namespace Go.Proofs.YtpkolmmahoopcaaGreatDoor.Rul
open Go.RowKit Lab
set_option maxRecDepth 100000 in
set_option maxHeartbeats 2000000 in
theorem touched_any (v : Int) (A : Option Addr) (n c : Nat) (rs : List Rl) (s : ByteArray) (wb w : World) (hn : rs.length = n) (hR : Ruls wb A c rs) (hwb : Below wb.heap.size wb w) (hL : Pth.Laid w) (hz : ∀ r ∈ rs, r.p.size ≤ 1000) (hs : s.size ≤ 1000) (hn9 : n ≤ 1000) :
    Calls Tryz.prog 12 #[.agg (tabV v A n c), .string s] w fun e w' => ∃ u, e = .returned u ∧ OwnL w.heap.size (refL (touchF s rs)) u w' ∧ Below w.heap.size w w' := by
  have Hn := Lib.hid hn
  have HR := Lib.hid hR
  have Hwb := Lib.hid hwb
  have HL := Lib.hid hL
  have Hz := Lib.hid hz
  obtain ⟨q, hq⟩ : ∃ q, q = find s rs := ⟨_, rfl⟩
  have htf : touchF s rs = q :: coveredL s rs := by rw [touchF_eq, hq]
  rw [htf]
  have Hq := Lib.hid hq
  have h1 := Go.heap_alloc_new w (.cells (tabV v A n c) 24)
  have k1 : Below w.heap.size w (w.alloc (.cells (tabV v A n c) 24)) := (Below.refl _ _).alloc (Nat.le_refl _) _
  obtain ⟨W1, hW1⟩ : ∃ W1, W1 = w.alloc (.cells (tabV v A n c) 24) := ⟨_, rfl⟩
  rw [← hW1] at h1 k1
  have s1 : W1.heap.size = w.heap.size + 1 := by rw [hW1, World.size_alloc]
  have HW1 : Hid (w.alloc (.cells (tabV v A n c) 24) = W1) := hW1.symm
  have H1 := Lib.hid h1
  have K1 := Lib.hid k1
  have S1 := Lib.hid s1
  clear hn hR hwb hL hz hq htf h1 k1 hW1 s1
  go_enter Tryz.func12, Tryz.ntmps12
  go_upto_region 1 with fail
  rw [HW1.out]
  go_upto_region 2 with (first
    | (refine wpList_load_row rfl 24 (.tmp 2) rfl w.heap.size rfl 24 (tabV v A n c) (0, 0) _ H1.out Tryz.underlying24 rfl infoT ?_)
    | (go_at_call 9; refine (find_any v A n c rs s wb W1 Hn.out HR.out (Hwb.out.trans (K1.out.mono Hwb.out.size)) (HL.out.below K1.out (Nat.le_refl _)) Hz.out hs (by omega)).mono ?_; rintro e w2 ⟨rfl, low2⟩; rw [← Hq.out]; have Low2 := Lib.hid low2; clear low2))
  obtain ⟨w3, hw3⟩ : ∃ w3, w3 = w2.alloc (.cells (lab q.1 q.2) 34) := ⟨_, rfl⟩
  have own3 : OwnL w2.heap.size ([q] ++ coveredL s (rs.take 0)) (.slice (some ⟨w2.heap.size, 0, none⟩) 1 1) w3 := by
    rw [hw3, List.take_zero, show coveredL s [] = [] by unfold coveredL; rfl]; exact own_one
  have low3 : Below W1.heap.size W1 w3 := by rw [hw3]; exact Low2.out.alloc Low2.out.size _
  have hsz3 : w2.heap.size ≤ w3.heap.size := by rw [hw3, World.size_alloc]; omega
  rw [← hw3]
  have hlim : W1.heap.size ≤ w2.heap.size := Low2.out.size
  have Own3 := Lib.hid own3
  have Low3 := Lib.hid low3
  have Hsz3 := Lib.hid hsz3
  have Hlim := Lib.hid hlim
  have c1 : w3.cell? ⟨w.heap.size, 1, none⟩ = some (.slice A n c) := (low3.cell (p := ⟨w.heap.size, 1, none⟩) (by rw [S1.out]; exact Nat.lt_succ_self _)).trans (cell_row H1.out 1)
  clear own3 low3 hsz3 hlim hw3
  generalize w2.heap.size = B at *
  go_wp2
  go_loopw [5, 15] (fun u i wr => ∃ k : Nat, k ≤ n ∧ i = .int .i64 k ∧ Hid (OwnL B ([q] ++ coveredL s (rs.take k)) u wr ∧ Below W1.heap.size W1 wr ∧ B ≤ wr.heap.size)) (fun _ i _ => n - (intOf i).toNat)
  case atStart => exact ⟨0, by omega, rfl, Own3.out, Low3.out, Hsz3.out⟩
  case round =>
    obtain ⟨k, hk, rfl, hI⟩ := hrel
    clear c1 Own3 Low3
    by_cases hlt : k < n
    · have hltI : (k : Int) < n := by omega
      obtain ⟨r, hr⟩ : ∃ r, rs[k]? = some r := ⟨_, List.getElem?_eq_getElem (by have := Hn.out; omega)⟩
      have hrp := Hz.out r (List.mem_of_getElem? hr)
      have hstep : coveredL s (rs.take (k + 1)) = if cov s r.p = true then coveredL s (rs.take k) ++ [(r.a, r.c)] else coveredL s (rs.take k) := by rw [List.take_add_one, hr]; exact coveredL_snoc s _ r
      obtain ⟨b, off, hA, hb, hrange⟩ := HR.out.at hr
      have hlow : Below wb.heap.size wb wr := Hwb.out.trans ((K1.out.trans (hI.out.2.1.mono K1.out.size)).mono Hwb.out.size)
      have Hr : Hid (wr.rangeAt b (off + k * 3) (rlc r).toList) := fun j u hu => (hlow.cell (p := ⟨b, off + k * 3 + j, none⟩) hb).trans (hrange j u hu)
      have hcap1 : n ≤ c := by have := HR.out.1; have := Hn.out; omega
      have hlen : (coveredL s (rs.take k)).length ≤ 1000 := by have := coveredL_len s (rs.take k); rw [List.length_take] at this; omega
      have Hstep := Lib.hid hstep
      have Hlen := Lib.hid hlen
      subst hA
      clear hr hstep hrange hlow hb hlen
      go_upto_region 5 with (first
        | (with_reducible refine wpList_load_mid rfl 44 (.tmp 17) rfl b (off + k * 3) rfl (rlc r).toList _ Hr.out Tryz.underlying44 rfl infoR2 ?_)
        | (refine wpList_store_row rfl 44 (.tmp 7) (.tmp 18) rfl wr.heap.size (rlc r) rfl rfl 44 _ (Go.heap_alloc_new wr _) infoR rfl (rlc_one _) ?_; rw [World.setRow_alloc_new]))
      obtain ⟨w4, hw4⟩ : ∃ w4, w4 = wr.alloc (.cells (rlc r) 44) := ⟨_, rfl⟩
      have h4 : w4.heap[wr.heap.size]? = some (.cells (rlc r) 44 (0, 0)) := by rw [hw4]; exact Go.heap_alloc_new wr _
      have l4 : Below wr.heap.size wr w4 := by rw [hw4]; exact (Below.refl _ _).alloc (Nat.le_refl _) _
      rw [← hw4]
      clear hw4
      obtain ⟨bx, hbx⟩ : ∃ bx, bx = wr.heap.size := ⟨_, rfl⟩
      rw [← hbx] at h4 ⊢
      have hbB : B ≤ bx := by rw [hbx]; exact hI.out.2.2
      have own4 : OwnL B ([q] ++ coveredL s (rs.take k)) u5 w4 := own_stays hI.out.1 l4
      have low4 : Below W1.heap.size W1 w4 := hI.out.2.1.trans (l4.mono hI.out.2.1.size)
      have hoff : ∀ g, u5.ownBlock = some g → g < bx := fun g hg => by rw [hbx]; exact (World.ownsRow.lt hI.out.1 g hg).2
      have cS := (rule_row h4).1
      have Own4 := Lib.hid own4
      have Low4 := Lib.hid low4
      have Hoff := Lib.hid hoff
      have H4 := Lib.hid h4
      have HL4 := Lib.hid (HL.out.below (K1.out.trans (low4.mono K1.out.size)) (Nat.le_refl _))
      clear h4 l4 hbx own4 low4 hoff hI Hr
      have HC := Lib.hid (covers_any s r.p w4 HL4.out hs (by omega))
      cases hcv : cov s r.p with
      | true =>
        have hc := HC.out
        rw [hcv] at hc
        have HC2 := Lib.hid hc
        have hs2 : [q] ++ coveredL s (rs.take (k + 1)) = ([q] ++ coveredL s (rs.take k)) ++ [(r.a, r.c)] := by rw [Hstep.out, if_pos hcv, List.append_assoc]
        have Hs2 := Lib.hid hs2
        clear hc hs2 HC hcv Hstep
        go_upto_region 6 with (go_at_call 23; refine HC2.out.mono ?_; rintro e w5 ⟨rfl, low5⟩; have Own5 : Hid (OwnL B ([q] ++ coveredL s (rs.take k)) u5 w5) := own_stays Own4.out low5; have Low5 := Lib.hid (Low4.out.trans (low5.mono Low4.out.size)); have H5 := Lib.hid ((low5.block _ (Array.getElem?_eq_some_iff.1 H4.out).1).trans H4.out); have Hb5 := Lib.hid (Nat.lt_of_lt_of_le (Array.getElem?_eq_some_iff.1 H4.out).1 low5.size); clear low5)
        have hlb := (rule_row H5.out).2
        have Hlb := Lib.hid hlb
        have hlen2 : ([q] ++ coveredL s (rs.take k)).length ≤ 100000 := by have := Hlen.out; simp; omega
        have Hlen2 := Lib.hid hlen2
        clear hlb hlen2 cS
        go_wp2_with (first
          | (with_reducible refine wpList_load_mid rfl 34 (.tmp 24) rfl bx 1 rfl (lab r.a r.c).toList _ Hlb.out Tryz.underlying34 rfl infoL2 ?_)
          | (at_builtin; refine wpList_append_lab rfl (.tmp 23) (.tmp 26) rfl B u5 ([q] ++ coveredL s (rs.take k)) (r.a, r.c) rfl (own_stays Own5.out ((Below.refl _ _).alloc (Nat.le_refl _) _)) w5.heap.size rfl (Go.heap_alloc_new w5 _) Hlen2.out (by have := Hb5.out; rw [World.size_alloc]; omega) ?_; intro u6 w6 hown6 hgrow6; have Own6 := Lib.hid hown6; have Low6 := Lib.hid ((Low5.out.alloc Low5.out.size (.cells (lab r.a r.c) 34)).grown hgrow6 (by have := Low5.out.size; rw [World.size_alloc]; omega) (fun g hg => Nat.le_trans Hlim.out (World.ownsRow.lt Own5.out g hg).1)); have Hs6 := Lib.hid hgrow6.size; clear hown6 hgrow6))
        go_roundw
        case rel => exact ⟨k + 1, by omega, by go_num, by rw [Hs2.out]; exact ⟨Own6.out, Low6.out, by have h1 := Hb5.out; have h2 := Hs6.out; rw [World.size_alloc] at h2; omega⟩⟩
        case measure => simp [intOf]; omega
      | false =>
        have hc := HC.out
        rw [hcv] at hc
        have HC2 := Lib.hid hc
        have hs2 : [q] ++ coveredL s (rs.take (k + 1)) = [q] ++ coveredL s (rs.take k) := by rw [Hstep.out, if_neg (by rw [hcv]; exact Bool.false_ne_true)]
        have Hs2 := Lib.hid hs2
        clear hc hs2 HC hcv Hstep
        go_wp2_with (go_at_call 23; refine HC2.out.mono ?_; rintro e w5 ⟨rfl, low5⟩; have Own5 : Hid (OwnL B ([q] ++ coveredL s (rs.take k)) u5 w5) := own_stays Own4.out low5; have Low5 := Lib.hid (Low4.out.trans (low5.mono Low4.out.size)); have Hb5 := Lib.hid (Nat.lt_of_lt_of_le (Array.getElem?_eq_some_iff.1 H4.out).1 low5.size); clear low5)
        go_roundw
        case rel => exact ⟨k + 1, by omega, by go_num, by rw [Hs2.out]; exact ⟨Own5.out, Low5.out, by have := Hb5.out; omega⟩⟩
        case measure => simp [intOf]; omega
    · have hge : ¬ (k : Int) < n := by omega
      have ek : k = n := by omega
      have own := hI.out.1
      rw [ek, List.take_of_length_le (Nat.le_of_eq Hn.out)] at own
      obtain ⟨A2, c2, rfl, hlabs⟩ := OwnL.labs own
      have hlen : ([q] ++ coveredL s rs).length ≤ 100000 := by have := coveredL_len s rs; simp; have := Hn.out; omega
      have hA2 : A2 = none ∨ ∃ b off, A2 = some ⟨b, off, none⟩ := by
        obtain ⟨b, off, h, _⟩ := hlabs.2.2 (by simp)
        exact .inr ⟨b, off, h⟩
      have HS := Lib.hid (sorted_any A2 _ c2 _ rfl hlen wr hlabs hA2)
      have Low9 := Lib.hid (K1.out.trans (hI.out.2.1.mono K1.out.size))
      clear own hI ek hk hlt hlabs hA2 hlen
      go_wp2_with (go_at_call 25; refine HS.out.mono ?_; rintro e w9 ⟨u9, rfl, own9, low9⟩; have Own9 := Lib.hid own9; have Low10 := Lib.hid (Low9.out.trans (low9.mono Low9.out.size)); clear own9 low9)
      go_ret
      exact ⟨_, rfl, own_lower Own9.out Low9.out.size, Low10.out⟩
end Go.Proofs.YtpkolmmahoopcaaGreatDoor.Rul
/- DERIVED. PLAIN MATHEMATICS: what a change makes of the labels of paths. No program. -/
namespace Go.Proofs.YtpkolmmahoopcaaGreatDoor.Rul
open Pth Lab
def ordR (x y : Rl) : Int := Pth.ordL (bl x.p) (bl y.p)
def StrictR (rs : List Rl) : Prop := rs.Pairwise fun x y => ordR x y < 0
theorem strict_same {rs : List Rl} (h : StrictR rs) {x y : Rl} (hx : x ∈ rs) (hy : y ∈ rs) (e : x.p = y.p) : x = y := by
  obtain ⟨i, hi, rfl⟩ := List.mem_iff_getElem.1 hx
  obtain ⟨j, hj, rfl⟩ := List.mem_iff_getElem.1 hy
  have hz : ordR rs[i] rs[j] = 0 := (Pth.ord_eq _ _).2 (by rw [e])
  have hz2 : ordR rs[j] rs[i] = 0 := (Pth.ord_eq _ _).2 (by rw [e])
  rcases Nat.lt_trichotomy i j with h1 | h1 | h1
  · have := List.pairwise_iff_getElem.1 h i j hi hj h1
    omega
  · subst h1; rfl
  · have := List.pairwise_iff_getElem.1 h j i hj hi h1
    omega
/-- the rules with another prefix, and the new one. -/
def othersL (p : ByteArray) (rs : List Rl) : List Rl := rs.filter fun r => !decide (bl r.p = bl p)
theorem mem_others {p : ByteArray} {rs : List Rl} {x : Rl} : x ∈ othersL p rs ↔ x ∈ rs ∧ x.p ≠ p := by
  unfold othersL
  rw [List.mem_filter]
  simp only [Bool.not_eq_true', decide_eq_false_iff_not]
  constructor
  · rintro ⟨h, k⟩
    exact ⟨h, fun e => k (by rw [e])⟩
  · rintro ⟨h, k⟩
    exact ⟨h, fun e => k (bl_inj e)⟩
/-- does a longer prefix of the table cover the path? -/
def longer (p s : ByteArray) (rs : List Rl) : Bool := rs.any fun r => decide (p.size < r.p.size) && cov r.p s
theorem longer_iff (p s : ByteArray) (rs : List Rl) : longer p s rs = true ↔ ∃ r ∈ rs, p.size < r.p.size ∧ cov r.p s = true := by
  unfold longer
  rw [List.any_eq_true]
  constructor
  · rintro ⟨r, h, k⟩
    rw [Bool.and_eq_true, decide_eq_true_eq] at k
    exact ⟨r, h, k⟩
  · rintro ⟨r, h, k⟩
    refine ⟨r, h, ?_⟩
    rw [Bool.and_eq_true, decide_eq_true_eq]
    exact k
theorem find_new {p s : ByteArray} {rs us : List Rl} {n : Rl} (hn : n.p = p) (hu : ∀ x, x ∈ us ↔ x ∈ othersL p rs ∨ x = n) (hc : cov p s = true) (hl : longer p s rs = false) : find s us = (n.a, n.c) := by
  have hnu : n ∈ us := (hu n).2 (.inr rfl)
  obtain ⟨k, hk, hke⟩ := List.mem_iff_getElem.1 hnu
  have hk2 : us[k]? = some n := by rw [List.getElem?_eq_getElem hk, hke]
  unfold find
  rcases best_all s us with ⟨_, h⟩ | ⟨i, x, hx, hcx, e, hm⟩
  · have := h k n hk2
    rw [hn, hc] at this
    cases this
  · rw [e]
    have h1 := (hm k n hk2 (by rw [hn]; exact hc)).1
    rcases (hu x).1 (List.mem_of_getElem? hx) with hxo | rfl
    · obtain ⟨hxr, hne⟩ := mem_others.1 hxo
      have h2 : ¬ p.size < x.p.size := fun h => by
        have := (longer_iff p s rs).2 ⟨x, hxr, h, hcx⟩
        rw [hl] at this
        cases this
      exact absurd (cov_same hcx hc (by rw [hn] at h1; omega)) hne
    · rfl
theorem find_old {p s : ByteArray} {rs us : List Rl} {n : Rl} (hn : n.p = p) (hs : StrictR rs) (hu : ∀ x, x ∈ us ↔ x ∈ othersL p rs ∨ x = n) (h : cov p s = false ∨ longer p s rs = true) : find s us = find s rs := by
  have hboth : ∀ {i j : Nat} {x y : Rl}, us[i]? = some x → rs[j]? = some y → cov x.p s = true → cov y.p s = true → x ∈ rs → y ∈ us →
      (∀ (k : Nat) (z : Rl), us[k]? = some z → cov z.p s = true → z.p.size ≤ x.p.size) → (∀ (k : Nat) (z : Rl), rs[k]? = some z → cov z.p s = true → z.p.size ≤ y.p.size) → x = y := by
    intro i j x y hx hy hcx hcy hxr hyu h1 h2
    obtain ⟨k, hk, hke⟩ := List.mem_iff_getElem.1 hxr
    obtain ⟨k', hk', hke'⟩ := List.mem_iff_getElem.1 hyu
    have e1 := h2 k x (by rw [List.getElem?_eq_getElem hk, hke]) hcx
    have e2 := h1 k' y (by rw [List.getElem?_eq_getElem hk', hke']) hcy
    exact strict_same hs hxr (List.mem_of_getElem? hy) (cov_same hcx hcy (by omega))
  unfold find
  rcases h with h | h
  · have hxr : ∀ x, x ∈ us → cov x.p s = true → x ∈ rs := by
      intro x hx hc
      rcases (hu x).1 hx with ho | rfl
      · exact (mem_others.1 ho).1
      · rw [hn, h] at hc; cases hc
    have hyu : ∀ y, y ∈ rs → cov y.p s = true → y ∈ us := by
      intro y hy hc
      exact (hu y).2 (.inl (mem_others.2 ⟨hy, fun e => by rw [e, h] at hc; cases hc⟩))
    rcases best_all s us with ⟨e1, h1⟩ | ⟨i, x, hx, hcx, e1, hm1⟩
    · rcases best_all s rs with ⟨e2, _⟩ | ⟨j, y, hy, hcy, e2, hm2⟩
      · rw [e1, e2]
      · obtain ⟨k, hk, hke⟩ := List.mem_iff_getElem.1 (hyu y (List.mem_of_getElem? hy) hcy)
        have := h1 k y (by rw [List.getElem?_eq_getElem hk, hke])
        rw [hcy] at this
        cases this
    · rcases best_all s rs with ⟨e2, h2⟩ | ⟨j, y, hy, hcy, e2, hm2⟩
      · obtain ⟨k, hk, hke⟩ := List.mem_iff_getElem.1 (hxr x (List.mem_of_getElem? hx) hcx)
        have := h2 k x (by rw [List.getElem?_eq_getElem hk, hke])
        rw [hcx] at this
        cases this
      · have := hboth hx hy hcx hcy (hxr x (List.mem_of_getElem? hx) hcx) (hyu y (List.mem_of_getElem? hy) hcy) (fun k z a b => (hm1 k z a b).1) (fun k z a b => (hm2 k z a b).1)
        rw [e1, e2, this]
  · obtain ⟨z, hz, hzl, hzc⟩ := (longer_iff p s rs).1 h
    have hzu : z ∈ us := (hu z).2 (.inl (mem_others.2 ⟨hz, fun e => by rw [e] at hzl; omega⟩))
    obtain ⟨k1, hk1, hke1⟩ := List.mem_iff_getElem.1 hzu
    obtain ⟨k2, hk2, hke2⟩ := List.mem_iff_getElem.1 hz
    have g1 : us[k1]? = some z := by rw [List.getElem?_eq_getElem hk1, hke1]
    have g2 : rs[k2]? = some z := by rw [List.getElem?_eq_getElem hk2, hke2]
    rcases best_all s us with ⟨_, h1⟩ | ⟨i, x, hx, hcx, e1, hm1⟩
    · rw [h1 k1 z g1] at hzc; cases hzc
    · rcases best_all s rs with ⟨_, h2⟩ | ⟨j, y, hy, hcy, e2, hm2⟩
      · rw [h2 k2 z g2] at hzc; cases hzc
      · have f1 := (hm1 k1 z g1 hzc).1
        have f2 := (hm2 k2 z g2 hzc).1
        have hxr : x ∈ rs := by
          rcases (hu x).1 (List.mem_of_getElem? hx) with ho | rfl
          · exact (mem_others.1 ho).1
          · rw [hn] at f1; omega
        have hyu : y ∈ us := (hu y).2 (.inl (mem_others.2 ⟨List.mem_of_getElem? hy, fun e => by rw [e] at f2; omega⟩))
        have := hboth hx hy hcx hcy hxr hyu (fun k z a b => (hm1 k z a b).1) (fun k z a b => (hm2 k z a b).1)
        rw [e1, e2, this]
end Go.Proofs.YtpkolmmahoopcaaGreatDoor.Rul
/- DERIVED. The contract of rules.Check: may a table be? -/
namespace Go.Proofs.YtpkolmmahoopcaaGreatDoor.Rul
open Go.RowKit Lab
/-- one rule's prefix and label may be. -/
def okR (r : Rl) : Bool := decide (Pth.pre r.p = 0) && decide (Lab.chk r.a = 0)
/-- of the first rules each may be, and stands behind the one ahead. -/
def okN (rs : List Rl) (k : Nat) : Prop := ∀ (i : Nat) (r : Rl), i < k → rs[i]? = some r → okR r = true ∧ ∀ x : Rl, 0 < i → rs[i - 1]? = some x → ordR x r < 0
theorem okN_next {rs : List Rl} {k : Nat} {r : Rl} (h : okN rs k) (hr : rs[k]? = some r) (h1 : okR r = true) (h2 : ∀ x : Rl, 0 < k → rs[k - 1]? = some x → ordR x r < 0) : okN rs (k + 1) := by
  intro i y hi hy
  by_cases e : i < k
  · exact h i y e hy
  · obtain rfl : i = k := by omega
    rw [hr] at hy
    obtain rfl := Option.some.inj hy
    exact ⟨h1, h2⟩
/-- a table that may be. -/
def Okay (v : Int) (rs : List Rl) : Prop := rs.length ≤ 32 ∧ (rs.length : Int) ≤ v ∧ okN rs rs.length
theorem okN_strict {rs : List Rl} (h : okN rs rs.length) : StrictR rs := by
  have step : ∀ i (hi : i + 1 < rs.length), ordR rs[i] rs[i + 1] < 0 := fun i hi =>
    (h (i + 1) rs[i + 1] hi (List.getElem?_eq_getElem hi)).2 rs[i] (Nat.succ_pos _) (by rw [Nat.add_sub_cancel]; exact List.getElem?_eq_getElem (by omega))
  have trans : ∀ x y z : Rl, ordR x y < 0 → ordR y z < 0 → ordR x z < 0 := by
    intro x y z h1 h2
    have h3 := Pth.ord_trans (bl x.p) (bl y.p) (bl z.p) (by unfold ordR at h1; omega) (by unfold ordR at h2; omega)
    by_cases e : ordR x z = 0
    · have e2 := (Pth.ord_eq _ _).1 e
      have h4 : ordR y x < 0 := by unfold ordR at h2 ⊢; rw [e2]; exact h2
      have h5 : ordR y x = - ordR x y := Pth.ord_neg (bl x.p) (bl y.p)
      omega
    · unfold ordR at e ⊢; omega
  unfold StrictR
  rw [List.pairwise_iff_getElem]
  intro i j hi hj hij
  obtain ⟨d, rfl⟩ : ∃ d, j = i + 1 + d := ⟨j - (i + 1), by omega⟩
  induction d with
  | zero => exact step i hj
  | succ d ih => exact trans _ _ _ (ih (by omega) (by omega)) (step (i + 1 + d) (by omega))
theorem strict_okN {rs : List Rl} (h : StrictR rs) (k : ∀ r ∈ rs, okR r = true) : okN rs rs.length := by
  intro i r hi hr
  refine ⟨k r (List.mem_of_getElem? hr), fun x h0 hx => ?_⟩
  have h1 := (List.getElem?_eq_some_iff.1 hr)
  have h2 := (List.getElem?_eq_some_iff.1 hx)
  obtain ⟨a1, rfl⟩ := h1
  obtain ⟨a2, rfl⟩ := h2
  exact List.pairwise_iff_getElem.1 h (i - 1) i a2 a1 (by omega)
theorem okN_last {rs : List Rl} {k : Nat} {r : Rl} (hr : rs[k]? = some r) (h : okN rs rs.length) : okR r = true ∧ ∀ x : Rl, 0 < k → rs[k - 1]? = some x → ordR x r < 0 := h k r (List.getElem?_eq_some_iff.1 hr).1 hr
end Go.Proofs.YtpkolmmahoopcaaGreatDoor.Rul
