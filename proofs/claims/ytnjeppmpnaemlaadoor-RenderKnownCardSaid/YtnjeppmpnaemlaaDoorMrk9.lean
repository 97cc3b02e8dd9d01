/- DERIVED. Texts of ours, merged: XGrfCopied XGrfSet XGrfCount XGrfCmp. -/
import Derived.Test.YtnjeppmpnaemlaaDoorMrk8
import Derived.Test.YtnjeppmpnaemlaaDoorMrk7
import Derived.Lib.BytesEntry
import Derived.Laws.Externs
import Derived.Handy
/- DERIVED. copied. Written by mkcopied.py. -/
set_option maxRecDepth 100000
namespace Go.Proofs.YtnjeppmpnaemlaaDoor.Grf
open Go.RowKit Go.Lib Str Go.Maps
attribute [local go_sem ↓ high] loadAtVx loadAtHs loadAtGv neVx_of eqVx_of
theorem own_to {w w' : World} {base b2 n s : Nat} {t : TypeId} {v : Value} {L : List Value} (h : w.ownsRow base t s v n L) {S : List Nat} (hc : Chg S w w') (hS : ∀ q ∈ S, q < base) (hb : b2 ≤ base) : w'.ownsRow b2 t s v n L := by
  obtain ⟨h1, h⟩ := h
  refine ⟨h1, ?_⟩
  rcases h with h | ⟨g, cap, cur, h1, h2, h3, h4⟩
  · exact .inl h
  · exact .inr ⟨g, cap, cur, h1, Nat.le_trans hb h2, (hc.block _ (Array.getElem?_eq_some_iff.1 h3).1 (fun hm => by have := hS _ hm; omega)).trans h3, h4⟩
theorem GRow.setLines {w : World} {b : Nat} {d : PD} {lnv gnv : Value} (h : GRow w b d lnv gnv) (u : Value) : GRow (w.setCell ⟨b, 100, none⟩ u) b d u gnv := by
  unfold GRow
  rw [heap_setCell_same _ _ _ _ _ _ h]
  rw [arr_eq (C := (givC d lnv gnv).setIfInBounds 100 u) (D := givC d u gnv)]
  rw [set_at (d.nm.c.toList ++ [Value.int .i64 d.first] ++ d.up.c.toList ++ d.down.c.toList) lnv u [gnv] _ (by rw [givC_list]; simp [List.append_assoc]) 100 (by simp [Vx.c_size]), givC_list]
  simp [List.append_assoc]
theorem GRow.setGone {w : World} {b : Nat} {d : PD} {lnv gnv : Value} (h : GRow w b d lnv gnv) (u : Value) : GRow (w.setCell ⟨b, 101, none⟩ u) b d lnv u := by
  unfold GRow
  rw [heap_setCell_same _ _ _ _ _ _ h]
  rw [arr_eq (C := (givC d lnv gnv).setIfInBounds 101 u) (D := givC d lnv u)]
  rw [set_at (d.nm.c.toList ++ [Value.int .i64 d.first] ++ d.up.c.toList ++ d.down.c.toList ++ [lnv]) gnv u [] _ (by rw [givC_list]; simp [List.append_assoc]) 101 (by simp [Vx.c_size]), givC_list]
  simp [List.append_assoc]
theorem zero_given : Tryd.zeroCells31.size = 102 := by kernel_rfl
theorem givC_one (d : PD) (lnv gnv : Value) (h1 : lnv.oneCell' = true) (h2 : gnv.oneCell' = true) : (givC d lnv gnv).all (·.oneCell') = true := by
  rw [Array.all_eq_true_iff_forall_mem]
  intro x hx
  have hm : x ∈ (givC d lnv gnv).toList := by simpa using hx
  rw [givC_list] at hm
  have one := fun (v : Vx) (h : x ∈ v.c.toList) => Array.all_eq_true_iff_forall_mem.1 (Vx.one v) x (by simpa using h)
  simp only [List.mem_append, List.mem_cons, List.not_mem_nil, or_false] at hm
  rcases hm with (((h | h) | h) | h) | h | h
  · exact one _ h
  · subst h; rfl
  · exact one _ h
  · exact one _ h
  · subst h; exact h1
  · subst h; exact h2
theorem chg_setRow {S : List Nat} {a b : World} (h : Chg S a b) {g : Nat} (hg : g ∈ S) (cs : Array Value) : Chg S a (b.setRow g cs) :=
  h.trans ⟨rfl, rfl, rfl, by rw [setRow_size]; exact Nat.le_refl _, fun k _ hS => setRow_ne (fun e => hS (by rw [← e]; exact hg))⟩
/-- a slice of the call's own is a slice. -/
theorem own_slice {w : World} {base n s : Nat} {t : TypeId} {v : Value} {L : List Value} (h : w.ownsRow base t s v n L) : ∃ A c, v = .slice A n c ∧ n ≤ c ∧ (∀ a, A = some a → ∃ g cur, a = ⟨g, 0, none⟩ ∧ base ≤ g ∧ w.heap[g]? = some (.cells cur t (0, 0)) ∧ cur.toList.take (n * s) = L) ∧ (0 < n → A ≠ none) := by
  rcases h.2 with ⟨rfl, rfl⟩ | ⟨g, cap, cur, hv, hb, hh, hc, _, _, ht⟩
  · exact ⟨none, 0, rfl, Nat.le_refl _, (fun _ h => by cases h), fun h => absurd h (Nat.lt_irrefl _)⟩
  · exact ⟨_, cap, hv, hc, fun a ha => by obtain rfl := Option.some.inj ha; exact ⟨g, cur, rfl, hb, hh, ht⟩, (fun _ h => by cases h)⟩
set_option maxHeartbeats 8000000 in
theorem copied_any (d : PD) (lnv gnv : Value) (w : World) (hl : RdS w lnv d.lines) (hn : d.lines.length ≤ 100000) (hbig : ∀ s ∈ d.lines, s.size ≤ 281474976710656) (hg : RdV w gnv d.gone) (hgn : d.gone.length ≤ 100000) (hz : d.gone = [] → ∃ A c, gnv = .slice A 0 c ∧ (A = none ∨ ∃ b off, A = some ⟨b, off, none⟩)) :
    Calls Tryd.prog 71 #[.agg (givC d lnv gnv)] w fun e w' => ∃ lnv' gnv', e = .returned (.agg (givC d lnv' gnv')) ∧ OwnS w.heap.size d.lines lnv' w' ∧ OwnV w.heap.size d.gone gnv' w' ∧ Below w.heap.size w w' := by
  have h2 := two_new w (.cells (givC d lnv gnv) 31) (.cells Tryd.zeroCells31 31)
  have k2 : Below w.heap.size w ((w.alloc (.cells (givC d lnv gnv) 31)).alloc (.cells Tryd.zeroCells31 31)) := ((Below.refl _ _).alloc (Nat.le_refl _) _).alloc (by rw [World.size_alloc]; omega) _
  have hsz : ((w.alloc (.cells (givC d lnv gnv) 31)).alloc (.cells Tryd.zeroCells31 31)).heap.size = w.heap.size + 2 := by rw [World.size_alloc, World.size_alloc]
  obtain ⟨W, hW⟩ : ∃ W, W = (w.alloc (.cells (givC d lnv gnv) 31)).alloc (.cells Tryd.zeroCells31 31) := ⟨_, rfl⟩
  rw [← hW] at h2 k2 hsz
  have HW := Lib.hid hW.symm
  have K2 := Lib.hid k2
  have HSz := Lib.hid hsz
  have hC1 := clone_str lnv d.lines W (hl.below k2) hn
  have HC2 : Hid (∀ u, Below w.heap.size w u → Calls Tryd.prog 96 #[gnv] u fun e w' => ∃ v', e = .returned v' ∧ OwnV u.heap.size d.gone v' w' ∧ Below u.heap.size u w') := fun u hu => clone_vs gnv d.gone u (hg.below hu) hgn hz
  have HBig := Lib.hid hbig
  have HB : Hid (GRow W w.heap.size d lnv gnv) := h2.1
  have HR : Hid (W.heap[w.heap.size + 1]? = some (.cells Tryd.zeroCells31 31 (0, 0))) := h2.2
  have e100 := HB.out.lines
  obtain ⟨l, hlL⟩ : ∃ l, l = d.lines := ⟨_, rfl⟩
  rw [← hlL] at hC1 hn ⊢
  have HL := Lib.hid hlL
  clear h2 k2 hW hl hg hz hbig hsz hlL
  go_enter Tryd.func71, Tryd.ntmps71
  go_upto_region 1 with (fail)
  rw [HW.out]
  obtain ⟨bx, hbx⟩ : ∃ bx, bx = w.heap.size := ⟨_, rfl⟩
  rw [← hbx] at HB HR e100 ⊢
  have Hbx := Lib.hid hbx
  clear hbx
  go_upto_region 2 with (first | (go_at_call 95; refine hC1.mono ?_; rintro e w1 ⟨v1, rfl, hv1, low1⟩; obtain ⟨A1, c1, rfl, hle1, hA1, hne1⟩ := own_slice hv1; have e1 := (low1.cell (p := ⟨bx, 100, none⟩) (World.block_lt_of_cell? W _ e100)).trans e100; have ef1 := free_row (at_below HB.out low1) 100))
  have HB2 : Hid (GRow (w1.setCell ⟨bx, 100, none⟩ (.slice A1 l.length c1)) bx d (.slice A1 l.length c1) gnv) := GRow.setLines (at_below HB.out low1) _
  have hch : Chg [bx] W (w1.setCell ⟨bx, 100, none⟩ (.slice A1 l.length c1)) := (Chg.of_below low1).setCell (by simp) _
  have hch1 : Chg [bx] w1 (w1.setCell ⟨bx, 100, none⟩ (.slice A1 l.length c1)) := (Chg.refl _ _).setCell (by simp) _
  have hv2 : OwnS W.heap.size l (.slice A1 l.length c1) (w1.setCell ⟨bx, 100, none⟩ (.slice A1 l.length c1)) := own_to hv1 hch1 (fun q hq => by rw [List.mem_singleton.1 hq, HSz.out, Hbx.out]; omega) (Nat.le_refl _)
  have hA2 : ∀ a, A1 = some a → ∃ g cur, a = ⟨g, 0, none⟩ ∧ W.heap.size ≤ g ∧ (w1.setCell ⟨bx, 100, none⟩ (.slice A1 l.length c1)).heap[g]? = some (.cells cur 9 (0, 0)) ∧ cur.toList.take l.length = l.map Value.string := fun a ha => by
    obtain ⟨g, cur, h1, h2, h3, h4⟩ := hA1 a ha
    exact ⟨g, cur, h1, h2, hch1.at h3 (fun hm => by have := HSz.out; have := Hbx.out; rw [List.mem_singleton.1 hm] at h2; omega), by simpa using h4⟩
  obtain ⟨W2, hW2⟩ : ∃ W2, W2 = w1.setCell ⟨bx, 100, none⟩ (.slice A1 l.length c1) := ⟨_, rfl⟩
  rw [← hW2] at HB2 hch hv2 hA2 ⊢
  have HV2 := Lib.hid hv2
  have HA2 := Lib.hid hA2
  have HC := Lib.hid hch
  have HNE := Lib.hid hne1
  obtain ⟨n, hN⟩ : ∃ n, n = l.length := ⟨_, rfl⟩
  rw [← hN] at HB2 HNE HV2 hle1 hn ⊢
  have HN := Lib.hid hN
  clear hC1 e100 e1 ef1 hv1 hA1 hW2 hch hch1 hv2 hA2 hne1 hN low1
  have e100 := HB2.out.lines
  go_upto_region 3 with (fail)
  go_loopw [12] (fun i wr => ∃ k : Nat, k ≤ n ∧ i = .int .i64 k ∧ Hid (Below W2.heap.size W2 wr)) (fun i _ => n - (RowKit.intOf i).toNat)
  case atStart => exact ⟨0, Nat.zero_le _, rfl, Below.refl _ _⟩
  case round =>
    obtain ⟨k, hk, rfl, hlow⟩ := hrel
    clear e100
    by_cases hlt : k < n
    · have hltI : (k : Int) < n := by omega
      have hk0 : 0 ≤ (k : Int) := by omega
      obtain ⟨a1, ha1⟩ : ∃ a, A1 = some a := by
        cases A1 with
        | none => exact absurd rfl (HNE.out (by omega))
        | some a => exact ⟨a, rfl⟩
      obtain ⟨g, cur, rfl, hgb, hgr, hgt⟩ := HA2.out _ ha1
      subst ha1
      obtain ⟨tx, htx⟩ : ∃ tx, l[k]? = some tx := ⟨_, List.getElem?_eq_getElem (by have := HN.out; omega)⟩
      have hcur : cur[k]? = some (.string tx) := by
        have : (cur.toList.take l.length)[k]? = some (.string tx) := by rw [hgt, List.getElem?_map, htx]; rfl
        rw [List.getElem?_take, if_pos (by have := HN.out; omega)] at this
        simpa using this
      have hgr2 := at_below hgr hlow.out
      have ek : wr.cell? ⟨g, k, none⟩ = some (.string tx) := by rw [cell_row hgr2]; exact hcur
      have HG := Lib.hid hgr2
      have HCur := Lib.hid hcur
      have HTx : Hid (tx.size ≤ 281474976710656) := HBig.out tx (by rw [← HL.out]; exact List.mem_of_getElem? htx)
      have hcap : (n : Int) ≤ c1 := by omega
      have HC100 : Hid (wr.cell? ⟨bx, 100, none⟩ = some (.slice (some ⟨g, 0, none⟩) n c1)) := GRow.lines (gnv := gnv) (d := d) (at_below HB2.out hlow.out)
      clear hgr hgr2 hcur hgt htx
      go_upto_region 5 with (fail)
      have apx : apartB [17, 18, 19, 20, 21, 22, 1006] = true := by decide
      refine wp_region_any (by kernel_rfl) ?_
      change wpAny _ _ _ _ _ _ _ (World.drew _)
      refine wpAny_inv (fun ll aa wx => Hid (ll.size = 7 ∧ Below wr.heap.size wr wx) ∧ ∃ (z : Nat → Value), Hid (aa = ⟨#[.agg (givC d lnv gnv), .pointer (some ⟨bx, 0, none⟩), .pointer (some ⟨bx + 1, 0, none⟩), .int .i64 (k : Nat), .string tx, .pointer (some ⟨bx, 100, none⟩), lnv, .slice (some ⟨g, 0, none⟩) n c1, .pointer (some ⟨bx, 100, none⟩), .pointer (some ⟨bx, 100, none⟩), .slice (some ⟨g, 0, none⟩) n c1, .int .i64 (n : Nat), .int .i64 (k : Nat), .bool true, .int .i64 (k : Nat), .pointer (some ⟨g, k, none⟩), .string tx, z 17, z 18, z 19, z 20, z 21, z 22, u23, undef, undef, undef, undef, undef], []⟩) ∧ Holding [17, 18, 19, 20, 21, 22, 1006] [some (.pointer (some ⟨bx, 100, none⟩)), some (.slice (some ⟨g, 0, none⟩) n c1), some (.int .i64 (k : Nat)), some (.string tx), some (.string tx), some (.pointer (some ⟨g, k, none⟩)), none] ll z) ?_ (by kernel_rfl) ?_ ?_ _ _ _ _ (unlisted_none _) ?_
      · rintro ll aa wx ⟨hI, _⟩
        exact hI.out.1
      · rintro ll aa wx ⟨hI, z, ha, hz⟩ hall
        have hx := Lib.hid hI.out.2
        have e0 : z 17 = .pointer (some ⟨bx, 100, none⟩) := hz 0 _ (hall 0 (by decide)) rfl
        have e1 : z 18 = .slice (some ⟨g, 0, none⟩) n c1 := hz 1 _ (hall 1 (by decide)) rfl
        have e2 : z 19 = .int .i64 (k : Nat) := hz 2 _ (hall 2 (by decide)) rfl
        have e3 : z 20 = .string tx := hz 3 _ (hall 3 (by decide)) rfl
        have e4 : z 21 = .string tx := hz 4 _ (hall 4 (by decide)) rfl
        have e5 : z 22 = .pointer (some ⟨g, k, none⟩) := hz 5 _ (hall 5 (by decide)) rfl
        clear hall hz hI 
        obtain rfl := ha.out
        clear ha
        clear apx
        have HX := Lib.hid (hlow.out.trans (hx.out.mono hlow.out.size))
        have hwk : wrap64 ((k : Int) + 1) = ((k + 1 : Nat) : Int) := by unfold wrap64; omega
        clear e0 e1 e2 e3 e4 e5 hx
        go_wp2
        refine ⟨⟨k + 1, hlt, rfl, HX.out⟩, ?_⟩
        simp only [RowKit.intOf]
        omega
      · rintro ll aa wx i ⟨hI, z, ha, hz⟩ hi hu hw
        obtain rfl := ha.out
        have hsz := Lib.hid hI.out.1
        have hx := Lib.hid hI.out.2
        clear ha hI
        have hin : i < 7 := hi
        obtain rfl | rfl | rfl | rfl | rfl | rfl | rfl : i = 0 ∨ i = 1 ∨ i = 2 ∨ i = 3 ∨ i = 4 ∨ i = 5 ∨ i = 6 := by omega
        · refine wpOp_plain rfl rfl ?_
          go_simp
          exact ⟨⟨by simp [hsz.out], hx.out⟩, upd z 17 (.pointer (some ⟨bx, 100, none⟩)), (by unfold Hid; simp [upd]), hz.next apx hsz.out 0 (by decide) _ (fun _ h => Option.some.inj h)⟩
        · have e0 : z 17 = .pointer (some ⟨bx, 100, none⟩) := hz 0 _ (hw 0 (by kernel_rfl)) rfl
          have cl : wx.cell? ⟨bx, 100, none⟩ = some (.slice (some ⟨g, 0, none⟩) n c1) := (hx.out.cell (p := ⟨bx, 100, none⟩) (World.block_lt_of_cell? _ _ HC100.out)).trans HC100.out
          refine wpOp_plain rfl rfl ?_
          go_simp
          exact ⟨⟨by simp [hsz.out], hx.out⟩, upd z 18 (.slice (some ⟨g, 0, none⟩) n c1), (by unfold Hid; simp [upd, e0]), hz.next apx hsz.out 1 (by decide) _ (fun _ h => Option.some.inj h)⟩
        · refine wpOp_plain rfl rfl ?_
          go_simp
          exact ⟨⟨by simp [hsz.out], hx.out⟩, upd z 19 (.int .i64 (k : Nat)), (by unfold Hid; simp [upd]), hz.next apx hsz.out 2 (by decide) _ (fun _ h => Option.some.inj h)⟩
        · refine wpOp_plain rfl rfl ?_
          go_simp
          exact ⟨⟨by simp [hsz.out], hx.out⟩, upd z 20 (.string tx), (by unfold Hid; simp [upd]), hz.next apx hsz.out 3 (by decide) _ (fun _ h => Option.some.inj h)⟩
        · have e3 : z 20 = .string tx := hz 3 _ (hw 3 (by kernel_rfl)) rfl
          refine wpOp_plain rfl rfl ?_
          go_simp
          go_at_call 49
          refine (sclone_any tx wx HTx.out).mono ?_
          rintro e w8 ⟨rfl, low⟩
          exact ⟨⟨by simp [hsz.out], hx.out.trans (low.mono hx.out.size)⟩, upd z 21 (.string tx), (by unfold Hid; simp [upd, e3]), hz.next apx hsz.out 4 (by decide) _ (fun _ h => Option.some.inj h)⟩
        · have e1 : z 18 = .slice (some ⟨g, 0, none⟩) n c1 := hz 1 _ (hw 1 (by kernel_rfl)) rfl
          have e2 : z 19 = .int .i64 (k : Nat) := hz 2 _ (hw 2 (by kernel_rfl)) rfl
          refine wpOp_plain rfl rfl ?_
          go_simp
          exact ⟨⟨by simp [hsz.out], hx.out⟩, upd z 22 (.pointer (some ⟨g, k, none⟩)), (by unfold Hid; simp [upd, e1, e2]), hz.next apx hsz.out 5 (by decide) _ (fun _ h => Option.some.inj h)⟩
        · have e4 : z 21 = .string tx := hz 4 _ (hw 4 (by kernel_rfl)) rfl
          have e5 : z 22 = .pointer (some ⟨g, k, none⟩) := hz 5 _ (hw 5 (by kernel_rfl)) rfl
          have hgx := at_below HG.out hx.out
          have cgx : wx.cell? ⟨g, k, none⟩ = some (.string tx) := by rw [cell_row hgx]; exact HCur.out
          have fgx := free_row hgx k
          have low := below_same hgx HCur.out wx.heap.size
          clear hgx
          refine wpOp_plain rfl rfl ?_
          go_simp
          exact ⟨⟨by simp [hsz.out], hx.out.trans (low.mono hx.out.size)⟩, upd z 1006 (undef), (by unfold Hid; simp [upd, e4, e5]), hz.next apx hsz.out 6 (by decide) _ (fun _ h => by cases h)⟩
      · exact ⟨⟨rfl, (Below.refl _ _).drew⟩, fun xx => (#[.agg (givC d lnv gnv), .pointer (some ⟨bx, 0, none⟩), .pointer (some ⟨bx + 1, 0, none⟩), .int .i64 (k : Nat), .string tx, .pointer (some ⟨bx, 100, none⟩), lnv, .slice (some ⟨g, 0, none⟩) n c1, .pointer (some ⟨bx, 100, none⟩), .pointer (some ⟨bx, 100, none⟩), .slice (some ⟨g, 0, none⟩) n c1, .int .i64 (n : Nat), .int .i64 (k : Nat), .bool true, .int .i64 (k : Nat), .pointer (some ⟨g, k, none⟩), .string tx, u17, u18, u19, u20, u21, u22, u23, undef, undef, undef, undef, undef] : Array Value).getD xx undef, (by rfl), Holding.start⟩
    · have hltI : ¬ (k : Int) < n := by omega
      have hB := at_below HB2.out hlow.out
      have e101 := GRow.gone (lnv := .slice A1 n c1) (gnv := gnv) (d := d) hB
      have HCr : Hid (Chg [bx] W wr) := HC.out.trans (Chg.of_below hlow.out)
      have hwr : Below w.heap.size w wr := HCr.out.below K2.out K2.out.size (fun q hq => by rw [List.mem_singleton.1 hq, Hbx.out]; exact Nat.le_refl _)
      have hC3 := HC2.out wr hwr
      have HBr := Lib.hid hB
      have Hwr := Lib.hid hwr
      have HVr : Hid (OwnS W.heap.size l (.slice A1 n c1) wr) := own_to HV2.out (Chg.of_below (S := []) hlow.out) (fun q hq => by cases hq) (Nat.le_refl _)
      clear hB hwr hlow
      go_upto_region 8 with (go_at_call 96; refine hC3.mono ?_; rintro e w3 ⟨v3, rfl, hv3, low3⟩; obtain ⟨A3, c3, rfl, hle3, -, -⟩ := own_slice hv3; have e3 := (low3.cell (p := ⟨bx, 101, none⟩) (World.block_lt_of_cell? wr _ e101)).trans e101; have ef3 := free_row (at_below HBr.out low3) 101)
      have hgl : d.gone.length = d.gone.length := rfl
      have hB4 : GRow (w3.setCell ⟨bx, 101, none⟩ (.slice A3 d.gone.length c3)) bx d (.slice A1 n c1) (.slice A3 d.gone.length c3) := GRow.setGone (at_below HBr.out low3) _
      have hch : Chg [bx, bx + 1] w3 (w3.setCell ⟨bx, 101, none⟩ (.slice A3 d.gone.length c3)) := (Chg.refl _ _).setCell (by simp) _
      have hchW : Chg [bx] W (w3.setCell ⟨bx, 101, none⟩ (.slice A3 d.gone.length c3)) := (HCr.out.trans (Chg.of_below low3)).setCell (by simp) _
      obtain ⟨W4, hW4⟩ : ∃ W4, W4 = w3.setCell ⟨bx, 101, none⟩ (.slice A3 d.gone.length c3) := ⟨_, rfl⟩
      rw [← hW4] at hB4 hch hchW ⊢
      have hR4 := hchW.at HR.out (by simp)
      have eg4 := loadGv_eq hB4
      have HR4 := Lib.hid hR4
      have Hch := Lib.hid hch
      have HchW := Lib.hid hchW
      have Hv3 := Lib.hid hv3
      have Hlow3 := Lib.hid low3
      clear hW4 hB4 hch hchW hR4 hv3 low3 e3 ef3 e101 hC3 hgl
      go_wp2_with (refine wpList_store_row rfl 31 (.tmp 2) (.tmp 28) rfl (bx + 1) (givC d (.slice A1 n c1) (.slice A3 d.gone.length c3)) rfl rfl 31 _ HR4.out (infoGiv _ _ _) (by rw [zero_given, givC_size]) (givC_one _ _ _ rfl rfl) ?_)
      have hcf : Chg [bx, bx + 1] W4 (W4.setRow (bx + 1) (givC d (.slice A1 n c1) (.slice A3 d.gone.length c3))) := chg_setRow (Chg.refl _ _) (by simp) _
      have hlt2 : ∀ q ∈ [bx, bx + 1], q < W.heap.size := fun q hq => by
        have h1 := HSz.out
        have h2 := Hbx.out
        simp only [List.mem_cons, List.not_mem_nil, or_false] at hq
        omega
      have hwW : W.heap.size ≤ wr.heap.size := HCr.out.size
      refine bodyPost_ret (v := .agg (givC d (.slice A1 n c1) (.slice A3 d.gone.length c3))) (results_cell_row rfl _ _ (bx + 1) 31 _ (0, 0) _ rfl (setRow_at HR4.out) Tryd.underlying31 rfl (infoGiv _ _ _)) rfl ⟨_, _, rfl, ?_, ?_, ?_⟩
      · exact own_to HVr.out (((Chg.of_below Hlow3.out).trans Hch.out).trans hcf) hlt2 K2.out.size
      · exact own_to Hv3.out (Hch.out.trans hcf) (fun q hq => Nat.lt_of_lt_of_le (hlt2 q hq) hwW) (Nat.le_trans K2.out.size hwW)
      · exact ((HchW.out.mono (T := [bx, bx + 1]) (fun q hq => .inl (by rw [List.mem_singleton.1 hq]; simp))).trans hcf).below K2.out K2.out.size (fun q hq => by
          have h2 := Hbx.out
          simp only [List.mem_cons, List.not_mem_nil, or_false] at hq
          omega)
end Go.Proofs.YtnjeppmpnaemlaaDoor.Grf
/- DERIVED. A number of a graph's memory is written: how many use a part, how many delete a line. -/
set_option maxRecDepth 100000
namespace Go.Proofs.YtnjeppmpnaemlaaDoor.Grf
open Go.RowKit Str Go.Maps
/-- a cell that holds a number is written: pointers stay. -/
theorem ptrs_set {w : World} {v : Value} {L : List Nat} (h : Ptrs w v L) {p : Addr} {z : Int} (hp : w.cell? p = some (.int .i64 z)) (u : Value) : Ptrs (w.setCell p u) v L := by
  obtain ⟨g, cap, e, h1, h2, h3⟩ := h
  refine ⟨g, cap, e, h1, by simpa [World.setCell] using h2, fun j x hx => ?_⟩
  have hc := h3 j x hx
  have hne : p ≠ ⟨g, j, none⟩ := fun e => by
    rw [← e, hp] at hc
    cases hc
  rw [World.cell?_setCell_other (h := hne)]
  exact hc
theorem map_set {k : TypeId} {w : World} {b s : Nat} {f : Vx → Option Value} (h : MapF k w b s f) {p : Addr} {C : Array Value} {T : TypeId} (hp : w.heap[p.block]? = some (.cells C T (0, 0))) (u : Value) : MapF k (w.setCell p u) b s f :=
  h.stay (Below.heap_setCell _ _ _ _ (fun e => h.ne hp e.symm))
theorem at_set {w : World} {b : Nat} {C D : Array Value} {T U : TypeId} (h : w.heap[b]? = some (.cells D U (0, 0))) {p : Addr} (hp : w.heap[p.block]? = some (.cells C T (0, 0))) (hne : U ≠ T) (u : Value) : (w.setCell p u).heap[b]? = some (.cells D U (0, 0)) :=
  (Below.heap_setCell _ _ _ _ (ne_ty h hp hne)).trans h
theorem own_set {w : World} {base n s : Nat} {t : TypeId} {v : Value} {L : List Value} (h : w.ownsRow base t s v n L) {p : Addr} {C : Array Value} {T : TypeId} (hp : w.heap[p.block]? = some (.cells C T (0, 0))) (hne : t ≠ T) (u : Value) : (w.setCell p u).ownsRow base t s v n L := by
  obtain ⟨h1, h⟩ := h
  refine ⟨h1, ?_⟩
  rcases h with h | ⟨g, cap, cur, h1, h2, h3, h4⟩
  · exact .inl h
  · exact .inr ⟨g, cap, cur, h1, h2, at_set h3 hp hne u, h4⟩
def setN (us : Nat → Int) (q : Nat) (u : Int) (x : Nat) : Int := if x = q then u else us x
def setV (gn : Vx → Int) (v : Vx) (u : Int) (x : Vx) : Int := if x = v then u else gn x
theorem row_setUs {w : World} {q : Nat} {d : PD} {lnv gnv : Value} {rank : Int} {chv : Value} {us : Nat → Int} (hq : PRow w q d lnv gnv rank chv (us q)) (u : Int)
    {b : Nat} {d' : PD} {lnv' gnv' : Value} {rank' : Int} {chv' : Value} (h : PRow w b d' lnv' gnv' rank' chv' (us b)) : PRow (w.setCell ⟨q, 104, none⟩ (.int .i64 u)) b d' lnv' gnv' rank' chv' (setN us q u b) := by
  unfold setN
  by_cases e : b = q
  · subst e
    rw [if_pos rfl]
    exact h.setUs u
  · rw [if_neg e]
    exact (Below.heap_setCell _ _ _ _ e).trans h
theorem GM.setUs {w : World} {S : GS} {us : Nat → Int} {gn : Vx → Int} (h : GM w S us gn) {q : Nat} {d : PD} {lnv gnv : Value} {rank : Int} {chv : Value} (hq : PRow w q d lnv gnv rank chv (us q)) (u : Int) : GM (w.setCell ⟨q, 104, none⟩ (.int .i64 u)) S (setN us q u) gn := by
  have hr : w.heap[(⟨q, 104, none⟩ : Addr).block]? = some (.cells (partC d lnv gnv rank chv (us q)) 90 (0, 0)) := hq
  exact ⟨at_set h.gr hr (by decide) _, map_set h.mapP hr _, map_set h.mapV hr _, row_setUs hq u h.frm, ptrs_set h.frc hq.us _, at_set h.lr hr (by decide) _, at_set h.lf hr (by decide) _, fun p hp => row_setUs hq u (h.prt p hp), h.lsl,
    fun p hp i b s h1 h2 => at_set (h.ln p hp i b s h1 h2) hr (by decide) _, fun p hp => let ⟨a, dn, x, y, c⟩ := h.chn p hp; ⟨a, dn, x, y, ptrs_set c hq.us _⟩, fun p hp => own_set (h.lns p hp) hr (by decide) _, fun p hp => own_set (h.gns p hp) hr (by decide) _⟩
theorem row_setGn {w : World} {q : Nat} {v : Vx} {s : ByteArray} {pb : Nat} {at_ : Int} {gn : Vx → Int} (hq : LRow w q v s pb at_ (gn v)) (u : Int)
    {b : Nat} {v' : Vx} {s' : ByteArray} {pb' : Nat} {at' : Int} (h : LRow w b v' s' pb' at' (gn v')) (hv : v' = v → b = q) (hb : b = q → v' = v) : LRow (w.setCell ⟨q, 36, none⟩ (.int .i64 u)) b v' s' pb' at' (setV gn v u v') := by
  unfold setV
  by_cases e : v' = v
  · rw [if_pos e]
    obtain rfl := hv e
    exact h.setGn u
  · rw [if_neg e]
    exact (Below.heap_setCell _ _ _ _ (fun k => e (hb k))).trans h
theorem find_own : ∀ {ps : List PA}, Adm (ds ps) → ∀ {p : PA} {i : Nat}, p ∈ ps → i < p.d.lines.length → find ps (vert p.d i) = some (p, i) := by
  intro ps
  induction ps with
  | nil => intro _ p i h; simp at h
  | cons q t ih =>
    intro ha p i hp hi
    obtain ⟨h1, f, _⟩ := adm_tail ha
    have hm : vert p.d i ∈ own p.d := mem_own.2 ⟨i, hi, rfl⟩
    unfold find
    by_cases hv : vert p.d i ∈ own q.d
    · rw [if_pos hv]
      rcases List.mem_cons.1 hp with rfl | hp
      · have hlt : i < (own p.d).length := by rw [own_len]; exact hi
        have e : (own p.d)[i] = vert p.d i := own_at hlt
        have : (own p.d).idxOf (vert p.d i) = i := by rw [← e]; exact List.Nodup.idxOf_getElem f.nodup i hlt
        rw [this]
      · have := find_verts (ih h1 hp hi)
        exact absurd this (f.apart _ hv)
    · rw [if_neg hv]
      rcases List.mem_cons.1 hp with rfl | hp
      · exact absurd hm hv
      · exact ih h1 hp hi
theorem lineB_own {S : GS} (hok : GOk S) {p : PA} (hp : p ∈ S.ps) {i b : Nat} (hi : i < p.d.lines.length) (hb : p.ls[i]? = some b) : lineB S (vert p.d i) = some b := by
  unfold lineB
  rw [find_own hok.adm hp hi]
  exact hb
theorem row_vx {w : World} {b : Nat} {v v' : Vx} {s s' : ByteArray} {pb pb' : Nat} {a a' g g' : Int} (h : LRow w b v s pb a g) (k : LRow w b v' s' pb' a' g') : v = v' := by
  unfold LRow at h k
  rw [h] at k
  have e : lineC v s pb a g = lineC v' s' pb' a' g' := by
    injection (Option.some.inj k)
  have e2 := congrArg Array.toList e
  rw [lineC_list, lineC_list] at e2
  have e3 := (List.append_inj e2 (by rw [Array.length_toList, Array.length_toList, Vx.c_size, Vx.c_size])).1
  exact Vx.c_inj (Array.toList_inj.1 e3)
theorem ends_in (ps : List PD) : root ∈ verts ps ∧ fin ∈ verts ps := by
  induction ps with
  | nil => simp [verts]
  | cons q t ih => exact ⟨List.mem_append.2 (.inr ih.1), List.mem_append.2 (.inr ih.2)⟩
theorem find_ends : ∀ {ps : List PA}, Adm (ds ps) → find ps root = none ∧ find ps fin = none := by
  intro ps
  induction ps with
  | nil => intro _; exact ⟨rfl, rfl⟩
  | cons q t ih =>
    intro ha
    obtain ⟨h1, f, _⟩ := adm_tail ha
    unfold find
    rw [if_neg (fun h => f.apart _ h (ends_in _).1), if_neg (fun h => f.apart _ h (ends_in _).2)]
    exact ih h1
theorem lineB_root {S : GS} (hok : GOk S) : lineB S root = some S.rb := by
  unfold lineB
  rw [(find_ends hok.adm).1]
  simp
theorem lineB_fin {S : GS} (hok : GOk S) : lineB S fin = some S.eb := by
  unfold lineB
  rw [(find_ends hok.adm).2]
  simp [Ne.symm root_ne]
theorem GM.setGn {w : World} {S : GS} {us : Nat → Int} {gn : Vx → Int} (hok : GOk S) (h : GM w S us gn) {v : Vx} {q : Nat} (hb : lineB S v = some q) (u : Int) : GM (w.setCell ⟨q, 36, none⟩ (.int .i64 u)) S us (setV gn v u) := by
  obtain ⟨s, pb, at_, hq, _⟩ := h.line hb
  have hr : w.heap[(⟨q, 36, none⟩ : Addr).block]? = some (.cells (lineC v s pb at_ (gn v)) 99 (0, 0)) := hq
  have row : ∀ {b : Nat} {v' : Vx} {s' : ByteArray} {pb' : Nat} {at' : Int}, LRow w b v' s' pb' at' (gn v') → lineB S v' = some b → LRow (w.setCell ⟨q, 36, none⟩ (.int .i64 u)) b v' s' pb' at' (setV gn v u v') := fun k e => by
    refine row_setGn hq u k (fun e2 => ?_) (fun e2 => ?_)
    · subst e2; rw [hb] at e; exact (Option.some.inj e).symm
    · subst e2; exact row_vx k hq
  exact ⟨at_set h.gr hr (by decide) _, map_set h.mapP hr _, map_set h.mapV hr _, at_set h.frm hr (by decide) _, ptrs_set h.frc hq.gn _, row h.lr (lineB_root hok), row h.lf (lineB_fin hok), fun p hp => at_set (h.prt p hp) hr (by decide) _, h.lsl,
    fun p hp i b s h1 h2 => row (h.ln p hp i b s h1 h2) (lineB_own hok hp (List.getElem?_eq_some_iff.1 h2).1 h1), fun p hp => let ⟨a, dn, x, y, c⟩ := h.chn p hp; ⟨a, dn, x, y, ptrs_set c hq.gn _⟩, fun p hp => own_set (h.lns p hp) hr (by decide) _, fun p hp => own_set (h.gns p hp) hr (by decide) _⟩
end Go.Proofs.YtnjeppmpnaemlaaDoor.Grf
/- DERIVED. count: who uses a part, who deletes a line, by one. -/
set_option maxRecDepth 100000
namespace Go.Proofs.YtnjeppmpnaemlaaDoor.Grf
open Go.RowKit Str Go.Maps
attribute [local go_sem ↓ high] loadAtVx loadAtHs loadAtGv neVx_of eqVx_of
/-- where a vertex's part lies. -/
def pOf (S : GS) (v : Vx) : Nat := match find S.ps v with | some x => x.1.b | none => S.fr
theorem GM.lineP {w : World} {S : GS} {us : Nat → Int} {gn : Vx → Int} (h : GM w S us gn) {v : Vx} {b : Nat} (hb : lineB S v = some b) :
    ∃ s at_ d lnv gnv rank chv, LRow w b v s (pOf S v) at_ (gn v) ∧ PRow w (pOf S v) d lnv gnv rank chv (us (pOf S v)) := by
  obtain ⟨s, pb, at_, hr, hc⟩ := h.line hb
  rcases hc with ⟨p, i, hf, hp, rfl, _⟩ | ⟨hf, rfl, _⟩
  · have e : pOf S v = p.b := by unfold pOf; rw [hf]
    rw [e]
    exact ⟨s, at_, _, _, _, _, _, hr, h.prt p hp⟩
  · have e : pOf S v = S.fr := by unfold pOf; rw [hf]
    rw [e]
    exact ⟨s, at_, _, _, _, _, _, hr, h.frm⟩
def addN (us : Nat → Int) (q : Nat) (z : Int) : Nat → Int := setN us q (us q + z)
def addV (gn : Vx → Int) (v : Vx) (z : Int) : Vx → Int := setV gn v (gn v + z)
def cntU (S : GS) (d : PD) (z : Int) (us : Nat → Int) (k : Nat) : Nat → Int := (d.gone.take k).foldl (fun us v => addN us (pOf S v) z) (addN (addN us (pOf S d.up) z) (pOf S d.down) z)
def cntG (d : PD) (z : Int) (gn : Vx → Int) (k : Nat) : Vx → Int := (d.gone.take k).foldl (fun gn v => addV gn v z) gn
theorem addN_le {us : Nat → Int} {M z : Int} (h : ∀ b, -M ≤ us b ∧ us b ≤ M) (hz : -1 ≤ z ∧ z ≤ 1) (q : Nat) : ∀ b, -(M + 1) ≤ addN us q z b ∧ addN us q z b ≤ M + 1 := fun b => by
  have := h b
  have := h q
  unfold addN setN
  split <;> omega
theorem cntU_next {S : GS} {d : PD} {z : Int} {us : Nat → Int} {k : Nat} {x : Vx} (hx : d.gone[k]? = some x) : cntU S d z us (k + 1) = addN (cntU S d z us k) (pOf S x) z := by
  unfold cntU
  rw [List.take_add_one, hx, List.foldl_append]
  rfl
theorem cntG_next {d : PD} {z : Int} {gn : Vx → Int} {k : Nat} {x : Vx} (hx : d.gone[k]? = some x) : cntG d z gn (k + 1) = addV (cntG d z gn k) x z := by
  unfold cntG
  rw [List.take_add_one, hx, List.foldl_append]
  rfl
theorem addV_le {gn : Vx → Int} {M z : Int} (h : ∀ b, -M ≤ gn b ∧ gn b ≤ M) (hz : -1 ≤ z ∧ z ≤ 1) (q : Vx) : ∀ b, -(M + 1) ≤ addV gn q z b ∧ addV gn q z b ≤ M + 1 := fun b => by
  have := h b
  have := h q
  unfold addV setV
  split <;> omega
theorem cntU_le {S : GS} {d : PD} {z M : Int} {us : Nat → Int} (h : ∀ b, -M ≤ cntU S d z us 0 b ∧ cntU S d z us 0 b ≤ M) (hz : -1 ≤ z ∧ z ≤ 1) : ∀ k, k ≤ d.gone.length → ∀ b, -(M + k) ≤ cntU S d z us k b ∧ cntU S d z us k b ≤ M + k := by
  intro k
  induction k with
  | zero => intro _ b; have := h b; omega
  | succ k ih =>
    intro hk
    rw [cntU_next (List.getElem?_eq_getElem (by omega))]
    have := addN_le (ih (by omega)) hz (pOf S d.gone[k])
    intro b
    have := this b
    omega
theorem cntG_le {d : PD} {z M : Int} {gn : Vx → Int} (h : ∀ b, -M ≤ gn b ∧ gn b ≤ M) (hz : -1 ≤ z ∧ z ≤ 1) : ∀ k, k ≤ d.gone.length → ∀ b, -(M + k) ≤ cntG d z gn k b ∧ cntG d z gn k b ≤ M + k := by
  intro k
  induction k with
  | zero => intro _ b; have := h b; unfold cntG; rw [List.take_zero, List.foldl_nil]; omega
  | succ k ih =>
    intro hk
    rw [cntG_next (List.getElem?_eq_getElem (by omega))]
    have := addV_le (ih (by omega)) hz d.gone[k]
    intro b
    have := this b
    omega
theorem pOf_mem {S : GS} {K : List Nat} (hK : ∀ q ∈ S.ps, q.b ∈ K ∧ ∀ b ∈ q.ls, b ∈ K) (hK2 : S.fr ∈ K ∧ S.rb ∈ K ∧ S.eb ∈ K) (v : Vx) : pOf S v ∈ K := by
  unfold pOf
  cases hf : find S.ps v with
  | none => exact hK2.1
  | some x => exact (hK x.1 (find_some (p := x.1) (i := x.2) hf).1).1
theorem lineB_mem {S : GS} {K : List Nat} (hK : ∀ q ∈ S.ps, q.b ∈ K ∧ ∀ b ∈ q.ls, b ∈ K) (hK2 : S.fr ∈ K ∧ S.rb ∈ K ∧ S.eb ∈ K) {v : Vx} {b : Nat} (h : lineB S v = some b) : b ∈ K := by
  unfold lineB at h
  cases hf : find S.ps v with
  | none =>
    rw [hf] at h
    simp only at h
    split at h
    · obtain rfl := Option.some.inj h; exact hK2.2.1
    · split at h
      · obtain rfl := Option.some.inj h; exact hK2.2.2
      · cases h
  | some x =>
    rw [hf] at h
    exact (hK x.1 (find_some (p := x.1) (i := x.2) hf).1).2 b (List.mem_of_getElem? h)
theorem chg_drewN (K : List Nat) (w : World) (m : Nat) : Chg K w (w.drewN m) := ⟨rfl, rfl, rfl, Nat.le_refl _, fun _ _ _ => rfl⟩
set_option maxHeartbeats 4000000 in
theorem count_any (S : GS) (us : Nat → Int) (gn : Vx → Int) (hok : GOk S) (p : PA) (hp : p ∈ S.ps) (z : Int) (hz : -1 ≤ z ∧ z ≤ 1) (hus : ∀ b, -1000000000 ≤ us b ∧ us b ≤ 1000000000) (hgn : ∀ v, -1000000000 ≤ gn v ∧ gn v ≤ 1000000000) (hgl : ∀ v ∈ p.d.gone, ∃ b, lineB S v = some b) (hn : p.d.gone.length ≤ 100000) (hls : p.d.lines.length ≤ 100000)
    (K : List Nat) (hK : ∀ q ∈ S.ps, q.b ∈ K ∧ ∀ b ∈ q.ls, b ∈ K) (hK2 : S.fr ∈ K ∧ S.rb ∈ K ∧ S.eb ∈ K) (w : World) (h : GM w S us gn) :
    Calls Tryd.prog 74 #[ptr S.g, ptr p.b, .int .i64 z] w fun e w' => e = .returned (.tuple #[]) ∧ GM w' S (cntU S p.d z us p.d.gone.length) (cntG p.d z gn p.d.gone.length) ∧ Chg K w w' := by
  obtain ⟨u, dn, hu, hdn, hch⟩ := h.chn p hp
  obtain ⟨su, au, d1, l1, g1, r1, c1, hLu, hPu⟩ := h.lineP hu
  have hup := up_any p.b (p.ls ++ [dn]) u p.chv w (h.prt p hp).chn hch (by have := h.lsl p hp; simp; omega)
  have f1 := hLu.part
  have f2 := hPu.us
  have f3 := free_row hPu 104
  have HK1 : Hid (pOf S p.d.up ∈ K) := pOf_mem hK hK2 _
  generalize hq1 : pOf S p.d.up = q1 at *
  have HH := Lib.hid h
  have HP := Lib.hid hPu
  have hw1 : wrap64 (us q1 + z) = us q1 + z := by have := hus q1; unfold wrap64; omega
  have Hch := Lib.hid hch
  have Hdn := Lib.hid hdn
  clear h hPu hLu hch
  go_enter Tryd.func74, Tryd.ntmps74
  go_upto_region 1 with (go_at_call 67; refine hup.mono ?_; rintro e w1 ⟨rfl, m, rfl⟩; have f1' : (w.drewN m).cell? ⟨u, 34, none⟩ = some (ptr q1) := f1; have f2' : (w.drewN m).cell? ⟨q1, 104, none⟩ = some (.int .i64 (us q1)) := f2; have f3' : (w.drewN m).frozen? ⟨q1, 104, none⟩ = false := f3)
  have h1 : GM ((w.drewN m).setCell ⟨q1, 104, none⟩ (.int .i64 (us q1 + z))) S (addN us q1 z) gn := GM.setUs (HH.out.drewN m) (show PRow (w.drewN m) q1 d1 l1 g1 r1 c1 (us q1) from HP.out) (us q1 + z)
  have hC1 : Chg K w ((w.drewN m).setCell ⟨q1, 104, none⟩ (.int .i64 (us q1 + z))) := (chg_drewN K w m).setCell HK1.out _
  obtain ⟨W1, hW1⟩ : ∃ W1, W1 = (w.drewN m).setCell ⟨q1, 104, none⟩ (.int .i64 (us q1 + z)) := ⟨_, rfl⟩
  rw [← hW1] at h1 hC1 ⊢
  have hus1 := addN_le hus hz q1
  generalize hU1 : addN us q1 z = us1 at *
  clear hW1 f1 f2 f3 f1' f2' f3' hup HH HP hw1
  obtain ⟨u', dn', hu', hdn', hch1⟩ := h1.chn p hp
  obtain rfl : dn = dn' := Option.some.inj (Hdn.out.symm.trans hdn')
  obtain ⟨sd, ad, d2, l2, g2, r2, c2, hLd, hPd⟩ := h1.lineP hdn'
  have hdw := down_any p.b (u' :: p.ls) dn p.chv W1 (h1.prt p hp).chn hch1 (by have := h1.lsl p hp; simp; omega)
  have f1 := hLd.part
  have f2 := hPd.us
  have f3 := free_row hPd 104
  have HK3 : Hid (pOf S p.d.down ∈ K) := pOf_mem hK hK2 _
  generalize hq2 : pOf S p.d.down = q2 at *
  have HH := Lib.hid h1
  have HP := Lib.hid hPd
  have hw1 : wrap64 (us1 q2 + z) = us1 q2 + z := by have := hus1 q2; unfold wrap64; omega
  have HC1 := Lib.hid hC1
  clear h1 hPd hLd hch1 hC1 hdn' hu'
  go_upto_region 2 with (go_at_call 66; refine hdw.mono ?_; rintro e w2 ⟨rfl, m2, rfl⟩; have f1' : (W1.drewN m2).cell? ⟨dn, 34, none⟩ = some (ptr q2) := f1; have f2' : (W1.drewN m2).cell? ⟨q2, 104, none⟩ = some (.int .i64 (us1 q2)) := f2; have f3' : (W1.drewN m2).frozen? ⟨q2, 104, none⟩ = false := f3)
  have h2 : GM ((W1.drewN m2).setCell ⟨q2, 104, none⟩ (.int .i64 (us1 q2 + z))) S (addN us1 q2 z) gn := GM.setUs (HH.out.drewN m2) (show PRow (W1.drewN m2) q2 d2 l2 g2 r2 c2 (us1 q2) from HP.out) (us1 q2 + z)
  have hC2 : Chg K w ((W1.drewN m2).setCell ⟨q2, 104, none⟩ (.int .i64 (us1 q2 + z))) := (HC1.out.trans (chg_drewN K W1 m2)).setCell HK3.out _
  obtain ⟨W2, hW2⟩ : ∃ W2, W2 = (W1.drewN m2).setCell ⟨q2, 104, none⟩ (.int .i64 (us1 q2 + z)) := ⟨_, rfl⟩
  rw [← hW2] at h2 hC2 ⊢
  have hus2 := addN_le hus1 hz q2
  have hU2 : addN us1 q2 z = cntU S p.d z us 0 := by
    unfold cntU
    rw [List.take_zero, List.foldl_nil, hq1, hU1, hq2]
  rw [hU2] at h2 hus2
  clear hW2 f1 f2 f3 f1' f2' f3' hdw HH HP hw1 HC1 hU2
  obtain ⟨A, c, egv, hc, _⟩ := OwnV.rdv (h2.gns p hp)
  have f101 := (h2.prt p hp).gone
  rw [egv] at f101
  have Hegv := Lib.hid egv
  have H2 := Lib.hid h2
  have HC2 := Lib.hid hC2
  clear h2 hC2 egv
  have HU := Lib.hid (cntU_le hus2 hz)
  have HG := Lib.hid (cntG_le (d := p.d) hgn hz)
  have HGl := Lib.hid hgl
  have HKm : Hid (∀ v, pOf S v ∈ K) := pOf_mem hK hK2
  have HKl : Hid (∀ v b, lineB S v = some b → b ∈ K) := fun v b h => lineB_mem hK hK2 h
  obtain ⟨n, hN⟩ : ∃ n, n = p.d.gone.length := ⟨_, rfl⟩
  rw [← hN] at hc f101 Hegv hn
  have HN := Lib.hid hN
  have HOk := Lib.hid hok
  have HPp := Lib.hid hp
  clear hus hus1 hus2 hgn hgl hK hK2 hN hok hp hU1 hls hu hdn
  go_upto_region 3 with (fail)
  go_loopw [39] (fun i wr => ∃ k : Nat, k ≤ n ∧ i = .int .i64 k ∧ Hid (GM wr S (cntU S p.d z us k) (cntG p.d z gn k)) ∧ Hid (Chg K w wr)) (fun i _ => n - (intOf i).toNat)
  case atStart => exact ⟨0, Nat.zero_le _, rfl, H2.out, HC2.out⟩
  case round =>
    obtain ⟨k, hk, rfl, hI, hC⟩ := hrel
    clear H2 HC2 f101
    by_cases hlt : k < n
    · have hltI : (k : Int) < n := by omega
      have hk0 : 0 ≤ (k : Int) := by omega
      obtain ⟨x, hx⟩ : ∃ x, p.d.gone[k]? = some x := ⟨_, List.getElem?_eq_getElem (by have := HN.out; omega)⟩
      obtain ⟨A', c', e, hc', hr'⟩ := OwnV.rdv (hI.out.gns p HPp.out)
      rw [Hegv.out] at e
      injection e with e1 e2 e3
      subst e1
      obtain ⟨g, off, rfl, hg, hcell⟩ := hr' (by have := HN.out; omega)
      have ex := loadVx_eq (hcell k x hx)
      have hcap : (n : Int) ≤ c := by omega
      have Hx := Lib.hid hx
      clear hcell hx hg e2 e3 hr' hc'
      go_upto_region 5 with (refine wpList_store_row rfl 27 (.tmp 7) (.tmp 42) rfl wr.heap.size x.c rfl rfl 27 _ (Go.heap_alloc_new wr _) (infoVxA _) (by simp [Vx.c_size]) (Vx.one _) ?_; rw [World.setRow_alloc_new])
      rw [put_none]
      obtain ⟨bl, hbl⟩ := HGl.out x (List.mem_of_getElem? Hx.out)
      have hr4 : Below wr.heap.size wr (wr.alloc (.cells x.c 27)) := (Below.refl _ _).alloc (Nat.le_refl _) _
      have h4 := hI.out.below hr4
      have hb4 := Go.heap_alloc_new wr (.cells x.c 27)
      have HC4 : Hid (Chg K w (wr.alloc (.cells x.c 27))) := hC.out.trans (Chg.of_below hr4)
      obtain ⟨w4, hw4⟩ : ∃ w4, w4 = wr.alloc (.cells x.c 27) := ⟨_, rfl⟩
      rw [← hw4] at h4 hb4 HC4 ⊢
      have hd3 : ∀ n, (w4.drewN n).cell? ⟨S.g, 3, none⟩ = some (.map (some S.mv)) := fun n => h4.g3
      have hdv : ∀ n, (loadVx (ptr wr.heap.size)).run Tryd.prog (w4.drewN n) = .ok (.agg x.c) (w4.drewN n) := fun n => box_vx (w := w4.drewN n) hb4
      have hdl : ∀ n, (Instr.lookup 36 (.map (some S.mv)) (.agg x.c) false).run Tryd.prog (w4.drewN n) = .ok (ptr bl) (w4.drewN n) := fun n => by
        have := (h4.drewN n).look x
        rw [hbl] at this
        exact this
      obtain ⟨sx, ax, d3, l3, g3, r3, c3, hLx, hPx⟩ := h4.lineP hbl
      have f36 : ∀ n, (w4.drewN n).cell? ⟨bl, 36, none⟩ = some (.int .i64 (cntG p.d z gn k x)) := fun n => hLx.gn
      have fr36 : ∀ n, (w4.drewN n).frozen? ⟨bl, 36, none⟩ = false := fun n => free_row (w := w4.drewN n) hLx 36
      have H4 := Lib.hid h4
      have Hbl := Lib.hid hbl
      have hw1 : wrap64 (cntG p.d z gn k x + z) = cntG p.d z gn k x + z := by have := HG.out k (by have := HN.out; omega) x; unfold wrap64; omega
      clear h4 hb4 hLx hPx hbl hw4 hr4 ex hI hC
      generalize wr.heap.size = b7 at *
      obtain ⟨g5, hg5⟩ : ∃ g5, g5 = cntG p.d z gn k x := ⟨_, rfl⟩
      rw [← hg5] at hw1
      replace f36 : ∀ n, (w4.drewN n).cell? ⟨bl, 36, none⟩ = some (.int .i64 g5) := fun n => by rw [hg5]; exact f36 n
      have Hg5 := Lib.hid hg5
      clear hg5
      go_quiet (fail)
      have e36 := f36 nq
      have er36 := fr36 nq
      go_upto_region 7 with (fail)
      rw [Hg5.out]
      obtain ⟨sx, ax, d3, l3, g3, r3, c3, hLx, hPx⟩ := (H4.out.drewN nq).lineP Hbl.out
      have h5 : GM ((w4.drewN nq).setCell ⟨bl, 36, none⟩ (.int .i64 (cntG p.d z gn k x + z))) S (cntU S p.d z us k) (cntG p.d z gn (k + 1)) := by
        rw [cntG_next Hx.out]
        exact GM.setGn HOk.out (H4.out.drewN nq) Hbl.out _
      have hC5 : Chg K w ((w4.drewN nq).setCell ⟨bl, 36, none⟩ (.int .i64 (cntG p.d z gn k x + z))) := (HC4.out.trans (chg_drewN K w4 nq)).setCell (HKl.out _ _ Hbl.out) _
      obtain ⟨W5, hW5⟩ : ∃ W5, W5 = (w4.drewN nq).setCell ⟨bl, 36, none⟩ (.int .i64 (cntG p.d z gn k x + z)) := ⟨_, rfl⟩
      rw [← hW5] at h5 hC5 ⊢
      clear hLx hPx hW5
      obtain ⟨sx', ax', d4, l4, g4, r4, c4, hL5, hP5⟩ := h5.lineP Hbl.out
      have e34 := hL5.part
      have e104 := hP5.us
      have er104 := free_row hP5 104
      have HK5 := Lib.hid (HKm.out x)
      have hw2 : wrap64 (cntU S p.d z us k (pOf S x) + z) = cntU S p.d z us k (pOf S x) + z := by have := HU.out k (by have := HN.out; omega) (pOf S x); unfold wrap64; omega
      have hwk : wrap64 ((k : Int) + 1) = ((k + 1 : Nat) : Int) := by unfold wrap64; omega
      have h6 : GM (W5.setCell ⟨pOf S x, 104, none⟩ (.int .i64 (cntU S p.d z us k (pOf S x) + z))) S (cntU S p.d z us (k + 1)) (cntG p.d z gn (k + 1)) := by
        rw [cntU_next Hx.out]
        exact GM.setUs h5 hP5 _
      have hC6 : Chg K w (W5.setCell ⟨pOf S x, 104, none⟩ (.int .i64 (cntU S p.d z us k (pOf S x) + z))) := hC5.setCell (HKm.out x) _
      have H6 : Hid (∀ W6, W6 = W5.setCell ⟨pOf S x, 104, none⟩ (.int .i64 (cntU S p.d z us k (pOf S x) + z)) → GM W6 S (cntU S p.d z us (k + 1)) (cntG p.d z gn (k + 1)) ∧ Chg K w W6) := fun W6 e => by rw [e]; exact ⟨h6, hC6⟩
      clear h5 hP5 hL5 hC5 h6 hC6 e36 er36 f36 fr36 hdl hdv hd3 hw1 HK5 Hg5 H4 HC4
      generalize cntU S p.d z us k (pOf S x) = m5 at *
      generalize pOf S x = q5 at *
      go_upto_region 8 with (fail)
      obtain ⟨h6, hC6⟩ := H6.out _ rfl
      generalize W5.setCell ⟨q5, 104, none⟩ (.int .i64 (m5 + z)) = W6 at *
      have H6 := Lib.hid h6
      have HC6 := Lib.hid hC6
      clear h6 hC6 e34 e104 er104 hw2
      go_wp2
      refine ⟨⟨k + 1, hlt, rfl, H6.out, HC6.out⟩, ?_⟩
      simp only [intOf]
      omega
    · have hltI : ¬ (k : Int) < n := by omega
      obtain rfl : k = n := by omega
      go_wp2
      refine bodyPost_end (results_none rfl _ _ _) rfl ⟨rfl, ?_, hC.out⟩
      rw [← HN.out]
      exact hI.out
end Go.Proofs.YtnjeppmpnaemlaaDoor.Grf
/- DERIVED. bytes.Compare, cmp.Compare, cmp.Or at what Order hands over. -/
set_option maxRecDepth 100000
namespace Go.Proofs.YtnjeppmpnaemlaaDoor.Grf
open Go.RowKit Str Go.Maps
theorem u8_lt {x y : Int} (hx : 0 ≤ x ∧ x < 256) (hy : 0 ≤ y ∧ y < 256) : (x.toNat.toUInt8 < y.toNat.toUInt8) ↔ x < y := by
  rw [UInt8.lt_iff_toNat_lt]
  simp only [Nat.toUInt8, UInt8.toNat_ofNat']
  rw [Nat.mod_eq_of_lt (by omega), Nat.mod_eq_of_lt (by omega)]
  omega
theorem cmp_bytes : ∀ (a b : List Int), (∀ x ∈ a, 0 ≤ x ∧ x < 256) → (∀ x ∈ b, 0 ≤ x ∧ x < 256) → Lib.compareBytes (Lib.bytesOf a) (Lib.bytesOf b) = cmpL a b := by
  intro a
  induction a with
  | nil => intro b _ _; cases b <;> rfl
  | cons x xs ih =>
    intro b ha hb
    cases b with
    | nil => rfl
    | cons y ys =>
      have hx := ha x (by simp)
      have hy := hb y (by simp)
      show (if x.toNat.toUInt8 < y.toNat.toUInt8 then (-1 : Int) else if y.toNat.toUInt8 < x.toNat.toUInt8 then 1 else Lib.compareBytes (Lib.bytesOf xs) (Lib.bytesOf ys)) = _
      rw [ih ys (fun z hz => ha z (by simp [hz])) (fun z hz => hb z (by simp [hz]))]
      simp only [u8_lt hx hy, u8_lt hy hx]
      rfl
theorem inb_mem {h : List Int} (hb : InB h) : ∀ x ∈ h, 0 ≤ x ∧ x < 256 := fun x hx => by
  obtain ⟨j, hj, rfl⟩ := List.getElem_of_mem hx
  have := hb j
  rw [List.getD_eq_getElem?_getD, List.getElem?_eq_getElem hj] at this
  simpa using this
theorem load32 {w : World} {g : Nat} {v : Vx} (hr : w.rangeAt g 0 (hsC v.h).toList) : (Extern.Bytes.bytesOf (.slice (some ⟨g, 0, none⟩) 32 32)).run Tryd.prog w = .ok ⟨(Lib.bytesOf v.h).toArray⟩ w := by
  have hl := Lib.run_loadBytesX (P := Tryd.prog) w v.h ⟨g, 0, none⟩ .empty (fun j x hj => by
    have e : (⟨g, 0, none⟩ : Addr).add j = ⟨g, 0 + j, none⟩ := by unfold Addr.add; split <;> simp_all
    rw [e]
    exact hr j (.int .u8 x) (by simp [hsC, hj]))
  rw [v.len] at hl
  have he : (⟨ByteArray.empty.data ++ (Lib.bytesOf v.h).toArray⟩ : ByteArray) = ⟨(Lib.bytesOf v.h).toArray⟩ := by
    apply ByteArray.ext
    show (#[] : Array UInt8) ++ (Lib.bytesOf v.h).toArray = (Lib.bytesOf v.h).toArray
    simp
  rw [he] at hl
  exact hl
theorem ext_cmp {w : World} {g k : Nat} {a b : Vx} (ha : w.rangeAt g 0 (hsC a.h).toList) (hb : w.rangeAt k 0 (hsC b.h).toList) : (Extern.BytealgCompare.compare #[.slice (some ⟨g, 0, none⟩) 32 32, .slice (some ⟨k, 0, none⟩) 32 32]).run Tryd.prog w = .ok (.int .i64 (cmpL a.h b.h)) w := by
  change Sem.run Tryd.prog (do pure (goInt (Extern.BytealgCompare.cmp (← Extern.Bytes.bytesOf (.slice (some ⟨g, 0, none⟩) 32 32)) (← Extern.Bytes.bytesOf (.slice (some ⟨k, 0, none⟩) 32 32))))) w = _
  simp only [Sem.run_bind, Sem.run_pure, load32 ha, load32 hb, Result.andThen]
  rw [Lib.cmp_eq]
  show Result.ok (Value.int .i64 (Lib.compareBytes (Lib.bytesOf a.h) (Lib.bytesOf b.h))) w = _
  rw [cmp_bytes _ _ (inb_mem a.inb) (inb_mem b.inb)]
theorem bcmp_any {w : World} {g k : Nat} {a b : Vx} (ha : w.rangeAt g 0 (hsC a.h).toList) (hb : w.rangeAt k 0 (hsC b.h).toList) :
    Calls Tryd.prog 144 #[.slice (some ⟨g, 0, none⟩) 32 32, .slice (some ⟨k, 0, none⟩) 32 32] w fun e w' => e = .returned (.int .i64 (cmpL a.h b.h)) ∧ w' = w := by
  have he := ext_cmp ha hb
  clear ha hb
  go_enter Tryd.func144, Tryd.ntmps144
  go_wp2
  rw [run_callFunc_extern Tryd.func145 (by kernel_rfl) (by kernel_rfl) (by kernel_rfl) (e := Extern.BytealgCompare.compare) (by kernel_rfl), he]
  simp only [Result.andThen]
  rw [Oper.upon_value]
  go_wp2
  go_ret
  exact ⟨rfl, rfl⟩
theorem isNaN_any (x : Int) (w : World) : Calls Tryd.prog 103 #[.int .i64 x] w fun e w' => e = .returned (.bool false) ∧ w' = w := by
  go_enter Tryd.func103, Tryd.ntmps103
  go_wp2
  go_ret
  exact ⟨by simp, rfl⟩
theorem cmpI_any (x y : Int) (w : World) : Calls Tryd.prog 82 #[.int .i64 x, .int .i64 y] w fun e w' => e = .returned (.int .i64 (cmpI x y)) ∧ w' = w := by
  have H1 : Hid (Calls Tryd.prog 103 #[.int .i64 x] w fun e w' => e = .returned (.bool false) ∧ w' = w) := isNaN_any x w
  have H2 : Hid (Calls Tryd.prog 103 #[.int .i64 y] w fun e w' => e = .returned (.bool false) ∧ w' = w) := isNaN_any y w
  rcases cmpI_three x y with ⟨h, k⟩ | ⟨h, k⟩ | ⟨h, k⟩
  all_goals rw [h]; have HK := Lib.hid k
  · go_enter Tryd.func82, Tryd.ntmps82
    go_wp2_with (first | (go_at_call_of 103 x; refine H1.out.mono ?_; rintro e w1 ⟨rfl, rfl⟩) | (go_at_call_of 103 y; refine H2.out.mono ?_; rintro e w1 ⟨rfl, rfl⟩))
    go_ret
    exact ⟨rfl, rfl⟩
  · subst k
    go_enter Tryd.func82, Tryd.ntmps82
    go_wp2_with (go_at_call 103; refine H1.out.mono ?_; rintro e w1 ⟨rfl, rfl⟩)
    go_ret
    exact ⟨rfl, rfl⟩
  · have hn : ¬ x < y := by omega
    go_enter Tryd.func82, Tryd.ntmps82
    go_wp2_with (first | (go_at_call_of 103 x; refine H1.out.mono ?_; rintro e w1 ⟨rfl, rfl⟩) | (go_at_call_of 103 y; refine H2.out.mono ?_; rintro e w1 ⟨rfl, rfl⟩))
    go_ret
    exact ⟨rfl, rfl⟩
theorem orI_any (g : Nat) (x y : Int) (w : World) (h0 : w.cell? ⟨g, 0, none⟩ = some (.int .i64 x)) (h1 : w.cell? ⟨g, 1, none⟩ = some (.int .i64 y)) :
    Calls Tryd.prog 143 #[.slice (some ⟨g, 0, none⟩) 2 2] w fun e w' => e = .returned (.int .i64 (if x = 0 then y else x)) ∧ w' = w := by
  by_cases hx : x = 0
  · rw [if_pos hx]
    subst hx
    by_cases hy : y = 0
    · subst hy
      go_enter Tryd.func143, Tryd.ntmps143
      go_upto_region 3 with (fail)
      go_rounds 3
      go_ret
      exact ⟨rfl, rfl⟩
    · go_enter Tryd.func143, Tryd.ntmps143
      go_upto_region 3 with (fail)
      go_rounds 3
      go_ret
      exact ⟨rfl, rfl⟩
  · rw [if_neg hx]
    go_enter Tryd.func143, Tryd.ntmps143
    go_upto_region 3 with (fail)
    go_rounds 3
    go_ret
    exact ⟨rfl, rfl⟩
end Go.Proofs.YtnjeppmpnaemlaaDoor.Grf
