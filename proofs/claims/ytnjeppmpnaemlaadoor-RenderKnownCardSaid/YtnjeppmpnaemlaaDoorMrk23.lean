/- DERIVED. Texts of ours, merged: XRndBlock XRndDel XRndDel2. -/
import Derived.Test.YtnjeppmpnaemlaaDoorMrk21
import Derived.Test.YtnjeppmpnaemlaaDoorMrk22
import Derived.Laws.IdiomCopy
/- DERIVED. render's block: lines that are not solid, their middles. Written by mkblock.py. -/
set_option maxRecDepth 100000
namespace Go.Proofs.YtnjeppmpnaemlaaDoor.Grf
open Go.RowKit Str Go.Maps
attribute [local go_sem ↓ high] loadAtVx loadAtLn loadAtIt
theorem it_one (lv mv : Value) (b : Bool) (A A' : Option Addr) (n c n' c' : Nat) (h : lv = .slice A n c) (h' : mv = .slice A' n' c') : (itC lv b mv).all (·.oneCell') = true := by
  subst h; subst h'
  rw [Array.all_eq_true_iff_forall_mem]
  intro y hy
  simp only [itC, List.mem_toArray, List.mem_cons, List.not_mem_nil, or_false] at hy
  rcases hy with rfl | rfl | rfl <;> rfl
theorem own_setA {b n sz q o : Nat} {e : TypeId} {v u : Value} {L : List Value} {w : World} (h : w.ownsRow b e sz v n L) (hq : v.ownBlock ≠ some q) : (w.setCell ⟨q, o, none⟩ u).ownsRow b e sz v n L :=
  own_keep h fun k hk => Below.heap_setCell w ⟨q, o, none⟩ u k (fun e => hq (by rw [hk]; exact congrArg some e))
/-- what block answers. -/
def BlkQ (w : World) (x : It) (e : Ending) (w' : World) : Prop := ∃ lv mv, e = .returned (.agg (itC lv x.block mv)) ∧ OwnLn w.heap.size x.lines lv w' ∧ OwnZ w.heap.size x.mids mv w' ∧ Below w.heap.size w w'
/-- behind the first i lines: the block in the making. -/
structure BI (l : List Ln) (o : Nat → Nat → Bool) (w : World) (q4 q5 : Nat) (i : Nat) (wr : World) : Prop where
  low : Below w.heap.size w wr
  x : ∃ lv mv, wr.heap[q5]? = some (.cells (itC lv true mv) 74 (0, 0)) ∧ OwnLn w.heap.size l lv wr ∧ OwnZ w.heap.size (midN o i) mv wr
  r4 : ∃ C, wr.heap[q4]? = some (.cells C 74 (0, 0)) ∧ C.size = 3
theorem midN_len (o : Nat → Nat → Bool) : ∀ n, (midN o n).length ≤ n
  | 0 => Nat.le_refl _
  | n + 1 => by
    have := midN_len o n
    unfold midN
    split
    · rw [List.length_append, List.length_singleton]; omega
    · omega
theorem BI.later {l : List Ln} {o : Nat → Nat → Bool} {w : World} {q4 q5 i : Nat} {wr w' : World} (h : BI l o w q4 q5 i wr) (low : Below wr.heap.size wr w') : BI l o w q4 q5 i w' := by
  obtain ⟨h1, ⟨lv, mv, h2, h3, h4⟩, C, h5, h6⟩ := h
  exact ⟨h1.trans (low.mono h1.size), ⟨lv, mv, at_below h2 low, own_stays h3 low, own_stays h4 low⟩, C, at_below h5 low, h6⟩
set_option maxHeartbeats 8000000 in
theorem block_any (S : GS) (n : Nat) (v : Value) (l : List Ln) (w : World) (h : GX w S n) (hv : RdLn w v l) (hl : l.length ≤ 100000) (h0 : 0 < l.length) :
    Calls Tryd.prog 57 #[ptr S.g, v] w (BlkQ w (blockL (BefB S) l)) := by
  have hC4 : ∃ C : Array Value, C.size = 3 ∧ C = itC nils false nils := ⟨_, rfl, rfl⟩
  have h4 := Go.heap_alloc_new w (.cells (itC nils false nils) 74)
  have k4 : Below w.heap.size w (w.alloc (.cells (itC nils false nils) 74)) := (Below.refl _ _).alloc (Nat.le_refl _) _
  obtain ⟨W, hW⟩ : ∃ W, W = w.alloc (.cells (itC nils false nils) 74) := ⟨_, rfl⟩
  have HW : Hid (w.alloc (.cells #[.slice none 0 0, .bool false, .slice none 0 0] 74) = W) := hW.symm
  rw [← hW] at h4 k4
  have hCl := clone_lns v l W (hv.below k4) hl h0
  obtain ⟨A, c, rfl, hc, hr⟩ := hv
  obtain ⟨m, hm⟩ : ∃ m, m = l.length := ⟨_, rfl⟩
  rw [← hm] at hc hl h0 hCl ⊢
  obtain ⟨o, ho⟩ : ∃ o, o = ordL (BefB S) l := ⟨_, rfl⟩
  obtain ⟨pg, hpg⟩ : ∃ pg, pg = ptr S.g := ⟨_, rfl⟩
  have HL : Hid (∀ j, j < m → ∃ g off x, A = some ⟨g, off, none⟩ ∧ l[j]? = some x ∧ ∀ u, Below w.heap.size w u → (loadLn (.pointer (some ⟨g, off + j * 35, none⟩))).run Tryd.prog u = .ok (.agg (lnC x)) u) := fun j hj => by
    obtain ⟨x, hx⟩ : ∃ x, l[j]? = some x := ⟨_, List.getElem?_eq_getElem (by omega)⟩
    obtain ⟨g, off, rfl, hg, hcell⟩ := hr (by omega)
    exact ⟨g, off, x, rfl, hx, fun u hu => loadLn_eq (range_below (hcell j x hx) hu hg)⟩
  have HO : Hid (∀ (a b : Nat) (x y : Ln), l[a]? = some x → l[b]? = some y → ∀ u, Below w.heap.size w u → Calls Tryd.prog 90 #[pg, .agg (lnC x), .agg (lnC y)] u fun e w' => e = .returned (.bool (o a b)) ∧ Below u.heap.size u w') := fun a b x y hx hy u hu => by
    have := ordered_any S n x y u (h.below hu)
    rw [← hpg] at this
    have e : o a b = BefB S x.1 y.1 := by rw [ho]; unfold ordL; rw [hx, hy]
    rw [e]
    exact this
  have HBk : Hid (∀ lv mv w', OwnLn w.heap.size l lv w' → OwnZ w.heap.size (midN o m) mv w' → Below w.heap.size w w' → BlkQ w (blockL (BefB S) l) (.returned (.agg (itC lv true mv))) w') := fun lv mv w' h1 h2 h3 => ⟨lv, mv, rfl, h1, by
    show OwnZ _ (midN (ordL (BefB S) l) l.length) _ _
    rw [← ho, ← hm]
    exact h2, h3⟩
  rw [← hpg]
  have hcI : (m : Int) ≤ c := by omega
  obtain ⟨q4, hq4⟩ : ∃ q4, q4 = w.heap.size := ⟨_, rfl⟩
  rw [← hq4] at h4
  have Hq4 := Lib.hid hq4
  have H4 := Lib.hid h4
  have K4 := Lib.hid k4
  have Hm := Lib.hid hm
  clear hr h hpg ho hc hm h4 k4 hC4 hW hq4
  go_enter Tryd.func57, Tryd.ntmps57
  go_upto_region 1 with (fail)
  rw [HW.out, ← Hq4.out]
  go_upto_region 2 with (first
    | (go_at_call 58; refine hCl.mono ?_; rintro e w1 ⟨lv, rfl, hown, hlow⟩; obtain ⟨A1, c1, hlv, -, -⟩ := hown.rd)
    | (refine wpList_store_row rfl 74 (.tmp 5) (.tmp 9) rfl w1.heap.size (itC lv true nils) rfl rfl 74 _ (Go.heap_alloc_new w1 _) (infoIt _ _ _) rfl (it_one _ _ _ _ _ _ _ _ _ hlv rfl) ?_; rw [World.setRow_alloc_new]))
  have h5 := Go.heap_alloc_new w1 (.cells (itC lv true nils) 74)
  have k5 : Below w1.heap.size w1 (w1.alloc (.cells (itC lv true nils) 74)) := (Below.refl _ _).alloc (Nat.le_refl _) _
  obtain ⟨w5, hw5⟩ : ∃ w5, w5 = w1.alloc (.cells (itC lv true nils) 74) := ⟨_, rfl⟩
  rw [← hw5] at h5 k5
  have HW5 : Hid (w1.alloc (.cells #[.slice A1 l.length c1, .bool true, .slice none 0 0] 74) = w5) := by rw [hw5, hlv]; rfl
  rw [HW5.out]
  obtain ⟨q5, hq5⟩ : ∃ q5, q5 = w1.heap.size := ⟨_, rfl⟩
  rw [← hq5] at h5 ⊢
  generalize Value.agg #[Value.slice A1 l.length c1, Value.bool true, Value.slice none 0 0] = s9
  generalize Value.slice A1 l.length c1 = s8
  have H0 : Hid (BI l o w q4 q5 1 w5) := by
    have hWq : w.heap.size ≤ W.heap.size := K4.out.size
    refine ⟨(K4.out.trans (hlow.mono K4.out.size)).trans (k5.mono (Nat.le_trans K4.out.size hlow.size)), ⟨lv, nils, h5, own_stays (own_base hown hWq) k5, OwnZ.nil _ _⟩, _, at_below (at_below H4.out hlow) k5, rfl⟩
  have Hq45 : Hid (q4 ≠ q5) := by
    show q4 ≠ q5
    have h1 := (Array.getElem?_eq_some_iff.1 H4.out).1
    have h2 := hlow.size
    omega
  have Hq5b : Hid (w.heap.size ≤ q5) := by
    show _ ≤ _
    rw [hq5]
    exact Nat.le_trans K4.out.size hlow.size
  clear h5 k5 hw5 hq5 hown hlow hlv hCl HW5 HW H4 K4
  go_upto_region 3 with (fail)
  go_loopw [6] (fun i wr => ∃ k : Nat, k ≤ m ∧ 1 ≤ k ∧ i = .int .i64 k ∧ Hid (BI l o w q4 q5 k wr)) (fun i _ => m - (intOf i).toNat)
  case atStart => exact ⟨1, h0, Nat.le_refl _, rfl, H0⟩
  case round =>
    obtain ⟨i, him, hi1, rfl, hI⟩ := hrel
    clear H0
    by_cases hlt : i < m
    · have hltI : (i : Int) < m := by omega
      have hi0 : 0 ≤ (i : Int) := by omega
      have hwk : wrap64 ((i : Int) + 1) = ((i + 1 : Nat) : Int) := by unfold wrap64; omega
      obtain ⟨j, hj⟩ : ∃ j, i = j + 1 := ⟨i - 1, by omega⟩
      have hwj : wrap64 ((i : Int) - 1) = (j : Int) := by unfold wrap64; omega
      have hwj2 : IntKind.i64.wrap ((i : Int) - 1) = (j : Int) := by rw [IntWalk.i64_in _ (by omega)]; omega
      have hjm : (j : Int) < m := by omega
      have hj0 : 0 ≤ (j : Int) := by omega
      obtain ⟨gl, ol, x, hAl, hx0, hLx⟩ := HL.out j (by omega)
      subst hAl
      obtain ⟨gl2, ol2, y, hAl, hy0, hLy⟩ := HL.out i hlt
      cases hAl
      have hlw := hI.out.low
      obtain ⟨B, hB⟩ : ∃ B, B = o j i := ⟨_, rfl⟩
      have HLX : Hid (∀ u, Below wr.heap.size wr u → (loadLn (.pointer (some ⟨gl, ol + j * 35, none⟩))).run Tryd.prog u = .ok (.agg (lnC x)) u) := fun u hu => hLx u (hlw.trans (hu.mono hlw.size))
      have HLY9 : Hid (∀ u, Below wr.heap.size wr u → (loadLn (.pointer (some ⟨gl, ol + i * 35, none⟩))).run Tryd.prog u = .ok (.agg (lnC y)) u) := fun u hu => hLy u (hlw.trans (hu.mono hlw.size))
      have HOrd : Hid (∀ u, Below wr.heap.size wr u → Calls Tryd.prog 90 #[pg, .agg (lnC x), .agg (lnC y)] u fun e w' => e = .returned (.bool B) ∧ Below u.heap.size u w') := fun u hu => by
        rw [hB]
        exact HO.out j i x y hx0 hy0 u (hlw.trans (hu.mono hlw.size))
      have HYes : Hid (B = true → midN o (i + 1) = midN o i) := fun hb => by
        rw [midN, hj, Nat.add_sub_cancel, ← hj, if_neg]
        rw [← hB, hb]
        simp
      have HNo : Hid (B = false → midN o (i + 1) = midN o i ++ [(i : Int)]) := fun hb => by
        rw [midN, hj, Nat.add_sub_cancel, ← hj, if_pos]
        exact ⟨by omega, by rw [← hB, hb]⟩
      have Hj := Lib.hid hj
      clear hLx hLy hx0 hy0 hlw hB hj
      go_upto_region 5 with (fail)
      have apx : apartB [16, 17, 18, 19, 20, 21, 22, 23, 24, 25, 26, 27] = true := by decide
      refine wp_region_any (by kernel_rfl) ?_
      change wpAny _ _ _ _ _ _ _ (World.drew _)
      refine wpAny_inv (fun ll aa wx => Hid (ll.size = 12 ∧ Below wr.heap.size wr wx) ∧ ∃ (z : Nat → Value), Hid (aa = ⟨#[pg, .slice (some ⟨gl, ol, none⟩) m c, undef, undef, .pointer (some ⟨q4, 0, none⟩), .pointer (some ⟨q5, 0, none⟩), .int .i64 ((i : Nat) : Int), .slice (some ⟨gl, ol, none⟩) m c, s8, s9, .int .i64 ((i : Nat) : Int), .slice (some ⟨gl, ol, none⟩) m c, .int .i64 ((m : Nat) : Int), .bool true, u14, u15, z 16, z 17, z 18, z 19, z 20, z 21, z 22, z 23, z 24, z 25, z 26, z 27, u28, u29, u30, u31, u32, u33, undef], []⟩) ∧ Holding [16, 17, 18, 19, 20, 21, 22, 23, 24, 25, 26, 27] [some (pg), some (.slice (some ⟨gl, ol, none⟩) m c), some (.int .i64 ((i : Nat) : Int)), some (.int .i64 ((j : Nat) : Int)), some (.pointer (some ⟨gl, ol + j * 35, none⟩)), some (.agg (lnC x)), some (.slice (some ⟨gl, ol, none⟩) m c), some (.int .i64 ((i : Nat) : Int)), some (.pointer (some ⟨gl, ol + i * 35, none⟩)), some (.agg (lnC y)), some (.bool B), some (.bool (!B))] ll z) ?_ (by kernel_rfl) ?_ ?_ _ _ _ _ (unlisted_none _) ?_
      · rintro ll aa wx ⟨hI, _⟩
        exact hI.out.1
      · rintro ll aa wx ⟨hI, z, ha, hz⟩ hall
        have hx := Lib.hid hI.out.2
        have e0 : z 16 = pg := hz 0 _ (hall 0 (by decide)) rfl
        have e1 : z 17 = .slice (some ⟨gl, ol, none⟩) m c := hz 1 _ (hall 1 (by decide)) rfl
        have e2 : z 18 = .int .i64 ((i : Nat) : Int) := hz 2 _ (hall 2 (by decide)) rfl
        have e3 : z 19 = .int .i64 ((j : Nat) : Int) := hz 3 _ (hall 3 (by decide)) rfl
        have e4 : z 20 = .pointer (some ⟨gl, ol + j * 35, none⟩) := hz 4 _ (hall 4 (by decide)) rfl
        have e5 : z 21 = .agg (lnC x) := hz 5 _ (hall 5 (by decide)) rfl
        have e6 : z 22 = .slice (some ⟨gl, ol, none⟩) m c := hz 6 _ (hall 6 (by decide)) rfl
        have e7 : z 23 = .int .i64 ((i : Nat) : Int) := hz 7 _ (hall 7 (by decide)) rfl
        have e8 : z 24 = .pointer (some ⟨gl, ol + i * 35, none⟩) := hz 8 _ (hall 8 (by decide)) rfl
        have e9 : z 25 = .agg (lnC y) := hz 9 _ (hall 9 (by decide)) rfl
        have e10 : z 26 = .bool B := hz 10 _ (hall 10 (by decide)) rfl
        have e11 : z 27 = .bool (!B) := hz 11 _ (hall 11 (by decide)) rfl
        clear hall hz hI 
        obtain rfl := ha.out
        clear ha
        clear apx
        have E11 := Lib.hid e11
        have HX := Lib.hid hx.out
        clear e0 e1 e2 e3 e4 e5 e6 e7 e8 e9 e10 e11 hx
        rw [E11.out]
        have hN := Lib.hid (hI.out.later HX.out)
        clear hI
        cases B with
        | true =>
          have HS : Hid (BI l o w q4 q5 (i + 1) wx) := by
            obtain ⟨h1, ⟨lv, mv, h2, h3, h4⟩, h5⟩ := hN.out
            exact ⟨h1, ⟨lv, mv, h2, h3, by rw [HYes.out rfl]; exact h4⟩, h5⟩
          clear hN HYes HNo
          go_wp2
          refine ⟨⟨i + 1, hlt, by omega, rfl, HS⟩, ?_⟩
          clear hwk hwj
          simp only [intOf]
          omega
        | false =>
          have HN9 := Lib.hid (HNo.out rfl)
          clear HYes HNo
          obtain ⟨hlow, ⟨lv, mv, h5, h6, h7⟩, C, h8, h9⟩ := hN.out
          clear hN
          have c2 : wx.cell? ⟨q5, 2, none⟩ = some mv := by rw [cell_row h5]; rfl
          have H5 := Lib.hid h5
          have H6 := Lib.hid h6
          have H7 := Lib.hid h7
          have H8 := Lib.hid h8
          have H9 := Lib.hid h9
          have HLo := Lib.hid hlow
          have hml := midN_len o i
          have Hml := Lib.hid hml
          clear h5 h6 h7 h8 h9 hlow hml
          go_upto_region 4 with (at_builtin; refine wpList_app1 rfl el_int 72 Tryd.underlying72 (.tmp 29) (.tmp 31) rfl w.heap.size mv (midN o i).length (valsK .i64 (midN o i)) [.int .i64 (i : Nat)] rfl (int_one i) rfl (own_alloc H7.out _) wx.heap.size rfl ⟨_, Go.heap_alloc_new wx _, rfl⟩ (by have h2 := Hml.out; omega) (by rw [World.size_alloc]; have := HLo.out.size; omega) ?_; intro mv2 w2 own2 g2 loc2; obtain ⟨A8, c8, rfl⟩ := own_nilK own2; have H52 : w2.heap[q5]? = some (.cells (itC lv true mv) 74 (0, 0)) := (g2.block q5 (by rw [World.size_alloc]; have := (Array.getElem?_eq_some_iff.1 H5.out).1; omega) (fun e => own_apart1 H7.out H5.out (by decide) e.symm)).trans (Go.heap_alloc_old _ _ (Array.getElem?_eq_some_iff.1 H5.out).1 |>.trans H5.out); have c52 := cell_row H52 2; have f52 := free_row H52 2; have H52' := Lib.hid H52; clear H52)
          have HS : Hid (BI l o w q4 q5 (i + 1) (w2.setCell ⟨q5, 2, none⟩ (.slice A8 ((midN o i).length + 1) c8))) := by
            have s2 := g2.size
            rw [World.size_alloc] at s2
            have hh := (Array.getElem?_eq_some_iff.1 H5.out).1
            have l2 : Below w.heap.size w w2 := own_low (v := mv) g2 (own_alloc H7.out _) (HLo.out.alloc HLo.out.size _) (by rw [World.size_alloc]; have := HLo.out.size; omega)
            have hc := (Chg.refl [q5] w2).setCell (p := ⟨q5, 2, none⟩) (by simp) (.slice A8 ((midN o i).length + 1) c8)
            have H52 := H52'.out
            have e5 : (itC lv true mv).setIfInBounds 2 (.slice A8 ((midN o i).length + 1) c8) = itC lv true (.slice A8 ((midN o i).length + 1) c8) := rfl
            have hln : OwnLn w.heap.size l lv w2 := own_other (own_alloc H6.out _) g2 (fun q hq e => own_apart H6.out H7.out (by decide) q hq e)
            have h82 : w2.heap[q4]? = some (.cells C 74 (0, 0)) := (g2.block q4 (by rw [World.size_alloc]; have := (Array.getElem?_eq_some_iff.1 H8.out).1; omega) (fun e => own_apart1 H7.out H8.out (by decide) e.symm)).trans (Go.heap_alloc_old _ _ (Array.getElem?_eq_some_iff.1 H8.out).1 |>.trans H8.out)
            have hmz : OwnZ w.heap.size (midN o i ++ [(i : Int)]) (.slice A8 ((midN o i).length + 1) c8) w2 := OwnZ.more own2 rfl
            refine ⟨hc.below l2 (by have := HLo.out.size; omega) (fun k hk => by rw [List.mem_singleton.1 hk]; exact Hq5b.out), ⟨lv, .slice A8 ((midN o i).length + 1) c8, ?_, own_setA hln (own_apart1 hln H52 (by decide)), ?_⟩, C, (Below.heap_setCell _ _ _ _ Hq45.out).trans h82, H9.out⟩
            · rw [heap_setCell_same _ _ _ _ _ _ H52, e5]
            · rw [HN9.out]
              exact own_setA hmz (own_apart1 hmz H52 (by decide))
          clear own2 g2 loc2 H5 H6 H7 H8 H9 HLo Hml HN9 H52' c52 f52 c2
          go_wp2
          refine ⟨⟨i + 1, hlt, by omega, rfl, HS⟩, ?_⟩
          clear hwk hwj
          simp only [intOf]
          omega
      · rintro ll aa wx i ⟨hI, z, ha, hz⟩ hi hu hw
        obtain rfl := ha.out
        have hsz := Lib.hid hI.out.1
        have hx := Lib.hid hI.out.2
        clear ha hI
        have hin : i < 12 := hi
        obtain rfl | rfl | rfl | rfl | rfl | rfl | rfl | rfl | rfl | rfl | rfl | rfl : i = 0 ∨ i = 1 ∨ i = 2 ∨ i = 3 ∨ i = 4 ∨ i = 5 ∨ i = 6 ∨ i = 7 ∨ i = 8 ∨ i = 9 ∨ i = 10 ∨ i = 11 := by omega
        · refine wpOp_plain rfl rfl ?_
          go_simp
          exact ⟨⟨by simp [hsz.out], hx.out⟩, upd z 16 (pg), (by unfold Hid; simp [upd]), hz.next apx hsz.out 0 (by decide) _ (fun _ h => Option.some.inj h)⟩
        · refine wpOp_plain rfl rfl ?_
          go_simp
          exact ⟨⟨by simp [hsz.out], hx.out⟩, upd z 17 (.slice (some ⟨gl, ol, none⟩) m c), (by unfold Hid; simp [upd]), hz.next apx hsz.out 1 (by decide) _ (fun _ h => Option.some.inj h)⟩
        · refine wpOp_plain rfl rfl ?_
          go_simp
          exact ⟨⟨by simp [hsz.out], hx.out⟩, upd z 18 (.int .i64 ((i : Nat) : Int)), (by unfold Hid; simp [upd]), hz.next apx hsz.out 2 (by decide) _ (fun _ h => Option.some.inj h)⟩
        · have e2 : z 18 = .int .i64 ((i : Nat) : Int) := hz 2 _ (hw 2 (by kernel_rfl)) rfl
          refine wpOp_plain rfl rfl ?_
          go_simp
          exact ⟨⟨by simp [hsz.out], hx.out⟩, upd z 19 (.int .i64 ((j : Nat) : Int)), (by unfold Hid; simp [upd, e2]), hz.next apx hsz.out 3 (by decide) _ (fun _ h => Option.some.inj h)⟩
        · have e1 : z 17 = .slice (some ⟨gl, ol, none⟩) m c := hz 1 _ (hw 1 (by kernel_rfl)) rfl
          have e3 : z 19 = .int .i64 ((j : Nat) : Int) := hz 3 _ (hw 3 (by kernel_rfl)) rfl
          refine wpOp_plain rfl rfl ?_
          go_simp
          exact ⟨⟨by simp [hsz.out], hx.out⟩, upd z 20 (.pointer (some ⟨gl, ol + j * 35, none⟩)), (by unfold Hid; simp [upd, e1, e3]), hz.next apx hsz.out 4 (by decide) _ (fun _ h => Option.some.inj h)⟩
        · have e4 : z 20 = .pointer (some ⟨gl, ol + j * 35, none⟩) := hz 4 _ (hw 4 (by kernel_rfl)) rfl
          have eg := HLX.out wx hx.out
          refine wpOp_plain rfl rfl ?_
          go_simp
          exact ⟨⟨by simp [hsz.out], hx.out⟩, upd z 21 (.agg (lnC x)), (by unfold Hid; simp [upd, e4]), hz.next apx hsz.out 5 (by decide) _ (fun _ h => Option.some.inj h)⟩
        · refine wpOp_plain rfl rfl ?_
          go_simp
          exact ⟨⟨by simp [hsz.out], hx.out⟩, upd z 22 (.slice (some ⟨gl, ol, none⟩) m c), (by unfold Hid; simp [upd]), hz.next apx hsz.out 6 (by decide) _ (fun _ h => Option.some.inj h)⟩
        · refine wpOp_plain rfl rfl ?_
          go_simp
          exact ⟨⟨by simp [hsz.out], hx.out⟩, upd z 23 (.int .i64 ((i : Nat) : Int)), (by unfold Hid; simp [upd]), hz.next apx hsz.out 7 (by decide) _ (fun _ h => Option.some.inj h)⟩
        · have e6 : z 22 = .slice (some ⟨gl, ol, none⟩) m c := hz 6 _ (hw 6 (by kernel_rfl)) rfl
          have e7 : z 23 = .int .i64 ((i : Nat) : Int) := hz 7 _ (hw 7 (by kernel_rfl)) rfl
          refine wpOp_plain rfl rfl ?_
          go_simp
          exact ⟨⟨by simp [hsz.out], hx.out⟩, upd z 24 (.pointer (some ⟨gl, ol + i * 35, none⟩)), (by unfold Hid; simp [upd, e6, e7]), hz.next apx hsz.out 8 (by decide) _ (fun _ h => Option.some.inj h)⟩
        · have e8 : z 24 = .pointer (some ⟨gl, ol + i * 35, none⟩) := hz 8 _ (hw 8 (by kernel_rfl)) rfl
          have eg := HLY9.out wx hx.out
          refine wpOp_plain rfl rfl ?_
          go_simp
          exact ⟨⟨by simp [hsz.out], hx.out⟩, upd z 25 (.agg (lnC y)), (by unfold Hid; simp [upd, e8]), hz.next apx hsz.out 9 (by decide) _ (fun _ h => Option.some.inj h)⟩
        · have e0 : z 16 = pg := hz 0 _ (hw 0 (by kernel_rfl)) rfl
          have e5 : z 21 = .agg (lnC x) := hz 5 _ (hw 5 (by kernel_rfl)) rfl
          have e9 : z 25 = .agg (lnC y) := hz 9 _ (hw 9 (by kernel_rfl)) rfl
          refine wpOp_plain rfl rfl ?_
          go_simp
          go_at_call 90
          refine (HOrd.out wx hx.out).mono ?_
          rintro e w9 ⟨rfl, low⟩
          exact ⟨⟨by simp [hsz.out], hx.out.trans (low.mono hx.out.size)⟩, upd z 26 (.bool B), (by unfold Hid; simp [upd, e0, e5, e9]), hz.next apx hsz.out 10 (by decide) _ (fun _ h => Option.some.inj h)⟩
        · have e10 : z 26 = .bool B := hz 10 _ (hw 10 (by kernel_rfl)) rfl
          refine wpOp_plain rfl rfl ?_
          go_simp
          exact ⟨⟨by simp [hsz.out], hx.out⟩, upd z 27 (.bool (!B)), (by unfold Hid; simp [upd, e10]), hz.next apx hsz.out 11 (by decide) _ (fun _ h => Option.some.inj h)⟩
      · exact ⟨⟨rfl, (Below.refl _ _).drew⟩, fun xx => (#[pg, .slice (some ⟨gl, ol, none⟩) m c, undef, undef, .pointer (some ⟨q4, 0, none⟩), .pointer (some ⟨q5, 0, none⟩), .int .i64 ((i : Nat) : Int), .slice (some ⟨gl, ol, none⟩) m c, s8, s9, .int .i64 ((i : Nat) : Int), .slice (some ⟨gl, ol, none⟩) m c, .int .i64 ((m : Nat) : Int), .bool true, u14, u15, u16, u17, u18, u19, u20, u21, u22, u23, u24, u25, u26, u27, u28, u29, u30, u31, u32, u33, undef] : Array Value).getD xx undef, (by rfl), Holding.start⟩
    · obtain rfl : i = m := by omega
      have hltI : ¬ (i : Int) < (i : Int) := by omega
      obtain ⟨hlow, ⟨lv, mv, h5, h6, h7⟩, C, h8, h9⟩ := hI.out
      have eg := loadIt_eq (lv := lv) (mv := mv) (bl := true) (row_range h5 [] _ [] (by simp) 0 rfl)
      obtain ⟨A6, c6, hlv6, -, -⟩ := h6.rd
      obtain ⟨A7, c7, hmv7, -, -⟩ := h7.rd
      have HF : Hid (BlkQ w (blockL (BefB S) l) (.returned (.agg (itC lv true mv))) (wr.setRow q4 (itC lv true mv))) := by
        have hs : Below wr.heap.size wr wr := Below.refl _ _
        have hb := below_setRow hlow (show w.heap.size ≤ q4 by rw [Hq4.out]; exact Nat.le_refl _) (itC lv true mv)
        exact HBk.out lv mv _ (own_keep h6 fun k hk => setRow_ne (fun e => own_apart1 h6 h8 (by decide) (by subst e; exact hk))) (own_keep h7 fun k hk => setRow_ne (fun e => own_apart1 h7 h8 (by decide) (by subst e; exact hk))) hb
      have H8 := Lib.hid h8
      have H9 := Lib.hid h9
      have HLV := Lib.hid hlv6
      have HMV := Lib.hid hmv7
      clear hlow h5 h6 h7 h8 h9 hlv6 hmv7 hI
      go_wp2_with (refine wpList_store_row rfl 74 (.tmp 4) (.tmp 34) rfl q4 (itC lv true mv) rfl rfl 74 _ H8.out (infoIt _ _ _) (by rw [H9.out]; rfl) (it_one _ _ _ _ _ _ _ _ _ HLV.out HMV.out) ?_)
      exact bodyPost_ret (v := .agg (itC lv true mv)) (results_cell_row rfl _ _ q4 74 _ (0, 0) _ rfl (setRow_at H8.out) Tryd.underlying74 rfl (infoIt _ _ _)) rfl HF.out
end Go.Proofs.YtnjeppmpnaemlaaDoor.Grf
/- DERIVED. slices.DeleteFunc at lines, with the closure of Items: what is not alive goes. -/
set_option maxRecDepth 100000
namespace Go.Proofs.YtnjeppmpnaemlaaDoor.Grf
open Go.RowKit Str Go.Maps
attribute [local go_sem ↓ high] loadAtVx loadAtLn
/-- the closure as a value. -/
abbrev fDead : Value := .func (.func 55) #[] #[]
/-- where the first one stands that is not alive. -/
def FdQ (w : World) (l : List Ln) (e : Ending) (w' : World) : Prop :=
  ∃ z : Int, e = .returned (.int .i64 z) ∧ ((∃ (k : Nat) (x : Ln), z = k ∧ l[k]? = some x ∧ x.2.2 = false ∧ ∀ j y, j < k → l[j]? = some y → y.2.2 = true) ∨ (z = -1 ∧ ∀ x ∈ l, x.2.2 = true)) ∧ Below w.heap.size w w'
set_option maxHeartbeats 4000000 in
theorem indexDead_any (v : Value) (l : List Ln) (w : World) (h : RdLn w v l) (hl : l.length ≤ 1000000) : Calls Tryd.prog 89 #[v, fDead] w (FdQ w l) := by
  obtain ⟨A, c, rfl, hc, hr⟩ := h
  obtain ⟨m, hm⟩ : ∃ m, m = l.length := ⟨_, rfl⟩
  rw [← hm] at hc hl ⊢
  have HR := Lib.hid hr
  have Hm := Lib.hid hm
  have hcI : (m : Int) ≤ c := by omega
  clear hr hm
  go_enter Tryd.func89, Tryd.ntmps89
  go_upto_region 2 with (fail)
  go_loopw [8] (fun i wr => ∃ k : Nat, k ≤ m ∧ i = .int .i64 k ∧ Hid (Below w.heap.size w wr ∧ ∀ j y, j < k → l[j]? = some y → y.2.2 = true)) (fun i _ => m - (intOf i).toNat)
  case atStart => exact ⟨0, Nat.zero_le _, rfl, Below.refl _ _, fun j y hj => absurd hj (by omega)⟩
  case round =>
    obtain ⟨k, hk, rfl, hI⟩ := hrel
    by_cases hlt : k < m
    · have hltI : (k : Int) < m := by omega
      have hk0 : 0 ≤ (k : Int) := by omega
      obtain ⟨x, hx⟩ : ∃ x, l[k]? = some x := ⟨_, List.getElem?_eq_getElem (by have := Hm.out; omega)⟩
      obtain ⟨g, off, rfl, hg, hcell⟩ := HR.out (by have := Hm.out; omega)
      have eg := loadLn_eq (range_below (hcell k x hx) hI.out.1 hg)
      have hwk : wrap64 ((k : Int) + 1) = ((k + 1 : Nat) : Int) := by unfold wrap64; omega
      have hC := notAlive_any x wr
      have HX := Lib.hid hx
      clear hcell hx hg
      cases hxa : x.2.2
      all_goals
        rw [hxa] at hC
        have HXA := Lib.hid hxa
        clear hxa
        go_wp2_with (go_at_call 55; refine hC.mono ?_; rintro e w2 ⟨rfl, low⟩)
      · go_ret
        exact ⟨_, rfl, .inl ⟨k, x, rfl, HX.out, HXA.out, hI.out.2⟩, hI.out.1.trans (low.mono hI.out.1.size)⟩
      · refine ⟨⟨k + 1, hlt, rfl, hI.out.1.trans (low.mono hI.out.1.size), fun j y hj hy => ?_⟩, ?_⟩
        · by_cases e : j = k
          · subst e
            rw [HX.out] at hy
            obtain rfl := Option.some.inj hy
            exact HXA.out
          · exact hI.out.2 j y (by omega) hy
        · clear hwk
          simp only [intOf]
          omega
    · have hltI : ¬ (k : Int) < m := by omega
      obtain rfl : k = m := by omega
      go_wp2
      go_ret
      refine ⟨_, rfl, .inr ⟨rfl, fun x hx => ?_⟩, hI.out.1⟩
      obtain ⟨j, hj⟩ := List.getElem?_of_mem hx
      exact hI.out.2 j x (by have := (List.getElem?_eq_some_iff.1 hj).1; have := Hm.out; omega) hj
theorem alive_first {l : List Ln} {k : Nat} {x : Ln} (hx : l[k]? = some x) (hd : x.2.2 = false) (ha : ∀ j y, j < k → l[j]? = some y → y.2.2 = true) : aliveL (l.take (k + 1)) = l.take k := by
  unfold aliveL
  rw [List.take_add_one, hx, List.filter_append, List.filter_eq_self.2 (fun y hy => ?_)]
  · simp [hd]
  · obtain ⟨j, hj⟩ := List.getElem?_of_mem hy
    rw [List.getElem?_take] at hj
    split at hj
    · next h => exact ha j y h hj
    · cases hj
theorem alive_all {l : List Ln} (h : ∀ x ∈ l, x.2.2 = true) : aliveL l = l := List.filter_eq_self.2 h
theorem alive_more {l : List Ln} {j : Nat} {x : Ln} (hx : l[j]? = some x) : aliveL (l.take (j + 1)) = aliveL (l.take j) ++ (if x.2.2 = true then [x] else []) := by
  unfold aliveL
  rw [List.take_add_one, hx, List.filter_append]
  congr 1
  cases hb : x.2.2 <;> simp [hb]
theorem alive_len (l : List Ln) (j : Nat) : (aliveL (l.take j)).length ≤ j := by
  have h1 := List.length_filter_le (fun x : Ln => x.2.2) (l.take j)
  have h2 := List.length_take_le j l
  unfold aliveL
  omega
/-- the row of DeleteFunc: the first ones that stay are laid, from j on all is as it was. -/
def DlI (l : List Ln) (g cap j : Nat) (w : World) : Prop := ∃ C : Array Value, w.heap[g]? = some (.cells C 55 (0, 0)) ∧ C.size = cap * 35 ∧ C.toList.take ((aliveL (l.take j)).length * 35) = flatLn (aliveL (l.take j)) ∧ ∀ (k : Nat) (x : Ln), j ≤ k → l[k]? = some x → w.rangeAt g (k * 35) (lnC x).toList
theorem DlI.below {l : List Ln} {g cap j : Nat} {w w' : World} (h : DlI l g cap j w) (hb : Below w.heap.size w w') : DlI l g cap j w' := by
  obtain ⟨C, h1, h2, h3, h4⟩ := h
  exact ⟨C, at_below h1 hb, h2, h3, fun k x hk hx => range_below (h4 k x hk hx) hb (Array.getElem?_eq_some_iff.1 h1).1⟩
theorem DlI.skip {l : List Ln} {g cap j : Nat} {w : World} {x : Ln} (h : DlI l g cap j w) (hx : l[j]? = some x) (hd : x.2.2 = false) : DlI l g cap (j + 1) w := by
  obtain ⟨C, h1, h2, h3, h4⟩ := h
  have e : aliveL (l.take (j + 1)) = aliveL (l.take j) := by rw [alive_more hx, hd]; simp
  refine ⟨C, h1, h2, ?_, fun k x hk hx => h4 k x (by omega) hx⟩
  rw [e]
  exact h3
theorem range_apart {w : World} {g o p : Nat} {C : Array Value} {T : TypeId} {L M : List Value} (h : w.rangeAt g o L) (hh : w.heap[g]? = some (.cells C T (0, 0))) (hp : p + M.length ≤ C.size) (ha : p + M.length ≤ o) : (w.setCells g p M).rangeAt g o L := by
  intro j v hv
  have h1 := h j v hv
  rw [cell_row hh] at h1
  rw [cell_row (heap_setCells M p w C hh hp)]
  have hl : (C.toList.take p ++ M).length = p + M.length := by rw [List.length_append, List.length_take, Array.length_toList]; omega
  have h2 : (splice C.toList p M)[o + j]? = some v := by
    unfold splice
    rw [← List.append_assoc, List.getElem?_append_right (by rw [hl]; omega), hl, List.getElem?_drop]
    have e : p + M.length + (o + j - (p + M.length)) = o + j := by omega
    refine (congrArg (fun t => C.toList[t]?) e).trans ?_
    simpa using h1
  simpa using h2
theorem DlI.keep {l : List Ln} {g cap j : Nat} {w : World} {x : Ln} (h : DlI l g cap j w) (hx : l[j]? = some x) (hd : x.2.2 = true) (hj : j < cap) :
    w.there g ((aliveL (l.take j)).length * 35) (lnC x).size ∧ DlI l g cap (j + 1) (w.setCells g ((aliveL (l.take j)).length * 35) (lnC x).toList) := by
  obtain ⟨C, h1, h2, h3, h4⟩ := h
  have hi := alive_len l j
  obtain ⟨i, hie⟩ : ∃ i, i = (aliveL (l.take j)).length := ⟨_, rfl⟩
  rw [← hie] at h3 hi ⊢
  have hle : i * 35 + 35 ≤ C.size := by rw [h2]; omega
  have hM : (lnC x).toList.length = 35 := by rw [Array.length_toList, lnC_size]
  refine ⟨there_row h1 _ (by rw [lnC_size]; exact hle), _, heap_setCells _ _ _ _ h1 (by rw [hM]; exact hle), ?_, ?_, fun k y hk hy => range_apart (h4 k y (by omega) hy) h1 (by rw [hM]; exact hle) (by rw [hM]; omega)⟩
  · simp only [splice, List.size_toArray, List.length_append, List.length_take, List.length_drop, Array.length_toList, lnC_size]
    omega
  · have e : aliveL (l.take (j + 1)) = aliveL (l.take j) ++ [x] := by rw [alive_more hx, if_pos hd]
    rw [e, List.length_append, ← hie, List.length_singleton, flatLn_app, ← h3]
    show List.take ((i + 1) * 35) (splice C.toList (i * 35) (lnC x).toList) = _
    unfold splice
    have hl1 : (List.take (i * 35) C.toList).length = i * 35 := by rw [List.length_take, Array.length_toList]; omega
    have hl2 : (List.take (i * 35) C.toList ++ (lnC x).toList).length = (i + 1) * 35 := by rw [List.length_append, hl1, hM]; omega
    rw [← List.append_assoc, List.take_left' hl2]
    simp [flatLn]
theorem zero_one : ∃ z : Array Value, (∀ w, (zeroValue 55).run Tryd.prog w = .ok (.agg z) w) ∧ z.size = 35 ∧ ∀ v ∈ z.toList, v.oneCell' = true := ⟨_, Tryd.zeroValue55, by kernel_rfl, by decide⟩
theorem run_clear_ln (w : World) (g o n c : Nat) (C : Array Value) (hn : 0 < n) (hC : w.heap[g]? = some (.cells C 55 (0, 0))) (hs : o + n * 35 ≤ C.size) :
    ∃ Z : List Value, Z.length = n * 35 ∧ ∀ ty, (Builtin.clear_ #[47] ty #[.slice (some ⟨g, o, none⟩) n c]).run Tryd.prog w = .ok (.tuple #[]) (w.setCells g o Z) := by
  obtain ⟨z, hz, hz35, hz1⟩ := zero_one
  have hZ1 : ∀ v ∈ (Builtin.zeroCells z n).toList, v.oneCell' = true := by
    intro v hv
    simp only [Builtin.zeroCells, Array.toList_map, List.mem_map] at hv
    obtain ⟨i, _, rfl⟩ := hv
    have : i % z.size < z.size := Nat.mod_lt _ (by omega)
    rw [getElem!_pos z _ this]
    exact hz1 _ (by simp)
  have hZl : (Builtin.zeroCells z n).toList.length = n * 35 := by simp [Builtin.zeroCells, hz35]
  refine ⟨(Builtin.zeroCells z n).toList, hZl, fun ty => ?_⟩
  have hst := run_storeCells_cells (P := Tryd.prog) g o (Builtin.zeroCells z n).toList 0 w (fun j hj => by
    rw [hZl] at hj
    rw [Nat.add_zero, cell_row hC, Array.getElem?_eq_getElem (by omega)]; rfl) (fun j hj => free_row hC _) hZ1
  simp only [Nat.add_zero] at hst
  obtain ⟨m, rfl⟩ : ∃ m, n = m + 1 := ⟨n - 1, by omega⟩
  have hzc : (Value.agg z).cells = z := rfl
  simp [Builtin.clear_, run_underlying Tryd.underlying47, hz, hzc, hst]
end Go.Proofs.YtnjeppmpnaemlaaDoor.Grf
/- DERIVED. slices.DeleteFunc at lines of the call's own: those that are alive are left. -/
set_option maxRecDepth 100000
namespace Go.Proofs.YtnjeppmpnaemlaaDoor.Grf
open Go.RowKit Str Go.Maps
attribute [local go_sem ↓ high] loadAtVx loadAtLn
def DelQ (base : Nat) (w : World) (l : List Ln) (e : Ending) (w' : World) : Prop := ∃ v', e = .returned v' ∧ OwnLn base (aliveL l) v' w' ∧ Below base w w'
set_option maxHeartbeats 8000000 in
theorem delete_any (v : Value) (l : List Ln) (base : Nat) (w : World) (h : OwnLn base l v w) (hl : l.length ≤ 1000000) (hbw : base ≤ w.heap.size) : Calls Tryd.prog 54 #[v, fDead] w (DelQ base w l) := by
  have hI := indexDead_any v l w h.rd hl
  have HO := Lib.hid h
  have hv : ∃ A c, v = .slice A l.length c ∧ (A = none ∨ ∃ g, A = some ⟨g, 0, none⟩) := by
    rcases h.2 with ⟨rfl, h0⟩ | ⟨g, cap, cur, rfl, _⟩
    · exact ⟨none, 0, by rw [h0], .inl rfl⟩
    · exact ⟨_, cap, rfl, .inr ⟨g, rfl⟩⟩
  obtain ⟨A, c, rfl, hA⟩ := hv
  have HA := Lib.hid hA
  clear h hA
  go_enter Tryd.func54, Tryd.ntmps54
  go_upto_region 2 with (go_at_call 89; refine hI.mono ?_; rintro e w1 ⟨z, rfl, he, hlow⟩)
  rcases he with ⟨k, x, rfl, hx, hxd, hbef⟩ | ⟨rfl, hall⟩
  case inr =>
    have HF : Hid (DelQ base w l (.returned (.slice A l.length c)) w1) := ⟨_, rfl, by rw [alive_all hall]; exact own_stays HO.out hlow, hlow.mono hbw⟩
    clear hall hlow hI
    go_wp2
    go_ret
    exact HF.out
  · have hkl := (List.getElem?_eq_some_iff.1 hx).1
    obtain ⟨m, hm⟩ : ∃ m, m = l.length := ⟨_, rfl⟩
    rcases HO.out.2 with ⟨hA0, h0⟩ | ⟨g, cap, cur, hA0, hgb, hgh, hgc, hgm, hgs, hgt⟩
    · omega
    cases hA0
    rw [← hm] at hkl hgc hl hgt ⊢
    have hk0 : ¬ (k : Int) = -1 := by omega
    have hwk : wrap64 ((k : Int) + 1) = ((k + 1 : Nat) : Int) := by unfold wrap64; omega
    have hg1 : g < w.heap.size := (Array.getElem?_eq_some_iff.1 hgh).1
    have e0 := alive_first hx hxd hbef
    have e1 : (l.take k).length = k := by rw [List.length_take]; omega
    have H0 : Hid (DlI l g c (k + 1) w1 ∧ Below base w w1) := by
      refine ⟨⟨cur, at_below hgh hlow, hgs, ?_, fun j y hj hy => ?_⟩, hlow.mono hbw⟩
      · rw [e0, e1]
        have e2 : flatLn l = flatLn (l.take k) ++ flatLn (l.drop k) := by rw [← flatLn_app, List.take_append_drop]
        have e3 : (flatLn (l.take k)).length = k * 35 := by rw [flatLn_len, e1]
        rw [← List.take_left' (l₂ := flatLn (l.drop k)) e3, ← e2, ← hgt, List.take_take, Nat.min_eq_left (by omega)]
      · obtain ⟨A', c', ev, _, hr⟩ := OwnLn.rd HO.out
        obtain ⟨g', off', eA, hg', hcell⟩ := hr (by have := (List.getElem?_eq_some_iff.1 hy).1; omega)
        cases ev
        cases eA
        have := hcell j y hy
        rw [Nat.zero_add] at this
        exact range_below this hlow hg1
    have HK : Hid ((aliveL (l.take (k + 1))).length = k) := by show _ = _; rw [e0, e1]
    have Hm := Lib.hid hm
    have Hg1 := Lib.hid (Nat.lt_of_lt_of_le hg1 hlow.size)
    have Hgb := Lib.hid hgb
    have Hgm := Lib.hid hgm
    have Hwl := Lib.hid (Nat.le_trans hbw hlow.size)
    have Hcc : Hid (m ≤ c) := hgc
    have hcI : (m : Int) ≤ c := by omega
    clear hx hxd hbef hlow hgh hgs hgt e0 e1 hI HA hgb hgm hg1 hgc hm
    go_upto_region 5 with (fail)
    generalize Value.bool ((k : Int) == -1) = s12
    go_loopw [5, 6] (fun i j wr => ∃ jj : Nat, jj ≤ m ∧ k + 1 ≤ jj ∧ i = .int .i64 ((aliveL (l.take jj)).length : Nat) ∧ j = .int .i64 jj ∧ Hid (DlI l g c jj wr ∧ Below base w wr ∧ (aliveL (l.take jj)).length < jj ∧ w1.heap.size ≤ wr.heap.size)) (fun _ j _ => m - (intOf j).toNat)
    case atStart => exact ⟨k + 1, by omega, Nat.le_refl _, by rw [HK.out], rfl, H0.out.1, H0.out.2, by rw [HK.out]; omega, Nat.le_refl _⟩
    case round =>
      obtain ⟨jj, hjm, hjk, rfl, rfl, hI⟩ := hrel
      clear H0
      obtain ⟨i, hi⟩ : ∃ i, i = (aliveL (l.take jj)).length := ⟨_, rfl⟩
      have HIe := Lib.hid hi
      have hij : i < jj := by rw [hi]; exact hI.out.2.2.1
      rw [← hi]
      clear hi
      by_cases hlt : jj < m
      · have hltI : (jj : Int) < m := by omega
        have hj0 : 0 ≤ (jj : Int) := by omega
        have hi0 : 0 ≤ (i : Int) := by omega
        have hiI : (i : Int) < m := by omega
        have hwj : wrap64 ((jj : Int) + 1) = ((jj + 1 : Nat) : Int) := by unfold wrap64; omega
        have hwi : wrap64 ((i : Int) + 1) = ((i + 1 : Nat) : Int) := by unfold wrap64; omega
        obtain ⟨x, hx⟩ : ∃ x, l[jj]? = some x := ⟨_, List.getElem?_eq_getElem (by have := Hm.out; omega)⟩
        have HX := Lib.hid hx
        obtain ⟨C, c1, c2, c3, c4⟩ := hI.out.1
        have eg := loadLn_eq (c4 jj x (Nat.le_refl _) hx)
        clear c1 c2 c3 c4 hx
        go_upto_region 8 with (refine wpList_store_row rfl 55 (.tmp 7) (.tmp 25) rfl wr.heap.size (lnC x) rfl rfl 55 _ (Go.heap_alloc_new wr _) (infoLn x) (by rw [lnC_size]; rfl) (lnC_one x) ?_; rw [World.setRow_alloc_new])
        rw [put_none]
        have h7 := Go.heap_alloc_new wr (.cells (lnC x) 55)
        have k7 : Below wr.heap.size wr (wr.alloc (.cells (lnC x) 55)) := (Below.refl _ _).alloc (Nat.le_refl _) _
        obtain ⟨w7, hw7⟩ : ∃ w7, w7 = wr.alloc (.cells (lnC x) 55) := ⟨_, rfl⟩
        rw [← hw7] at h7 k7 ⊢
        obtain ⟨q, hq⟩ : ∃ q, q = wr.heap.size := ⟨_, rfl⟩
        rw [← hq] at h7 ⊢
        have e7 := loadLn_eq (x := x) (row_range h7 [] _ [] (by simp) 0 rfl)
        have E8 : Hid (∀ u, Below w7.heap.size w7 u → (loadLn (.pointer (some ⟨q, 0, none⟩))).run Tryd.prog u = .ok (.agg (lnC x)) u) := fun u hu => loadLn_eq (x := x) (row_range (at_below h7 hu) [] _ [] (by simp) 0 rfl)
        have hC := notAlive_any x w7
        have HB : Hid (∀ u, Below w7.heap.size w7 u → DlI l g c jj u ∧ Below base w u ∧ w1.heap.size ≤ u.heap.size ∧ base ≤ u.heap.size) := fun u hu => by
          have h1 := k7.trans (hu.mono k7.size)
          have h2 := Nat.le_trans hI.out.2.2.2 h1.size
          have h3 := Nat.le_trans Hwl.out h2
          exact ⟨hI.out.1.below h1, hI.out.2.1.trans (h1.mono (Nat.le_trans Hwl.out hI.out.2.2.2)), h2, h3⟩
        clear h7 k7 hw7 hq eg hI
        cases hxa : x.2.2
        · rw [hxa] at hC
          have HL : Hid ((aliveL (l.take (jj + 1))).length = i) := by
            show _ = _
            rw [alive_more HX.out, hxa, HIe.out]
            simp
          have HS : Hid (∀ u, DlI l g c jj u → DlI l g c (jj + 1) u) := fun u h => h.skip HX.out hxa
          clear hxa
          go_wp2_with (go_at_call 55; refine hC.mono ?_; rintro e w8 ⟨rfl, low⟩)
          obtain ⟨b1, b2, b3, b4⟩ := HB.out _ low
          refine ⟨⟨jj + 1, hlt, by omega, by rw [HL.out], rfl, HS.out _ b1, b2, by rw [HL.out]; omega, b3⟩, ?_⟩
          clear hwj hwi
          simp only [intOf]
          omega
        · rw [hxa] at hC
          have HL : Hid ((aliveL (l.take (jj + 1))).length = i + 1) := by
            show _ = _
            rw [alive_more HX.out, if_pos hxa, HIe.out]
            simp
          have HS : Hid (∀ u, DlI l g c jj u → u.there g (i * 35) (lnC x).size ∧ DlI l g c (jj + 1) (u.setCells g (i * 35) (lnC x).toList)) := fun u h => by
            rw [HIe.out]
            exact h.keep HX.out hxa (by have := Hcc.out; omega)
          clear hxa
          go_wp2_with (first | (go_at_call 55; refine hC.mono ?_; rintro e w8 ⟨rfl, low⟩; obtain ⟨b1, b2, b3, b4⟩ := HB.out _ low; have S8 := Lib.hid (HS.out _ b1); have B8 := Lib.hid (And.intro b2 (And.intro b3 b4)); have e8 := E8.out _ low; clear b1 b2 b3 b4 low e7) | (refine wpList_store_mid rfl 55 (.tmp 33) (.tmp 32) rfl g (i * 35) (lnC x) rfl rfl S8.out.1 (infoLn x) (lnC_one x) ?_))
          have hc := (Chg.refl [g] w8).setCells (g := g) (by simp) (lnC x).toList (i * 35)
          have hs9 : w1.heap.size ≤ (w8.setCells g (i * 35) (lnC x).toList).heap.size := Nat.le_trans B8.out.2.1 hc.size
          refine ⟨⟨jj + 1, hlt, by omega, by rw [HL.out]; rfl, rfl, S8.out.2, hc.below B8.out.1 B8.out.2.2 (fun k hk => by rw [List.mem_singleton.1 hk]; exact Hgb.out), by rw [HL.out]; omega, hs9⟩, ?_⟩
          clear hwj hwi
          simp only [intOf]
          omega
      · obtain rfl : jj = m := by omega
        have hltI : ¬ (jj : Int) < jj := by omega
        obtain ⟨C, c1, c2, c3, c4⟩ := hI.out.1
        have him : i < jj := hij
        have hi0 : 0 ≤ (i : Int) := by omega
        have him2 : (i : Int) ≤ jj := by omega
        have hic : (i : Int) ≤ c := by omega
        obtain ⟨Z, hZ, hcl⟩ := run_clear_ln wr g (i * 35) (jj - i) (c - i) C (by omega) c1 (by have := Hcc.out; rw [c2, Nat.sub_mul]; omega)
        have hsz : i * 35 + Z.length ≤ C.size := by have := Hcc.out; rw [c2, hZ, Nat.sub_mul]; omega
        have e9 : aliveL (l.take jj) = aliveL l := by rw [List.take_of_length_le (by have := Hm.out; omega)]
        have hie := HIe.out
        rw [e9] at hie c3
        have hc := (Chg.refl [g] wr).setCells (g := g) (by simp) Z (i * 35)
        have HF : Hid (DelQ base w l (.returned (.slice (some ⟨g, 0, none⟩) i c)) (wr.setCells g (i * 35) Z)) := by
          refine ⟨_, rfl, ?_, hc.below hI.out.2.1 (Nat.le_trans Hwl.out hI.out.2.2.2) (fun k hk => by rw [List.mem_singleton.1 hk]; exact Hgb.out)⟩
          unfold OwnLn
          rw [← hie] at c3 ⊢
          refine ⟨by rw [flatLn_len, ← hie], .inr ⟨g, c, _, rfl, Hgb.out, heap_setCells Z (i * 35) wr C c1 hsz, by have := Hcc.out; omega, Hgm.out, ?_, ?_⟩⟩
          · simp only [splice, List.size_toArray, List.length_append, List.length_take, List.length_drop, Array.length_toList]
            omega
          · have hl1 : (List.take (i * 35) C.toList).length = i * 35 := by rw [List.length_take, Array.length_toList]; omega
            show List.take (i * 35) (splice C.toList (i * 35) Z) = _
            unfold splice
            rw [List.take_left' hl1]
            exact c3
        clear hI c1 c2 c3 c4 hZ hsz e9 hie hc HIe
        go_wp2
        go_ret
        exact HF.out
end Go.Proofs.YtnjeppmpnaemlaaDoor.Grf
