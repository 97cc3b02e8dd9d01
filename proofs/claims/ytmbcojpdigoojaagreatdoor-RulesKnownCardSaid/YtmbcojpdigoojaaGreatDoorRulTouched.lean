/- DERIVED. The contract of rules.Touched: the labels that a prefix touches. -/
import Derived.Test.YtmbcojpdigoojaaGreatDoorRulFind
import Derived.Test.YtmbcojpdigoojaaGreatDoorLabSorted
import Derived.Test.YtmbcojpdigoojaaGreatDoorOwn2
namespace Go.Proofs.YtmbcojpdigoojaaGreatDoor.Rul
open Go.RowKit Lab
def coveredL (s : ByteArray) (rs : List Rl) : List (Int × Nat) := (rs.filter fun r => cov s r.p).map fun r => (r.a, r.c)
theorem coveredL_snoc (s : ByteArray) (rs : List Rl) (r : Rl) : coveredL s (rs ++ [r]) = if cov s r.p = true then coveredL s rs ++ [(r.a, r.c)] else coveredL s rs := by
  unfold coveredL
  rw [List.filter_append]
  by_cases h : cov s r.p = true
  · simp [h]
  · simp [h]
theorem coveredL_len (s : ByteArray) (rs : List Rl) : (coveredL s rs).length ≤ rs.length := by
  unfold coveredL
  rw [List.length_map]
  exact List.length_filter_le _ _
theorem touchF_eq (s : ByteArray) (rs : List Rl) : touchF s rs = find s rs :: coveredL s rs := rfl
attribute [irreducible] coveredL
theorem own_one {w : World} {x : Int × Nat} : OwnL w.heap.size [x] (.slice (some ⟨w.heap.size, 0, none⟩) 1 1) (w.alloc (.cells (lab x.1 x.2) 34)) := by
  refine ⟨by simp [flatP], .inr ⟨w.heap.size, 1, lab x.1 x.2, rfl, Nat.le_refl _, Go.heap_alloc_new w _, Nat.le_refl _, by unfold maxLen; omega, rfl, ?_⟩⟩
  simp [flatP]
set_option maxRecDepth 100000 in
set_option maxHeartbeats 2000000 in
theorem touched_any (v : Int) (A : Option Addr) (n c : Nat) (rs : List Rl) (s : ByteArray) (wb w : World) (hn : rs.length = n) (hR : Ruls wb A c rs) (hwb : Below wb.heap.size wb w) (hL : Pth.Laid w) (hz : ∀ r ∈ rs, r.p.size ≤ 1000) (hs : s.size ≤ 1000) (hn9 : n ≤ 1000) :
    Calls Tryz.prog 13 #[.agg (tabV v A n c), .string s] w fun e w' => ∃ u, e = .returned u ∧ OwnL w.heap.size (refL (touchF s rs)) u w' ∧ Below w.heap.size w w' := by
  have Hn := Lib.hid hn
  have HR := Lib.hid hR
  have Hwb := Lib.hid hwb
  have HL := Lib.hid hL
  have Hz := Lib.hid hz
  obtain ⟨q, hq⟩ : ∃ q, q = find s rs := ⟨_, rfl⟩
  have htf : touchF s rs = q :: coveredL s rs := by rw [touchF_eq, hq]
  rw [htf]
  have Hq := Lib.hid hq
  have h1 := Go.heap_alloc_new w (.cells (tabV v A n c) 24)
  have k1 : Below w.heap.size w (w.alloc (.cells (tabV v A n c) 24)) := (Below.refl _ _).alloc (Nat.le_refl _) _
  obtain ⟨W1, hW1⟩ : ∃ W1, W1 = w.alloc (.cells (tabV v A n c) 24) := ⟨_, rfl⟩
  rw [← hW1] at h1 k1
  have s1 : W1.heap.size = w.heap.size + 1 := by rw [hW1, World.size_alloc]
  have HW1 : Hid (w.alloc (.cells (tabV v A n c) 24) = W1) := hW1.symm
  have H1 := Lib.hid h1
  have K1 := Lib.hid k1
  have S1 := Lib.hid s1
  clear hn hR hwb hL hz hq htf h1 k1 hW1 s1
  go_enter Tryz.func13, Tryz.ntmps13
  go_upto_region 1 with fail
  rw [HW1.out]
  go_upto_region 2 with (first
    | (refine wpList_load_row rfl 24 (.tmp 2) rfl w.heap.size rfl 24 (tabV v A n c) (0, 0) _ H1.out Tryz.underlying24 rfl infoT ?_)
    | (go_at_call 10; refine (find_any v A n c rs s wb W1 Hn.out HR.out (Hwb.out.trans (K1.out.mono Hwb.out.size)) (HL.out.below K1.out (Nat.le_refl _)) Hz.out hs (by omega)).mono ?_; rintro e w2 ⟨rfl, low2⟩; rw [← Hq.out]; have Low2 := Lib.hid low2; clear low2))
  obtain ⟨w3, hw3⟩ : ∃ w3, w3 = w2.alloc (.cells (lab q.1 q.2) 34) := ⟨_, rfl⟩
  have own3 : OwnL w2.heap.size ([q] ++ coveredL s (rs.take 0)) (.slice (some ⟨w2.heap.size, 0, none⟩) 1 1) w3 := by
    rw [hw3, List.take_zero, show coveredL s [] = [] by unfold coveredL; rfl]; exact own_one
  have low3 : Below W1.heap.size W1 w3 := by rw [hw3]; exact Low2.out.alloc Low2.out.size _
  have hsz3 : w2.heap.size ≤ w3.heap.size := by rw [hw3, World.size_alloc]; omega
  rw [← hw3]
  have hlim : W1.heap.size ≤ w2.heap.size := Low2.out.size
  have Own3 := Lib.hid own3
  have Low3 := Lib.hid low3
  have Hsz3 := Lib.hid hsz3
  have Hlim := Lib.hid hlim
  have c1 : w3.cell? ⟨w.heap.size, 1, none⟩ = some (.slice A n c) := (low3.cell (p := ⟨w.heap.size, 1, none⟩) (by rw [S1.out]; exact Nat.lt_succ_self _)).trans (cell_row H1.out 1)
  clear own3 low3 hsz3 hlim hw3
  generalize w2.heap.size = B at *
  go_wp2
  go_loopw [5, 15] (fun u i wr => ∃ k : Nat, k ≤ n ∧ i = .int .i64 k ∧ Hid (OwnL B ([q] ++ coveredL s (rs.take k)) u wr ∧ Below W1.heap.size W1 wr ∧ B ≤ wr.heap.size)) (fun _ i _ => n - (intOf i).toNat)
  case atStart => exact ⟨0, by omega, rfl, Own3.out, Low3.out, Hsz3.out⟩
  case round =>
    obtain ⟨k, hk, rfl, hI⟩ := hrel
    clear c1 Own3 Low3
    by_cases hlt : k < n
    · have hltI : (k : Int) < n := by omega
      obtain ⟨r, hr⟩ : ∃ r, rs[k]? = some r := ⟨_, List.getElem?_eq_getElem (by have := Hn.out; omega)⟩
      have hrp := Hz.out r (List.mem_of_getElem? hr)
      have hstep : coveredL s (rs.take (k + 1)) = if cov s r.p = true then coveredL s (rs.take k) ++ [(r.a, r.c)] else coveredL s (rs.take k) := by rw [List.take_add_one, hr]; exact coveredL_snoc s _ r
      obtain ⟨b, off, hA, hb, hrange⟩ := HR.out.at hr
      have hlow : Below wb.heap.size wb wr := Hwb.out.trans ((K1.out.trans (hI.out.2.1.mono K1.out.size)).mono Hwb.out.size)
      have Hr : Hid (wr.rangeAt b (off + k * 3) (rlc r).toList) := fun j u hu => (hlow.cell (p := ⟨b, off + k * 3 + j, none⟩) hb).trans (hrange j u hu)
      have hcap1 : n ≤ c := by have := HR.out.1; have := Hn.out; omega
      have hlen : (coveredL s (rs.take k)).length ≤ 1000 := by have := coveredL_len s (rs.take k); rw [List.length_take] at this; omega
      have Hstep := Lib.hid hstep
      have Hlen := Lib.hid hlen
      subst hA
      clear hr hstep hrange hlow hb hlen
      go_upto_region 5 with (first
        | (with_reducible refine wpList_load_mid rfl 48 (.tmp 17) rfl b (off + k * 3) rfl (rlc r).toList _ Hr.out Tryz.underlying48 rfl infoR2 ?_)
        | (refine wpList_store_row rfl 48 (.tmp 7) (.tmp 18) rfl wr.heap.size (rlc r) rfl rfl 48 _ (Go.heap_alloc_new wr _) infoR rfl (rlc_one _) ?_; rw [World.setRow_alloc_new]))
      obtain ⟨w4, hw4⟩ : ∃ w4, w4 = wr.alloc (.cells (rlc r) 48) := ⟨_, rfl⟩
      have h4 : w4.heap[wr.heap.size]? = some (.cells (rlc r) 48 (0, 0)) := by rw [hw4]; exact Go.heap_alloc_new wr _
      have l4 : Below wr.heap.size wr w4 := by rw [hw4]; exact (Below.refl _ _).alloc (Nat.le_refl _) _
      rw [← hw4]
      clear hw4
      obtain ⟨bx, hbx⟩ : ∃ bx, bx = wr.heap.size := ⟨_, rfl⟩
      rw [← hbx] at h4 ⊢
      have hbB : B ≤ bx := by rw [hbx]; exact hI.out.2.2
      have own4 : OwnL B ([q] ++ coveredL s (rs.take k)) u5 w4 := own_stays hI.out.1 l4
      have low4 : Below W1.heap.size W1 w4 := hI.out.2.1.trans (l4.mono hI.out.2.1.size)
      have hoff : ∀ g, u5.ownBlock = some g → g < bx := fun g hg => by rw [hbx]; exact (World.ownsRow.lt hI.out.1 g hg).2
      have cS := (rule_row h4).1
      have Own4 := Lib.hid own4
      have Low4 := Lib.hid low4
      have Hoff := Lib.hid hoff
      have H4 := Lib.hid h4
      have HL4 := Lib.hid (HL.out.below (K1.out.trans (low4.mono K1.out.size)) (Nat.le_refl _))
      clear h4 l4 hbx own4 low4 hoff hI Hr
      have HC := Lib.hid (covers_any s r.p w4 HL4.out hs (by omega))
      cases hcv : cov s r.p with
      | true =>
        have hc := HC.out
        rw [hcv] at hc
        have HC2 := Lib.hid hc
        have hs2 : [q] ++ coveredL s (rs.take (k + 1)) = ([q] ++ coveredL s (rs.take k)) ++ [(r.a, r.c)] := by rw [Hstep.out, if_pos hcv, List.append_assoc]
        have Hs2 := Lib.hid hs2
        clear hc hs2 HC hcv Hstep
        go_upto_region 6 with (go_at_call 25; refine HC2.out.mono ?_; rintro e w5 ⟨rfl, low5⟩; have Own5 : Hid (OwnL B ([q] ++ coveredL s (rs.take k)) u5 w5) := own_stays Own4.out low5; have Low5 := Lib.hid (Low4.out.trans (low5.mono Low4.out.size)); have H5 := Lib.hid ((low5.block _ (Array.getElem?_eq_some_iff.1 H4.out).1).trans H4.out); have Hb5 := Lib.hid (Nat.lt_of_lt_of_le (Array.getElem?_eq_some_iff.1 H4.out).1 low5.size); clear low5)
        have hlb := (rule_row H5.out).2
        have Hlb := Lib.hid hlb
        have hlen2 : ([q] ++ coveredL s (rs.take k)).length ≤ 100000 := by have := Hlen.out; simp; omega
        have Hlen2 := Lib.hid hlen2
        clear hlb hlen2 cS
        go_wp2_with (first
          | (with_reducible refine wpList_load_mid rfl 34 (.tmp 24) rfl bx 1 rfl (lab r.a r.c).toList _ Hlb.out Tryz.underlying34 rfl infoL2 ?_)
          | (at_builtin; refine wpList_append_lab rfl (.tmp 23) (.tmp 26) rfl B u5 ([q] ++ coveredL s (rs.take k)) (r.a, r.c) rfl (own_stays Own5.out ((Below.refl _ _).alloc (Nat.le_refl _) _)) w5.heap.size rfl (Go.heap_alloc_new w5 _) Hlen2.out (by have := Hb5.out; rw [World.size_alloc]; omega) ?_; intro u6 w6 hown6 hgrow6; have Own6 := Lib.hid hown6; have Low6 := Lib.hid ((Low5.out.alloc Low5.out.size (.cells (lab r.a r.c) 34)).grown hgrow6 (by have := Low5.out.size; rw [World.size_alloc]; omega) (fun g hg => Nat.le_trans Hlim.out (World.ownsRow.lt Own5.out g hg).1)); have Hs6 := Lib.hid hgrow6.size; clear hown6 hgrow6))
        go_roundw
        case rel => exact ⟨k + 1, by omega, by go_num, by rw [Hs2.out]; exact ⟨Own6.out, Low6.out, by have h1 := Hb5.out; have h2 := Hs6.out; rw [World.size_alloc] at h2; omega⟩⟩
        case measure => simp [intOf]; omega
      | false =>
        have hc := HC.out
        rw [hcv] at hc
        have HC2 := Lib.hid hc
        have hs2 : [q] ++ coveredL s (rs.take (k + 1)) = [q] ++ coveredL s (rs.take k) := by rw [Hstep.out, if_neg (by rw [hcv]; exact Bool.false_ne_true)]
        have Hs2 := Lib.hid hs2
        clear hc hs2 HC hcv Hstep
        go_wp2_with (go_at_call 25; refine HC2.out.mono ?_; rintro e w5 ⟨rfl, low5⟩; have Own5 : Hid (OwnL B ([q] ++ coveredL s (rs.take k)) u5 w5) := own_stays Own4.out low5; have Low5 := Lib.hid (Low4.out.trans (low5.mono Low4.out.size)); have Hb5 := Lib.hid (Nat.lt_of_lt_of_le (Array.getElem?_eq_some_iff.1 H4.out).1 low5.size); clear low5)
        go_roundw
        case rel => exact ⟨k + 1, by omega, by go_num, by rw [Hs2.out]; exact ⟨Own5.out, Low5.out, by have := Hb5.out; omega⟩⟩
        case measure => simp [intOf]; omega
    · have hge : ¬ (k : Int) < n := by omega
      have ek : k = n := by omega
      have own := hI.out.1
      rw [ek, List.take_of_length_le (Nat.le_of_eq Hn.out)] at own
      obtain ⟨A2, c2, rfl, hlabs⟩ := OwnL.labs own
      have hlen : ([q] ++ coveredL s rs).length ≤ 100000 := by have := coveredL_len s rs; simp; have := Hn.out; omega
      have hA2 : A2 = none ∨ ∃ b off, A2 = some ⟨b, off, none⟩ := by
        obtain ⟨b, off, h, _⟩ := hlabs.2.2 (by simp)
        exact .inr ⟨b, off, h⟩
      have HS := Lib.hid (sorted_any A2 _ c2 _ rfl hlen wr hlabs hA2)
      have Low9 := Lib.hid (K1.out.trans (hI.out.2.1.mono K1.out.size))
      clear own hI ek hk hlt hlabs hA2 hlen
      go_wp2_with (go_at_call 27; refine HS.out.mono ?_; rintro e w9 ⟨u9, rfl, own9, low9⟩; have Own9 := Lib.hid own9; have Low10 := Lib.hid (Low9.out.trans (low9.mono Low9.out.size)); clear own9 low9)
      go_ret
      exact ⟨_, rfl, own_lower Own9.out Low9.out.size, Low10.out⟩
end Go.Proofs.YtmbcojpdigoojaaGreatDoor.Rul
