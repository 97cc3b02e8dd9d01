/- DERIVED. Texts of ours, merged: XRefFind XOwn2 XRulCov XLabOrder XLabSame XLabAppL. -/
import Derived.Test.YtpkolmmahoopcaaGreatDoorMrf5
import Derived.Test.YtpkolmmahoopcaaGreatDoorMrf8
import Derived.Test.YtpkolmmahoopcaaGreatDoorMrf7
import Derived.Sort.Grow
import Derived.Laws.AppendOwnNone
/- DERIVED. The reference's Over and Find of layer 7. -/
namespace Go.Proofs.YtpkolmmahoopcaaGreatDoor.Rul
open Go.RowKit Lab
attribute [local go_sem ↓ high] loadAtLb
set_option maxHeartbeats 1000000 in
theorem rover_any (p s : ByteArray) (w : World) (hp : p.size ≤ 1000) (hs : s.size ≤ 1000) :
    Calls Tryz.prog 24 #[.string p, .string s] w fun e w' => e = .returned (.bool (cov p s)) ∧ Below w.heap.size w w' := by
  by_cases he : p = s
  · subst he
    have hr : cov p p = true := cov_refl p
    rw [hr]
    clear hr
    go_enter Tryz.func24, Tryz.ntmps24
    go_wp2
    go_ret
    exact ⟨rfl, Below.refl _ _⟩
  · have hne := Pth.ne_lists (a := p) (b := s) (fun h => he (bl_inj h))
    have hr : cov p s = Pth.undB p s := by unfold cov; rw [decide_eq_false (fun h => he (bl_inj h)), Bool.false_or]; rfl
    rw [hr]
    have HU := Lib.hid (Pth.runder_any p s w hp hs)
    clear hr he
    go_enter Tryz.func24, Tryz.ntmps24
    go_wp2_with (go_at_call 37; refine HU.out.mono ?_; rintro e w' ⟨rfl, hb⟩)
    go_ret
    exact ⟨rfl, hb⟩
/-- what is found, by lengths: none longer than n covers. -/
def LongN (s : ByteArray) (rs : List Rl) (n : Nat) : Prop := ∀ (i : Nat) (r : Rl), rs[i]? = some r → cov r.p s = true → r.p.size < n
def FirstK (s : ByteArray) (rs : List Rl) (n k : Nat) : Prop := ∀ (i : Nat) (r : Rl), i < k → rs[i]? = some r → cov r.p s = true → r.p.size ≠ n
theorem LongN.top (s : ByteArray) (rs : List Rl) : LongN s rs (s.size + 1) := fun i r _ hc => by have := (cov_le hc).1; omega
theorem FirstK.zero (s : ByteArray) (rs : List Rl) (n : Nat) : FirstK s rs n 0 := fun _ _ h => absurd h (Nat.not_lt_zero _)
theorem FirstK.next {s : ByteArray} {rs : List Rl} {n k : Nat} {r : Rl} (h : FirstK s rs n k) (hr : rs[k]? = some r) (hn : cov r.p s = true → r.p.size ≠ n) : FirstK s rs n (k + 1) := by
  intro i x hi hx hc
  by_cases e : i < k
  · exact h i x e hx hc
  · obtain rfl : i = k := by omega
    rw [hr] at hx
    obtain rfl := Option.some.inj hx
    exact hn hc
theorem LongN.down {s : ByteArray} {rs : List Rl} {n : Nat} (h : LongN s rs (n + 1)) (k : FirstK s rs n rs.length) : LongN s rs n := by
  intro i r hr hc
  have h1 := h i r hr hc
  have h2 := k i r (List.getElem?_eq_some_iff.1 hr).1 hr hc
  omega
theorem find_none {s : ByteArray} {rs : List Rl} (h : LongN s rs 0) : find s rs = (0, 0) := by
  unfold find
  rcases best_all s rs with ⟨e, _⟩ | ⟨i, r, hi, hc, _, _⟩
  · rw [e]
  · exact absurd (h i r hi hc) (Nat.not_lt_zero _)
theorem find_at {s : ByteArray} {rs : List Rl} {n k : Nat} {r : Rl} (h : LongN s rs (n + 1)) (hf : FirstK s rs n k) (hr : rs[k]? = some r) (hc : cov r.p s = true) (hn : r.p.size = n) : find s rs = (r.a, r.c) := by
  unfold find
  rcases best_all s rs with ⟨_, hno⟩ | ⟨i, q, hi, hcq, e, hm⟩
  · rw [hno k r hr] at hc; cases hc
  · have h1 := hm k r hr hc
    have h2 := h i q hi hcq
    have h3 : q.p.size = n := by omega
    have h4 : i ≤ k := h1.2 (by omega)
    have h5 : ¬ i < k := fun hlt => hf i q hlt hi hcq h3
    obtain rfl : i = k := by omega
    rw [hr] at hi
    obtain rfl := Option.some.inj hi
    rw [e]
set_option maxRecDepth 100000 in
set_option maxHeartbeats 4000000 in
theorem rfind_any (v : Int) (A : Option Addr) (n c : Nat) (rs : List Rl) (s : ByteArray) (wb w : World) (hn : rs.length = n) (hR : Ruls wb A c rs) (hwb : Below wb.heap.size wb w) (hz : ∀ r ∈ rs, r.p.size ≤ 1000) (hs : s.size ≤ 1000) (hn9 : n ≤ 1000) :
    Calls Tryz.prog 10 #[.agg (tabV v A n c), .string s] w fun e w' => e = .returned (.agg (lab (find s rs).1 (find s rs).2)) ∧ Below w.heap.size w w' := by
  obtain ⟨q, hq⟩ : ∃ q, q = find s rs := ⟨_, rfl⟩
  rw [← hq]
  have Hq := Lib.hid hq
  have Hn := Lib.hid hn
  have HR := Lib.hid hR
  have Hwb := Lib.hid hwb
  have Hz := Lib.hid hz
  have h2 := two_new w (.cells (tabV v A n c) 30) (.cells (lab 0 0) 34)
  have k2 : Below w.heap.size w ((w.alloc (.cells (tabV v A n c) 30)).alloc (.cells (lab 0 0) 34)) := ((Below.refl _ _).alloc (Nat.le_refl _) _).alloc (by rw [World.size_alloc]; omega) _
  obtain ⟨W2, hW2⟩ : ∃ W2, W2 = (w.alloc (.cells (tabV v A n c) 30)).alloc (.cells (lab 0 0) 34) := ⟨_, rfl⟩
  rw [← hW2] at h2 k2
  have s2 : W2.heap.size = w.heap.size + 2 := by rw [hW2, World.size_alloc, World.size_alloc]
  have HW2 : Hid ((w.alloc (.cells (tabV v A n c) 30)).alloc (.cells #[.int .i64 0, .int .u64 0] 34) = W2) := by show _ = _; rw [hW2]; rfl
  have C1 : Hid (W2.cell? ⟨w.heap.size, 1, none⟩ = some (.slice A n c)) := cell_row h2.1 1
  have HB := Lib.hid h2.2
  have K2 := Lib.hid k2
  have S2 := Lib.hid s2
  have HT := Lib.hid (LongN.top s rs)
  clear hq hn hR hwb hz h2 k2 hW2 s2
  go_enter Tryz.func10, Tryz.ntmps10
  go_upto_region 1 with fail
  rw [HW2.out]
  clear HW2
  go_wp2
  go_loopw [5] (fun i wr => ∃ m : Nat, m ≤ s.size + 1 ∧ i = .int .i64 ((m : Int) - 1) ∧ Hid (LongN s rs m) ∧ Hid (Below W2.heap.size W2 wr)) (fun i _ => (intOf i + 1).toNat)
  case atStart => exact ⟨s.size + 1, Nat.le_refl _, by congr 1; omega, HT.out, Below.refl _ _⟩
  case round =>
    obtain ⟨m, hm, rfl, hL, hlow⟩ := hrel
    clear HT
    by_cases hm0 : m = 0
    · subst hm0
      have hge : ¬ ((0 : Nat) : Int) - 1 ≥ 0 := by omega
      have He : Hid (q = (0, 0)) := by show _ = _; rw [Hq.out]; exact find_none hL.out
      have HB2 : Hid (wr.heap[w.heap.size + 1]? = some (.cells (lab 0 0) 34 (0, 0))) := (hlow.out.block _ (by have := S2.out; omega)).trans HB.out
      have HLX := Lib.hid (K2.out.trans (hlow.out.mono K2.out.size))
      clear hL hlow
      go_upto_region 9 with fail
      go_wp2_with (refine wpList_store_row rfl 34 (.tmp 4) (.tmp 45) rfl (w.heap.size + 1) (lab 0 0) rfl rfl 34 _ HB2.out infoL rfl (lab_one _ _) ?_)
      exact bodyPost_ret (v := .agg (lab 0 0)) (results_cell_row rfl _ _ (w.heap.size + 1) 34 _ (0, 0) _ rfl (setRow_at HB2.out) Tryz.underlying34 rfl infoL) rfl ⟨by rw [He.out], Lab.below_setRow HLX.out (by omega) _⟩
    · obtain ⟨z, rfl⟩ : ∃ z, m = z + 1 := ⟨m - 1, by omega⟩
      have ez : ((z + 1 : Nat) : Int) - 1 = (z : Int) := by omega
      rw [ez]
      clear ez hm0
      go_wp2
      go_loopw [6] (fun i wr2 => ∃ k : Nat, k ≤ n ∧ i = .int .i64 k ∧ Hid (FirstK s rs z k) ∧ Hid (Below W2.heap.size W2 wr2)) (fun i _ => n - (intOf i).toNat)
      case atStart => exact ⟨0, Nat.zero_le _, rfl, FirstK.zero _ _ _, hlow.out⟩
      case round =>
        obtain ⟨k, hk, rfl, hF, hli⟩ := hrel
        clear hlow
        by_cases hlt : k < n
        · have hltI : (k : Int) < n := by omega
          obtain ⟨r, hr⟩ : ∃ r, rs[k]? = some r := ⟨_, List.getElem?_eq_getElem (by have := Hn.out; omega)⟩
          have hrp := Hz.out r (List.mem_of_getElem? hr)
          obtain ⟨b, off, hA, hb, hrange⟩ := HR.out.at hr
          have low := K2.out.trans (hli.out.mono K2.out.size)
          have hwr := Hwb.out.trans (low.mono Hwb.out.size)
          have Hr : Hid (wr.rangeAt b (off + k * 3) (rlc r).toList) := fun j u hu => (hwr.cell (p := ⟨b, off + k * 3 + j, none⟩) hb).trans (hrange j u hu)
          have hcap1 : n ≤ c := by have := HR.out.1; have := Hn.out; omega
          have c1 : wr.cell? ⟨w.heap.size, 1, none⟩ = some (.slice A n c) := (hli.out.cell (p := ⟨w.heap.size, 1, none⟩) (by have := S2.out; show w.heap.size < _; omega)).trans C1.out
          have cp : wr.cell? ⟨b, off + k * 3, none⟩ = some (.string r.p) := Hr.out 0 _ rfl
          have Hrk := Lib.hid hr
          have Hb := Lib.hid hb
          subst hA
          clear hr hrange low hwr hb
          by_cases hsz : r.p.size = z
          · have hszI : (r.p.size : Int) = (z : Int) := by omega
            have HC := Lib.hid (fun W => rover_any r.p s W (by omega) hs)
            cases hcv : cov r.p s with
            | true =>
              have hc := HC.out
              rw [hcv] at hc
              have HC2 := Lib.hid hc
              have Hq2 : Hid (q = (r.a, r.c)) := by show _ = _; rw [Hq.out]; exact find_at hL.out hF.out Hrk.out hcv hsz
              clear hc HC hcv
              go_upto_region 8 with (go_at_call 24; refine (HC2.out _).mono ?_; rintro e w5 ⟨rfl, low5⟩; have Low5 := Lib.hid low5; clear low5)
              have d1 : w5.cell? ⟨w.heap.size, 1, none⟩ = some (.slice (some ⟨b, off, none⟩) n c) := (Low5.out.cell (p := ⟨w.heap.size, 1, none⟩) (World.block_lt_of_cell? _ _ c1)).trans c1
              have HLb : Hid (w5.rangeAt b (off + k * 3 + 1) (lab r.a r.c).toList) := fun j v hv => by
                have hj : j < 2 := by have := (List.getElem?_eq_some_iff.1 hv).1; simpa using this
                have hh : (rlc r).toList[1 + j]? = some v := by
                  rcases (show j = 0 ∨ j = 1 by omega) with rfl | rfl <;> exact hv
                have h9 := Hr.out (1 + j) v hh
                rw [show off + k * 3 + 1 + j = off + k * 3 + (1 + j) by omega]
                exact (Low5.out.cell (p := ⟨b, off + k * 3 + (1 + j), none⟩) (World.block_lt_of_cell? _ _ h9)).trans h9
              have low9 := hli.out.trans (Low5.out.mono hli.out.size)
              have HB2 : Hid (w5.heap[w.heap.size + 1]? = some (.cells (lab 0 0) 34 (0, 0))) := (low9.block _ (by have := S2.out; omega)).trans HB.out
              have HLX := Lib.hid (K2.out.trans (low9.mono K2.out.size))
              clear c1 cp low9 Low5 Hr
              go_wp2_with (first
                | (with_reducible refine wpList_load_mid rfl 34 (.tmp 43) rfl b (off + k * 3 + 1) rfl (lab r.a r.c).toList _ HLb.out Tryz.underlying34 rfl infoL2 ?_)
                | (refine wpList_store_row rfl 34 (.tmp 4) (.tmp 44) rfl (w.heap.size + 1) (lab r.a r.c) rfl rfl 34 _ HB2.out infoL rfl (lab_one _ _) ?_))
              exact bodyPost_ret (v := .agg (lab r.a r.c)) (results_cell_row rfl _ _ (w.heap.size + 1) 34 _ (0, 0) _ rfl (setRow_at HB2.out) Tryz.underlying34 rfl infoL) rfl ⟨by rw [Hq2.out], Lab.below_setRow HLX.out (by omega) _⟩
            | false =>
              have hc := HC.out
              rw [hcv] at hc
              have HC2 := Lib.hid hc
              have HF2 : Hid (FirstK s rs z (k + 1)) := hF.out.next Hrk.out (fun h => by rw [hcv] at h; cases h)
              clear hc HC hcv
              go_wp2_with (go_at_call 24; refine (HC2.out _).mono ?_; rintro e w5 ⟨rfl, low5⟩; have Low5 := Lib.hid (hli.out.trans (low5.mono hli.out.size)); clear low5)
              go_roundw
              case rel => exact ⟨k + 1, by omega, by go_num, HF2.out, Low5.out⟩
              case measure => simp [intOf]; omega
          · have hszI : ¬ (r.p.size : Int) = (z : Int) := by omega
            have HF2 : Hid (FirstK s rs z (k + 1)) := hF.out.next Hrk.out (fun _ => hsz)
            clear hsz
            go_wp2
            go_roundw
            case rel => exact ⟨k + 1, by omega, by go_num, HF2.out, hli.out⟩
            case measure => simp [intOf]; omega
        · have hge : ¬ (k : Int) < n := by omega
          have c1 : wr.cell? ⟨w.heap.size, 1, none⟩ = some (.slice A n c) := (hli.out.cell (p := ⟨w.heap.size, 1, none⟩) (by have := S2.out; show w.heap.size < _; omega)).trans C1.out
          have ek : k = rs.length := by have := Hn.out; omega
          have HL2 : Hid (LongN s rs z) := hL.out.down (by have h := hF.out; rwa [ek] at h)
          clear ek
          go_wp2
          go_roundw
          case rel => exact ⟨z, by omega, by go_num, HL2.out, hli.out⟩
          case measure => simp [intOf]
end Go.Proofs.YtpkolmmahoopcaaGreatDoor.Rul
/- DERIVED. A row of the call's own, empty or not, as bytes. No program. -/
namespace Go.Proofs.YtpkolmmahoopcaaGreatDoor
open Go.RowKit
/-- a row of the call's own, empty or not, as bytes. -/
theorem own_bytK {w : World} {base n : Nat} {t : TypeId} {v : Value} {L : List Int} (h : w.ownsRow base t 1 v n (valsK .u8 L)) (hl : L.length = n) : ∃ A c, v = .slice A n c ∧ Byt w A c L := by
  by_cases h0 : 0 < n
  · obtain ⟨g, c, hv, hc, _, hr⟩ := own_rowK h hl h0
    exact ⟨_, c, hv, by omega, (fun h => by cases h), fun _ => ⟨g, 0, rfl, hr.1, fun j hj => by rw [Nat.zero_add]; exact hr.2 j hj⟩⟩
  · obtain rfl : n = 0 := by omega
    obtain rfl : L = [] := List.eq_nil_of_length_eq_zero hl
    obtain ⟨_, h⟩ := h
    rcases h with ⟨h, _⟩ | ⟨g, cap, cur, hv, _⟩
    · exact ⟨none, 0, h, Nat.le_refl _, fun _ => rfl, fun h => absurd h (Nat.lt_irrefl 0)⟩
    · exact ⟨_, cap, hv, Nat.zero_le _, (fun h => by cases h), fun h => absurd h (Nat.lt_irrefl 0)⟩
theorem own_lower {w : World} {base b s n : Nat} {t : TypeId} {v : Value} {L : List Value} (h : w.ownsRow base t s v n L) (hb : b ≤ base) : w.ownsRow b t s v n L := by
  obtain ⟨h1, h⟩ := h
  refine ⟨h1, ?_⟩
  rcases h with h | ⟨g, cap, cur, h1, h2, h3⟩
  · exact .inl h
  · exact .inr ⟨g, cap, cur, h1, by omega, h3⟩
end Go.Proofs.YtpkolmmahoopcaaGreatDoor
/- DERIVED. The labels that a prefix covers, in the order in which they come up. -/
namespace Go.Proofs.YtpkolmmahoopcaaGreatDoor.Rul
open Go.RowKit Lab
def coveredL (s : ByteArray) (rs : List Rl) : List (Int × Nat) := (rs.filter fun r => cov s r.p).map fun r => (r.a, r.c)
theorem coveredL_snoc (s : ByteArray) (rs : List Rl) (r : Rl) : coveredL s (rs ++ [r]) = if cov s r.p = true then coveredL s rs ++ [(r.a, r.c)] else coveredL s rs := by
  unfold coveredL
  rw [List.filter_append]
  by_cases h : cov s r.p = true
  · simp [h]
  · simp [h]
theorem coveredL_len (s : ByteArray) (rs : List Rl) : (coveredL s rs).length ≤ rs.length := by
  unfold coveredL
  rw [List.length_map]
  exact List.length_filter_le _ _
theorem touchF_eq (s : ByteArray) (rs : List Rl) : touchF s rs = find s rs :: coveredL s rs := rfl
attribute [irreducible] coveredL
theorem own_one {w : World} {x : Int × Nat} : OwnL w.heap.size [x] (.slice (some ⟨w.heap.size, 0, none⟩) 1 1) (w.alloc (.cells (lab x.1 x.2) 34)) := by
  refine ⟨by simp [flatP], .inr ⟨w.heap.size, 1, lab x.1 x.2, rfl, Nat.le_refl _, Go.heap_alloc_new w _, Nat.le_refl _, by unfold maxLen; omega, rfl, ?_⟩⟩
  simp [flatP]
end Go.Proofs.YtpkolmmahoopcaaGreatDoor.Rul
/- DERIVED. label.Order leaves two boxes and no more: what slices.SortFunc asks of it; slices of labels compared. -/
namespace Go.Proofs.YtpkolmmahoopcaaGreatDoor.Lab
open Go.RowKit Str
set_option maxHeartbeats 4000000 in
theorem order_world (a b : Int) (c d : Nat) (w : World) :
    Calls Tryz.prog 40 #[.agg (lab a c), .agg (lab b d)] w fun e w' => e = .returned (.int .i64 (ordL a c b d)) ∧ (w.alloc (.cells (lab a c) 34)).alloc (.cells (lab b d) 34) = w' := by
  by_cases h1 : a < b
  · have h1n : ¬ a = b := by omega
    have Hc : Hid (ordL a c b d = -1) := by show ordL a c b d = -1; unfold ordL; repeat (first | rw [if_pos (by omega)] | rw [if_neg (by omega)])
    go_enter Tryz.func40, Tryz.ntmps40
    go_wp2
    go_ret
    exact ⟨by rw [Hc.out]; rfl, rfl⟩
  · by_cases h2 : b < a
    · have h2n : ¬ a = b := by omega
      have Hc : Hid (ordL a c b d = 1) := by show ordL a c b d = 1; unfold ordL; repeat (first | rw [if_pos (by omega)] | rw [if_neg (by omega)])
      go_enter Tryz.func40, Tryz.ntmps40
      go_wp2
      go_ret
      exact ⟨by rw [Hc.out]; rfl, rfl⟩
    · obtain rfl : a = b := by omega
      by_cases h3 : c < d
      · have h3' : (c : Int) < d := by omega
        have Hc : Hid (ordL a c a d = -1) := by show ordL a c a d = -1; unfold ordL; repeat (first | rw [if_pos (by omega)] | rw [if_neg (by omega)])
        go_enter Tryz.func40, Tryz.ntmps40
        go_wp2
        go_ret
        exact ⟨by rw [Hc.out]; rfl, rfl⟩
      · have h3' : ¬ (c : Int) < d := by omega
        by_cases h4 : d < c
        · have h4' : (d : Int) < c := by omega
          have Hc : Hid (ordL a c a d = 1) := by show ordL a c a d = 1; unfold ordL; repeat (first | rw [if_pos (by omega)] | rw [if_neg (by omega)])
          go_enter Tryz.func40, Tryz.ntmps40
          go_wp2
          go_ret
          exact ⟨by rw [Hc.out]; rfl, rfl⟩
        · have h4' : ¬ (d : Int) < c := by omega
          have Hc : Hid (ordL a c a d = 0) := by show ordL a c a d = 0; unfold ordL; repeat (first | rw [if_pos (by omega)] | rw [if_neg (by omega)])
          go_enter Tryz.func40, Tryz.ntmps40
          go_wp2
          go_ret
          exact ⟨by rw [Hc.out]; rfl, rfl⟩
end Go.Proofs.YtpkolmmahoopcaaGreatDoor.Lab
/- DERIVED. The contract of the reference's Same. Written by mksame.py. -/
namespace Go.Proofs.YtpkolmmahoopcaaGreatDoor.Lab
open Go.RowKit Str
set_option maxRecDepth 100000 in
set_option maxHeartbeats 4000000 in
theorem same_any (A B : Option Addr) (n m c d : Nat) (xs ys : List (Int × Nat)) (hn : xs.length = n) (hm : ys.length = m) (hle : n ≤ 100000) (hle2 : m ≤ 100000) (w : World) (hX : Labs w A c xs) (hY : Labs w B d ys) :
    Calls Tryz.prog 11 #[.slice A n c, .slice B m d] w fun e w' => e = .returned (.bool (decide (xs = ys))) ∧ Below w.heap.size w w' := by
  have HX := Lib.hid hX
  have HY := Lib.hid hY
  have Hn := Lib.hid hn
  have Hm := Lib.hid hm
  by_cases hmn : n = m
  · subst hmn
    have H0 : Hid (∀ j, j < 0 → xs[j]? = ys[j]?) := fun j hj => absurd hj (Nat.not_lt_zero _)
    clear hX hY hn hm
    go_enter Tryz.func11, Tryz.ntmps11
    go_wp2
    go_loopw [5] (fun i wr => ∃ k : Nat, k ≤ n ∧ i = .int .i64 (k : Nat) ∧ Hid (∀ j, j < k → xs[j]? = ys[j]?) ∧ Hid (Below w.heap.size w wr)) (fun i _ => n - (intOf i).toNat)
    case atStart => exact ⟨0, by omega, rfl, H0, Below.refl _ _⟩
    case round =>
      obtain ⟨k, hk, rfl, hI, hB⟩ := hrel
      clear H0
      by_cases hlt : k < n
      · have hlt' : (k : Int) < n := by omega
        obtain ⟨x, hx⟩ : ∃ x, xs[k]? = some x := ⟨_, List.getElem?_eq_getElem (by have := Hn.out; omega)⟩
        obtain ⟨y, hy⟩ : ∃ y, ys[k]? = some y := ⟨_, List.getElem?_eq_getElem (by have := Hm.out; omega)⟩
        obtain ⟨b, off, rfl, hb, hcell⟩ := HX.out.2.2 (by have := Hn.out; omega)
        obtain ⟨b2, off2, rfl, hb2, hcell2⟩ := HY.out.2.2 (by have := Hm.out; omega)
        have hcap1 : n ≤ c := by have := HX.out.1; have := Hn.out; omega
        have hcap2 : n ≤ d := by have := HY.out.1; have := Hm.out; omega
        have Hrx : Hid (wr.rangeAt b (off + k * 2) (lab x.1 x.2).toList) := fun j v hv => (hB.out.cell (p := ⟨b, off + k * 2 + j, none⟩) hb).trans (hcell k x hx j v hv)
        have Hry : Hid (wr.rangeAt b2 (off2 + k * 2) (lab y.1 y.2).toList) := fun j v hv => (hB.out.cell (p := ⟨b2, off2 + k * 2 + j, none⟩) hb2).trans (hcell2 k y hy j v hv)
        have Hxk := Lib.hid hx
        have Hyk := Lib.hid hy
        obtain ⟨rr, hrr⟩ : ∃ rr, (!decide (x = y)) = rr := ⟨_, rfl⟩
        have heq : ∀ W : World, (if x.1 = y.1 then (if (x.2 : Int) = (y.2 : Int) then Result.ok (Next.value (Value.bool false)) W else Result.ok (Next.value (Value.bool true)) W) else Result.ok (Next.value (Value.bool true)) W) = Result.ok (Next.value (Value.bool rr)) W := by
          intro W
          rw [← hrr]
          obtain ⟨a1, a2⟩ := x
          obtain ⟨b1, b2⟩ := y
          by_cases h1 : a1 = b1 <;> by_cases h2 : a2 = b2 <;> simp [h1, h2] <;> omega
        have Hrr := Lib.hid hrr
        clear hcell hcell2 hx hy hb hb2 hrr
        go_upto_region 6 with (fail)
        go_cut [25] (fun s25 wx => s25 = .bool rr ∧ Hid (Below wr.heap.size wr wx))
        case first =>
          have apx : apartB [17, 18, 19, 20, 21, 22, 23, 24, 25] = true := by decide
          refine wp_region_any (by kernel_rfl) ?_
          change wpAny _ _ _ _ _ _ _ (World.drew _)
          refine wpAny_inv (fun ll aa wx => Hid (ll.size = 9 ∧ Below wr.heap.size wr wx) ∧ ∃ (z : Nat → Value), Hid (aa = ⟨#[.slice (some ⟨b, off, none⟩) n c, .slice (some ⟨b2, off2, none⟩) n d, undef, undef, u4, .int .i64 ((k : Nat) : Int), .slice (some ⟨b, off, none⟩) n c, .int .i64 (n : Nat), .slice (some ⟨b2, off2, none⟩) n d, .int .i64 (n : Nat), .bool false, .int .i64 ((k : Nat) : Int), .slice (some ⟨b, off, none⟩) n c, .int .i64 (n : Nat), .bool true, u15, u16, z 17, z 18, z 19, z 20, z 21, z 22, z 23, z 24, z 25], []⟩) ∧ Holding [17, 18, 19, 20, 21, 22, 23, 24, 25] [some (.slice (some ⟨b, off, none⟩) n c), some (.int .i64 ((k : Nat) : Int)), some (.pointer (some ⟨b, off + k * 2, none⟩)), some (.agg (lab x.1 x.2)), some (.slice (some ⟨b2, off2, none⟩) n d), some (.int .i64 ((k : Nat) : Int)), some (.pointer (some ⟨b2, off2 + k * 2, none⟩)), some (.agg (lab y.1 y.2)), some (.bool rr)] ll z) ?_ (by kernel_rfl) ?_ ?_ _ _ _ _ (unlisted_none _) ?_
          · rintro ll aa wx ⟨hI, _⟩
            exact hI.out.1
          · rintro ll aa wx ⟨hI, z, ha, hz⟩ hall
            have hx := Lib.hid hI.out.2
            have e0 : z 17 = .slice (some ⟨b, off, none⟩) n c := hz 0 _ (hall 0 (by decide)) rfl
            have e1 : z 18 = .int .i64 ((k : Nat) : Int) := hz 1 _ (hall 1 (by decide)) rfl
            have e2 : z 19 = .pointer (some ⟨b, off + k * 2, none⟩) := hz 2 _ (hall 2 (by decide)) rfl
            have e3 : z 20 = .agg (lab x.1 x.2) := hz 3 _ (hall 3 (by decide)) rfl
            have e4 : z 21 = .slice (some ⟨b2, off2, none⟩) n d := hz 4 _ (hall 4 (by decide)) rfl
            have e5 : z 22 = .int .i64 ((k : Nat) : Int) := hz 5 _ (hall 5 (by decide)) rfl
            have e6 : z 23 = .pointer (some ⟨b2, off2 + k * 2, none⟩) := hz 6 _ (hall 6 (by decide)) rfl
            have e7 : z 24 = .agg (lab y.1 y.2) := hz 7 _ (hall 7 (by decide)) rfl
            have e8 : z 25 = .bool rr := hz 8 _ (hall 8 (by decide)) rfl
            clear hall hz hI 
            obtain rfl := ha.out
            clear ha
            clear apx
            have E := Lib.hid e8
            have HX2 := Lib.hid hx.out
            clear e0 e1 e2 e3 e4 e5 e6 e7 e8 hx
            rw [E.out]
            go_wp2
            go_meet
            exact ⟨rfl, HX2.out⟩
          · rintro ll aa wx i ⟨hI, z, ha, hz⟩ hi hu hw
            obtain rfl := ha.out
            have hsz := Lib.hid hI.out.1
            have hx := Lib.hid hI.out.2
            clear ha hI
            have hin : i < 9 := hi
            obtain rfl | rfl | rfl | rfl | rfl | rfl | rfl | rfl | rfl : i = 0 ∨ i = 1 ∨ i = 2 ∨ i = 3 ∨ i = 4 ∨ i = 5 ∨ i = 6 ∨ i = 7 ∨ i = 8 := by omega
            · refine wpOp_plain rfl rfl ?_
              go_simp
              exact ⟨⟨by simp [hsz.out], hx.out⟩, upd z 17 (.slice (some ⟨b, off, none⟩) n c), (by unfold Hid; simp [upd]), hz.next apx hsz.out 0 (by decide) _ (fun _ h => Option.some.inj h)⟩
            · refine wpOp_plain rfl rfl ?_
              go_simp
              exact ⟨⟨by simp [hsz.out], hx.out⟩, upd z 18 (.int .i64 ((k : Nat) : Int)), (by unfold Hid; simp [upd]), hz.next apx hsz.out 1 (by decide) _ (fun _ h => Option.some.inj h)⟩
            · have e0 : z 17 = .slice (some ⟨b, off, none⟩) n c := hz 0 _ (hw 0 (by kernel_rfl)) rfl
              have e1 : z 18 = .int .i64 ((k : Nat) : Int) := hz 1 _ (hw 1 (by kernel_rfl)) rfl
              refine wpOp_plain rfl rfl ?_
              go_simp
              exact ⟨⟨by simp [hsz.out], hx.out⟩, upd z 19 (.pointer (some ⟨b, off + k * 2, none⟩)), (by unfold Hid; simp [upd, e0, e1]), hz.next apx hsz.out 2 (by decide) _ (fun _ h => Option.some.inj h)⟩
            · have e2 : z 19 = .pointer (some ⟨b, off + k * 2, none⟩) := hz 2 _ (hw 2 (by kernel_rfl)) rfl
              have rg : wx.rangeAt b (off + k * 2) (lab x.1 x.2).toList := fun j v hv => (hx.out.cell (p := ⟨b, off + k * 2 + j, none⟩) (World.block_lt_of_cell? _ _ (Hrx.out j v hv))).trans (Hrx.out j v hv)
              refine wpOp_plain rfl rfl (wp_load_mid 34 (.tmp 19) rfl b (off + k * 2) e2 (lab x.1 x.2).toList _ rg Tryz.underlying34 rfl infoL2 ?_)
              go_simp
              exact ⟨⟨by simp [hsz.out], hx.out⟩, upd z 20 (.agg (lab x.1 x.2)), (by unfold Hid; simp [upd, e2]), hz.next apx hsz.out 3 (by decide) _ (fun _ h => Option.some.inj h)⟩
            · refine wpOp_plain rfl rfl ?_
              go_simp
              exact ⟨⟨by simp [hsz.out], hx.out⟩, upd z 21 (.slice (some ⟨b2, off2, none⟩) n d), (by unfold Hid; simp [upd]), hz.next apx hsz.out 4 (by decide) _ (fun _ h => Option.some.inj h)⟩
            · refine wpOp_plain rfl rfl ?_
              go_simp
              exact ⟨⟨by simp [hsz.out], hx.out⟩, upd z 22 (.int .i64 ((k : Nat) : Int)), (by unfold Hid; simp [upd]), hz.next apx hsz.out 5 (by decide) _ (fun _ h => Option.some.inj h)⟩
            · have e4 : z 21 = .slice (some ⟨b2, off2, none⟩) n d := hz 4 _ (hw 4 (by kernel_rfl)) rfl
              have e5 : z 22 = .int .i64 ((k : Nat) : Int) := hz 5 _ (hw 5 (by kernel_rfl)) rfl
              refine wpOp_plain rfl rfl ?_
              go_simp
              exact ⟨⟨by simp [hsz.out], hx.out⟩, upd z 23 (.pointer (some ⟨b2, off2 + k * 2, none⟩)), (by unfold Hid; simp [upd, e4, e5]), hz.next apx hsz.out 6 (by decide) _ (fun _ h => Option.some.inj h)⟩
            · have e6 : z 23 = .pointer (some ⟨b2, off2 + k * 2, none⟩) := hz 6 _ (hw 6 (by kernel_rfl)) rfl
              have rg : wx.rangeAt b2 (off2 + k * 2) (lab y.1 y.2).toList := fun j v hv => (hx.out.cell (p := ⟨b2, off2 + k * 2 + j, none⟩) (World.block_lt_of_cell? _ _ (Hry.out j v hv))).trans (Hry.out j v hv)
              refine wpOp_plain rfl rfl (wp_load_mid 34 (.tmp 23) rfl b2 (off2 + k * 2) e6 (lab y.1 y.2).toList _ rg Tryz.underlying34 rfl infoL2 ?_)
              go_simp
              exact ⟨⟨by simp [hsz.out], hx.out⟩, upd z 24 (.agg (lab y.1 y.2)), (by unfold Hid; simp [upd, e6]), hz.next apx hsz.out 7 (by decide) _ (fun _ h => Option.some.inj h)⟩
            · have e3 : z 20 = .agg (lab x.1 x.2) := hz 3 _ (hw 3 (by kernel_rfl)) rfl
              have e7 : z 24 = .agg (lab y.1 y.2) := hz 7 _ (hw 7 (by kernel_rfl)) rfl
              refine wpOp_plain rfl rfl ?_
              go_simp
              exact ⟨⟨by simp [hsz.out], hx.out⟩, upd z 25 (.bool rr), (by unfold Hid; simp [upd, e3, e7]), hz.next apx hsz.out 8 (by decide) _ (fun _ h => Option.some.inj h)⟩
          · exact ⟨⟨rfl, (Below.refl _ _).drew⟩, fun xx => (#[.slice (some ⟨b, off, none⟩) n c, .slice (some ⟨b2, off2, none⟩) n d, undef, undef, u4, .int .i64 ((k : Nat) : Int), .slice (some ⟨b, off, none⟩) n c, .int .i64 (n : Nat), .slice (some ⟨b2, off2, none⟩) n d, .int .i64 (n : Nat), .bool false, .int .i64 ((k : Nat) : Int), .slice (some ⟨b, off, none⟩) n c, .int .i64 (n : Nat), .bool true, u15, u16, u17, u18, u19, u20, u21, u22, u23, u24, u25] : Array Value).getD xx undef, rfl, Holding.start⟩
        case rest =>
          obtain ⟨rfl, hl⟩ := hcut
          have low5 := Lib.hid (hB.out.trans (hl.out.mono hB.out.size))
          clear hl heq
          cases rr with
          | true =>
            have hne : x ≠ y := by have := Hrr.out; simpa using this
            have HR : Hid (decide (xs = ys) = false) := by
              refine decide_eq_false fun e => hne ?_
              have h1 := Hxk.out
              have h2 := Hyk.out
              rw [e, h2] at h1
              exact (Option.some.inj h1).symm
            clear hne
            go_wp2
            go_ret
            exact ⟨by rw [HR.out]; rfl, low5.out⟩
          | false =>
            have he : x = y := by have := Hrr.out; simpa using this
            have HI2 : Hid (∀ j, j < k + 1 → xs[j]? = ys[j]?) := fun j hj => by
              by_cases e : j = k
              · rw [e, Hxk.out, Hyk.out, he]
              · exact hI.out j (by omega)
            clear he
            go_wp2
            go_roundw
            case rel => exact ⟨k + 1, by omega, by go_num, HI2, low5⟩
            case measure => simp [intOf]; omega
      · have hlt' : ¬ (k : Int) < n := by omega
        obtain rfl : k = n := by omega
        have HR : Hid (decide (xs = ys) = true) := by
          refine decide_eq_true (List.ext_getElem? fun j => ?_)
          by_cases h : j < k
          · exact hI.out j h
          · rw [List.getElem?_eq_none (by have := Hn.out; omega), List.getElem?_eq_none (by have := Hm.out; omega)]
        go_wp2
        go_ret
        exact ⟨by rw [HR.out]; rfl, hB.out⟩
  · have HR : Hid (decide (xs = ys) = false) := decide_eq_false fun e => hmn (by rw [← hn, ← hm, e])
    have hne : (((n : Nat) : Int) != (m : Int)) = true := by simp; omega
    have hne' : ¬ ((n : Nat) : Int) = (m : Int) := by omega
    clear hX hY hn hm
    go_enter Tryz.func11, Tryz.ntmps11
    go_wp2
    go_ret
    exact ⟨by rw [HR.out]; rfl, Below.refl _ _⟩
end Go.Proofs.YtpkolmmahoopcaaGreatDoor.Lab
/- DERIVED. append of a slice of labels to an own row; beginnings and ends of such slices. -/
namespace Go.Proofs.YtpkolmmahoopcaaGreatDoor.Lab
open Go.RowKit Str
theorem flatP_cell {ys : List (Int × Nat)} : ∀ (j : Nat) (u : Value), (flatP ys)[j]? = some u → ∃ i x r, j = i * 2 + r ∧ ys[i]? = some x ∧ (lab x.1 x.2).toList[r]? = some u := by
  induction ys with
  | nil => intro j u h; simp [flatP] at h
  | cons y ys ih =>
    intro j u h
    simp only [flatP, List.map_cons, List.flatten_cons] at h
    by_cases hj : j < 2
    · rw [List.getElem?_append_left (by simpa using hj)] at h
      exact ⟨0, y, j, by omega, rfl, h⟩
    · rw [List.getElem?_append_right (by simp; omega)] at h
      obtain ⟨i, x, r, e, h1, h2⟩ := ih (j - 2) u (by simpa [flatP] using h)
      exact ⟨i + 1, x, r, by omega, by simpa using h1, h2⟩
theorem flatP_len (xs : List (Int × Nat)) : (flatP xs).length = xs.length * 2 := by
  induction xs with
  | nil => rfl
  | cons x xs ih =>
    simp only [flatP, List.map_cons, List.flatten_cons, List.length_append, List.length_cons] at ih ⊢
    simp at ih ⊢
    omega
theorem flatP_apps (xs ys : List (Int × Nat)) : flatP (xs ++ ys) = flatP xs ++ flatP ys := by simp [flatP]
theorem flatP_one {ys : List (Int × Nat)} : ∀ u ∈ flatP ys, u.oneCell' = true := by
  intro u hu
  obtain ⟨j, hj, rfl⟩ := List.getElem_of_mem hu
  obtain ⟨i, x, r, _, _, h⟩ := flatP_cell j _ (List.getElem?_eq_getElem hj)
  exact lab_ones x.1 x.2 _ (List.mem_of_getElem? h)
theorem wpList_append_labs {w : World} {ops : Array Oper} {rest : List Oper} {o : Oper} {a : Act} {Q : Exit → Act → World → Prop} (hgd : o.guard = none) (s y : Operand)
    (ho : o.op = .call { callee := .builtin .append, args := #[s, y], argTypes := #[38, 38] }) (base : Nat) (v : Value) (xs ys : List (Int × Nat)) (hs : a.eval s = v) (hown : OwnL base xs v w)
    (A : Option Addr) (m c : Nat) (hy : a.eval y = .slice A m c) (hm : ys.length = m) (hY : Labs w A c ys) (h63 : xs.length + m ≤ 100000) (hbase : base ≤ w.heap.size)
    (h : ∀ v' w', OwnL base (xs ++ ys) v' w' → (∀ B u, Below B u w → B ≤ base → Below B u w') → wpList Tryz.prog ops Q rest (a.put o.dst v') w') : wpList Tryz.prog ops Q (o :: rest) a w := by
  obtain ⟨i0, hi0, hz00, hz10, hz20⟩ := info_parts infoLz
  have h0 : ys = [] → ∀ (_ : m = 0), OwnL base (xs ++ ys) v w := fun e _ => by rw [e, List.append_nil]; exact hown
  by_cases hA : A = none
  · subst hA
    have hc := hY.2.1 rfl
    have hm0 : m = 0 := by have := hY.1; omega
    have e : ys = [] := List.eq_nil_of_length_eq_zero (by omega)
    subst hm0 hc
    refine wpList_append_own_none hgd s y 38 ho base 34 i0 2 Tryz.underlying38 hi0 v xs.length (flatP xs) hs hown hy ?_
    exact h v w (h0 e rfl) (fun _ _ h _ => h)
  · obtain ⟨ad, rfl⟩ : ∃ ad, A = some ad := by cases A with | none => exact absurd rfl hA | some ad => exact ⟨ad, rfl⟩
    refine wpList_append_own_at _ hgd s y 38 ho base 34 i0 labZero 2 16 Tryz.underlying38 hi0 hz00 hz10 hz20 rfl (by decide) v xs.length (flatP xs) hs hown ad m c (flatP ys) hy (by rw [flatP_len, hm])
      (fun j u hu => ?_) flatP_one (by unfold maxLen; omega) (by omega) hbase ?_
    · obtain ⟨i, x, r, e, h1, h2⟩ := flatP_cell j u hu
      have hi : i < ys.length := (List.getElem?_eq_some_iff.1 h1).1
      obtain ⟨b, off, e2, hb, hc⟩ := hY.2.2 (by omega)
      obtain rfl := Option.some.inj e2
      rw [Addr.add_mid, e, ← Nat.add_assoc]
      exact hc i x h1 r u h2
    · intro v' w' hown' hgrow _ _
      refine h v' w' ?_ (fun B u hu hB => hu.grown hgrow (by omega) (fun k hk => by have := (World.ownsRow.lt hown k hk).1; omega))
      unfold OwnL
      rw [flatP_apps, List.length_append, hm]
      exact hown'
theorem Labs.take {w : World} {A : Option Addr} {c : Nat} {xs : List (Int × Nat)} (h : Labs w A c xs) (k : Nat) : Labs w A c (xs.take k) := by
  obtain ⟨h1, h2, h3⟩ := h
  refine ⟨by rw [List.length_take]; omega, h2, fun h0 => ?_⟩
  rw [List.length_take] at h0
  obtain ⟨b, off, e, hb, hc⟩ := h3 (by omega)
  refine ⟨b, off, e, hb, fun i x hx => hc i x ?_⟩
  rw [List.getElem?_take] at hx
  split at hx
  · exact hx
  · cases hx
theorem Labs.drop {w : World} {b off c : Nat} {xs : List (Int × Nat)} (h : Labs w (some ⟨b, off, none⟩) c xs) (k : Nat) (hk : k ≤ xs.length) : Labs w (some ⟨b, off + k * 2, none⟩) (c - k) (xs.drop k) := by
  obtain ⟨h1, _, h3⟩ := h
  refine ⟨by rw [List.length_drop]; omega, (fun h => by cases h), fun h0 => ?_⟩
  rw [List.length_drop] at h0
  obtain ⟨b', off', e, hb, hc⟩ := h3 (by omega)
  cases e
  refine ⟨b, off + k * 2, rfl, hb, fun i x hx => ?_⟩
  rw [List.getElem?_drop] at hx
  have e2 : off + k * 2 + i * 2 = off + (k + i) * 2 := by omega
  rw [e2]
  exact hc (k + i) x hx
theorem Labs.none (w : World) (b c : Nat) : Labs w (some ⟨b, 0, Option.none⟩) c [] := ⟨Nat.zero_le _, (fun h => by cases h), fun h => absurd h (Nat.lt_irrefl _)⟩
end Go.Proofs.YtpkolmmahoopcaaGreatDoor.Lab
