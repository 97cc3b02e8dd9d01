/- DERIVED. The contract of the reference's Stream of layer 3. -/
import Derived.Test.YtdkfofnkacmliaaDoorRefChaBlock
import Derived.Test.YtdkfofnkacmliaaDoorChaStream
import Derived.IntWalk
import Derived.Deep.RegionWith
namespace Go.Proofs.YtdkfofnkacmliaaDoor.Cha
open Go.RowKit
set_option maxRecDepth 100000 in
set_option maxHeartbeats 1000000 in
theorem rstream_no (K Nn : List Int) (c : Int) (A : Option Addr) (n cap : Nat) (hsm : n ≤ 100000) (c0 : 0 ≤ c) (c1 : c < 4294967296) (cb : ¬ c + (nbl n : Nat) ≤ 4294967296) (w : World) :
    Calls Tryd.prog 13 #[.agg (u8s K), .int .u32 c, .agg (u8s Nn), .slice A n cap] w fun e' w' => e' = .returned (.tuple #[.slice none 0 0, .int .i64 13]) ∧ Below w.heap.size w w' := by
  obtain ⟨B, hB⟩ : ∃ B, B = nbl n := ⟨_, rfl⟩
  have b0 : 0 < B := by rw [hB]; unfold nbl at *; omega
  have b1 : B ≤ 100000 := by rw [hB]; unfold nbl; omega
  rw [← hB] at cb
  have hq : ((n : Int) + 63).tdiv 64 = (B : Int) := by
    rw [Int.tdiv_eq_ediv_of_nonneg (by omega), hB]; unfold nbl; omega
  have hq2 : ((n : Int) + 63) / 64 = (B : Int) := by rw [hB]; unfold nbl; omega
  have b0' : (0 : Int) < (B : Int) := by omega
  have g1 : 4294967295 < c + (B : Int) - 1 := by omega
  have c1' : c ≤ 4294967295 := by omega
  clear hB cb c1
  go_enter Tryd.func13, Tryd.ntmps13
  go_wp2
  refine bodyPost_ret (results_tmp2 rfl _ _ _) rfl ?_
  exact ⟨rfl, ((Below.refl _ _).alloc (Nat.le_refl _) _).alloc (by simp) _⟩
attribute [local go_sem ↓ high] appendC_eq
/-- what the loops keep: so many bytes are out. -/
structure RS (K Nn X : List Int) (m : Nat) (w wx : World) (v : Value) : Prop where
  own : wx.ownsRow (w.heap.size + 1 + 1) 5 1 v m (vals (X.take m))
  key : wx.heap[w.heap.size]? = some (.cells (u8s K) 25 (0, 0))
  non : wx.heap[w.heap.size + 1]? = some (.cells (u8s Nn) 26 (0, 0))
  low : Below w.heap.size w wx
theorem RS.later {K Nn X : List Int} {m : Nat} {w wx wy : World} {v : Value} (h : RS K Nn X m w wx v) (hb : Below wx.heap.size wx wy) : RS K Nn X m w wy v := by
  have h1 := (Array.getElem?_eq_some_iff.1 h.key).1
  have h2 := (Array.getElem?_eq_some_iff.1 h.non).1
  exact ⟨own_keep h.own hb, (hb.block _ h1).trans h.key, (hb.block _ h2).trans h.non, h.low.trans (hb.mono (by omega))⟩
/-- one byte is appended; where the row lies then. -/
theorem append_one2 {w : World} (ty : TypeId) {base k : Nat} {v : Value} {xs : List Int} (hown : w.ownsRow base 5 1 v k (vals xs)) {G : Nat} {y : Int} (hcell : w.cell? ⟨G, 0, none⟩ = some (.int .u8 y)) (b1 : k ≤ 1000000) (b3 : base ≤ w.heap.size) :
    ∃ v' w', (appendC #[38, 38] ty #[v, .slice (some ⟨G, 0, none⟩) 1 1]).run Tryd.prog w = .ok v' w' ∧ w'.ownsRow base 5 1 v' (k + 1) (vals xs ++ [.int .u8 y]) ∧ w.grownBy w' v.ownBlock ∧ (v'.ownBlock = v.ownBlock ∨ v'.ownBlock = some w.heap.size) := by
  obtain ⟨i0, hi, hz0, hz1, hz2⟩ := parts3 info08
  unfold appendC
  obtain ⟨v', w', hr, hown', hgrow, _, hat⟩ := run_append_own_at (P := Tryd.prog) w base 38 ty 5 i0 (.int .u8 0) 1 1 Tryd.underlying38 hi hz0 hz1 hz2 rfl (by decide) v k (vals xs) hown ⟨G, 0, none⟩ 1 1 [.int .u8 y] rfl
    (fun j u hj => by
      match j, hj with
      | 0, hj => simp at hj; subst hj; simpa [Addr.add_mid] using hcell)
    (fun u hu => by simp at hu; subst hu; rfl) (by unfold maxLen; omega) (by omega) b3
  exact ⟨v', w', hr, hown', hgrow, hat⟩
theorem RS.more {K Nn X : List Int} {m : Nat} {w wx w2 : World} {v v2 : Value} {y : Int} {o : Obj} (h : RS K Nn X m w wx v) (hm : m < X.length) (hy : y = X.getD m 0) (ho : w2.ownsRow (w.heap.size + 1 + 1) 5 1 v2 (m + 1) (vals (X.take m) ++ [.int .u8 y])) (hg : (wx.alloc o).drew.grownBy w2 v.ownBlock) : RS K Nn X (m + 1) w w2 v2 := by
  have h1 := (Array.getElem?_eq_some_iff.1 h.key).1
  have h2 := (Array.getElem?_eq_some_iff.1 h.non).1
  have hs : (wx.alloc o).drew.heap.size = wx.heap.size + 1 := by show (wx.alloc o).heap.size = _; rw [World.size_alloc]
  refine ⟨by rw [hy, take_more hm] at ho; exact ho, ?_, ?_, (((h.low.alloc (by omega) o).trans (Below.refl _ _).drew).grown hg (by omega) (fun k hk => by have := (h.own.lt k hk).1; omega))⟩
  · exact ((hg.block _ (by omega) (fun e => by have := (h.own.lt _ e.symm).1; omega)).trans (Go.heap_alloc_old _ _ h1)).trans h.key
  · exact ((hg.block _ (by omega) (fun e => by have := (h.own.lt _ e.symm).1; omega)).trans (Go.heap_alloc_old _ _ h2)).trans h.non
set_option maxRecDepth 100000 in
set_option maxHeartbeats 4000000 in
theorem rstream_ok (K Nn L : List Int) (c : Int) (A : Option Addr) (n cap : Nat) (hK : K.length = 32) (hN : Nn.length = 12) (bK : InB K) (bN : InB Nn) (hl : L.length = n) (hsm : n ≤ 100000) (c0 : 0 ≤ c) (c1 : c < 4294967296) (cb : c + (nbl n : Nat) ≤ 4294967296) (w : World) (hB : Byt w A cap L) :
    Calls Tryd.prog 13 #[.agg (u8s K), .int .u32 c, .agg (u8s Nn), .slice A n cap] w fun e' w' => ∃ A' c', e' = .returned (.tuple #[.slice A' n c', .int .i64 0]) ∧ Byt w' A' c' (streamL K c Nn L) ∧ Below w.heap.size w w' := by
  obtain ⟨B, hBq⟩ : ∃ B, B = nbl n := ⟨_, rfl⟩
  have HBn : Hid (∀ k, k < B → 64 * k < n) := fun k hk => by rw [hBq] at hk; unfold nbl at hk; omega
  have HBm : Hid (n ≤ 64 * B) := by show _ ≤ _; rw [hBq]; unfold nbl; omega
  have b1 : B ≤ 100000 := by rw [hBq]; unfold nbl; omega
  rw [← hBq] at cb
  have hq : ((n : Int) + 63).tdiv 64 = (B : Int) := by
    rw [Int.tdiv_eq_ediv_of_nonneg (by omega), hBq]; unfold nbl; omega
  have hq2 : ((n : Int) + 63) / 64 = (B : Int) := by rw [hBq]; unfold nbl; omega
  have g1 : ¬ 4294967295 < c + (B : Int) - 1 := by omega
  obtain ⟨X, hX⟩ : ∃ X, X = streamL K c Nn L := ⟨_, rfl⟩
  have HX := Lib.hid hX
  have HXl : Hid (X.length = n) := by show _ = _; rw [hX, streamL_length, hl]
  have Hblk := Lib.hid (fun d W => rblock_any K Nn d hK hN bK bN W)
  have HsK : Hid ((Tryd.prog.info? 25).map (·.size) = some (u8s K).size) := by show _ = _; rw [u8s_size, hK]; kernel_rfl
  have HsN : Hid ((Tryd.prog.info? 26).map (·.size) = some (u8s Nn).size) := by show _ = _; rw [u8s_size, hN]; kernel_rfl
  have HCb : Hid (c + (B : Nat) ≤ 4294967296) := cb
  have Hl := Lib.hid hl
  have HB := Lib.hid hB
  have c1' : c ≤ 4294967295 := by omega
  have hr0 : RS K Nn X 0 w ((w.alloc (.cells (u8s K) 25)).alloc (.cells (u8s Nn) 26)) (.slice none 0 0) := by
    have h2 := two_new w (.cells (u8s K) 25) (.cells (u8s Nn) 26)
    exact ⟨World.ownsRow_nil _ _ _ _, h2.1, h2.2, ((Below.refl _ _).alloc (Nat.le_refl _) _).alloc (by simp) _⟩
  have Hr0 := Lib.hid hr0
  clear hBq cb c1 hX hK hN bK bN hl hB hr0
  go_enter Tryd.func13, Tryd.ntmps13
  by_cases hB0 : (0 : Int) < (B : Int)
  · go_wp2
    go_loopw [11, 12] (fun v i wx => ∃ k : Nat, k ≤ B ∧ i = .int .i64 k ∧ Hid (RS K Nn X (min n (64 * k)) w wx v)) (fun _ i _ => B - (intOf i).toNat)
    case atStart => exact ⟨0, Nat.zero_le _, rfl, by rw [show min n (64 * 0) = 0 by omega]; exact Hr0.out⟩
    case round =>
      obtain ⟨k, hk, rfl, hinv⟩ := hrel
      by_cases hlt : k < B
      · have hlt' : (k : Int) < (B : Int) := by omega
        have hk64 := HBn.out k hlt
        have hck : c + (k : Int) ≤ 4294967295 := by have := HCb.out; omega
        rw [show min n (64 * k) = 64 * k by omega] at hinv
        obtain ⟨Bl, hBl⟩ : ∃ Bl, Bl = blockL K (c + (k : Nat)) Nn := ⟨_, rfl⟩
        have hb := Hblk.out (c + (k : Nat))
        rw [← hBl] at hb
        have Hb := Lib.hid hb
        have HBl := Lib.hid hBl
        have Hi64 : Hid ((Tryd.prog.info? 31).map (·.size) = some (u8s Bl).size) := by show _ = _; rw [u8s_size, hBl, blockL_length]; exact info64
        have Hs64 : Hid ((u8s Bl).size = 64) := by show _ = _; rw [u8s_size, hBl, blockL_length]
        clear hb hBl hk
        go_wp2_with (first
          | (with_reducible refine wpList_load_row rfl 25 (.tmp 4) rfl w.heap.size rfl 25 (u8s K) (0, 0) _ hinv.out.key Tryd.underlying25 rfl HsK.out ?_)
          | (with_reducible refine wpList_load_row rfl 26 (.tmp 6) rfl (w.heap.size + 1) rfl 26 (u8s Nn) (0, 0) _ hinv.out.non Tryd.underlying26 rfl HsN.out ?_)
          | (go_at_call 10; refine (Hb.out _).mono ?_; rintro e w1 ⟨rfl, low1⟩; have Low1 := Lib.hid low1; clear low1)
          | (refine wpList_store_row rfl 31 (.tmp 13) (.tmp 40) rfl w1.heap.size (u8s Bl) rfl rfl 31 _ (Go.heap_alloc_new w1 _) Hi64.out (by rw [Hs64.out]; rfl) (u8s_one _) ?_; rw [World.setRow_alloc_new]))
        have hr2 : RS K Nn X (64 * k) w (w1.alloc (.cells (u8s Bl) 31)) u11 := (hinv.out.later Low1.out).later ((Below.refl _ _).alloc (Nat.le_refl _) _)
        have hsep : u11.ownBlock ≠ some w1.heap.size := fun e => by have := ((hinv.out.later Low1.out).own.lt _ e).2; omega
        have Hsep := Lib.hid hsep
        have Hr2 := Lib.hid hr2
        have Hrow2 := Lib.hid (Go.heap_alloc_new w1 (.cells (u8s Bl) 31))
        clear hr2 hsep hinv Low1
        go_loopw [11, 14] (fun v i wx => ∃ m : Nat, 64 * k ≤ m ∧ m ≤ 64 * k + 64 ∧ m ≤ n ∧ i = .int .i64 m ∧ Hid (RS K Nn X m w wx v ∧ wx.heap[w1.heap.size]? = some (.cells (u8s Bl) 31 (0, 0)) ∧ v.ownBlock ≠ some w1.heap.size)) (fun _ i _ => 64 * k + 64 - (intOf i).toNat)
        case atStart => exact ⟨64 * k, Nat.le_refl _, by omega, by omega, by go_num, Hr2.out, Hrow2.out, Hsep.out⟩
        case round =>
          obtain ⟨m, hm1, hm2, hm3, rfl, hr⟩ := hrel
          by_cases h1 : m < 64 * k + 64
          · have h1' : (m : Int) < 64 * (k : Int) + 64 := by omega
            by_cases h2 : m < n
            · have h2' : (m : Int) < (n : Int) := by omega
              obtain ⟨gb, ob, hA, hgb, hcb⟩ := HB.out.2.2 (by rw [Hl.out]; omega)
              subst hA
              obtain ⟨x, hx⟩ : ∃ x, x = L.getD m 0 := ⟨_, rfl⟩
              obtain ⟨z, hz⟩ : ∃ z, z = Bl.getD (m - 64 * k) 0 := ⟨_, rfl⟩
              have cb : wr.cell? ⟨gb, ob + m, none⟩ = some (.int .u8 x) := by rw [hx]; exact (World.cell?_of_block (hr.out.1.low.block gb hgb)).trans (hcb m (by rw [Hl.out]; exact h2))
              have cz : wr.cell? ⟨w1.heap.size, m - 64 * k, none⟩ = some (.int .u8 z) := by rw [hz]; exact row8_cell hr.out.2.1 _ (by have := Hs64.out; rw [u8s_size] at this; omega)
              have hy : bits .xor .u8 x z = X.getD m 0 := by
                rw [HX.out, streamL_getD _ _ _ _ _ (by rw [Hl.out]; exact h2)]
                unfold strF
                rw [show m / 64 = k by omega, show m % 64 = m - 64 * k by omega, hx, hz, HBl.out]
              obtain ⟨y, hyy⟩ : ∃ y, y = bits .xor .u8 x z := ⟨_, rfl⟩
              rw [← hyy] at hy
              have hsz1 := (Array.getElem?_eq_some_iff.1 hr.out.2.1).1
              have hsz2 := (Array.getElem?_eq_some_iff.1 hr.out.1.non).1
              obtain ⟨v2, w2, hrun, hown2, hgrow2, hat2⟩ := append_one2 38 (own_keep hr.out.1.own (((Below.refl _ wr).alloc (Nat.le_refl _) (.cells #[.int .u8 y] 5)).trans (Below.refl _ _).drew)) (G := wr.heap.size) (y := y) (cell_row (t := 5) (Go.heap_alloc_new wr (.cells #[.int .u8 y] 5)) 0) (by omega) (by show _ ≤ (wr.alloc _).heap.size; rw [World.size_alloc]; omega)
              have hnext := hr.out.1.more (by rw [HXl.out]; exact h2) hy hown2 hgrow2
              have hrow3 : w2.heap[w1.heap.size]? = some (.cells (u8s Bl) 31 (0, 0)) := ((hgrow2.block _ (by show _ < (wr.alloc _).heap.size; rw [World.size_alloc]; omega) (fun e => hr.out.2.2 e.symm)).trans (Go.heap_alloc_old _ _ hsz1)).trans hr.out.2.1
              have hsep3 : v2.ownBlock ≠ some w1.heap.size := by
                rcases hat2 with e | e
                · rw [e]; exact hr.out.2.2
                · rw [e]; intro e3; injection e3 with e3; have : (wr.alloc (.cells #[.int .u8 y] 5)).heap.size = w1.heap.size := e3; rw [World.size_alloc] at this; omega
              have Hnext := Lib.hid hnext
              have Hrow3 := Lib.hid hrow3
              have Hsep3 := Lib.hid hsep3
              have tn : ((m : Int) - 64 * (k : Int)).toNat = m - 64 * k := by omega
              have t0 : 0 ≤ (m : Int) - 64 * (k : Int) := by omega
              have t64 : (m : Int) - 64 * (k : Int) < 64 := by omega
              have hw1 : IntKind.i64.wrap (64 * (k : Int)) = 64 * (k : Int) := IntWalk.i64_in _ (by omega)
              have hw2 : IntKind.i64.wrap ((m : Int) - 64 * (k : Int)) = (m : Int) - 64 * (k : Int) := IntWalk.i64_in _ (by omega)
              have hyy' := hyy.symm
              clear hyy hx hz hy hown2 hgrow2 hat2 hnext hrow3 hsep3 hsz1 hsz2 hcb hr
              go_wp2
              go_region_with (fail)
              all_goals
                go_wp2_with fail
                go_roundw
                case rel => exact ⟨m + 1, by omega, by omega, by omega, by go_num, Hnext.out, Hrow3.out, Hsep3.out⟩
                case measure => simp [intOf]; omega
            · have h2' : ¬ (m : Int) < (n : Int) := by omega
              have e2 : m = n := by omega
              rw [e2] at hr
              clear e2
              go_wp2
              go_roundw
              case rel => exact ⟨k + 1, by omega, by go_num, by rw [show min n (64 * (k + 1)) = n by omega]; exact hr.out.1⟩
              case measure => simp [intOf]; omega
          · have h1' : ¬ (m : Int) < 64 * (k : Int) + 64 := by omega
            have e2 : m = 64 * (k + 1) := by omega
            rw [e2] at hr
            clear e2
            go_wp2
            go_roundw
            case rel => exact ⟨k + 1, by omega, by go_num, by rw [show min n (64 * (k + 1)) = 64 * (k + 1) by omega]; exact hr.out.1⟩
            case measure => simp [intOf]; omega
      · have hge : ¬ (k : Int) < (B : Int) := by omega
        have hmin : min n (64 * k) = n := by have := HBm.out; omega
        rw [hmin] at hinv
        have hpos : 0 < n := by have := HBn.out 0 (by omega); omega
        have hown := hinv.out.own
        rw [List.take_of_length_le (by rw [HXl.out]; exact Nat.le_refl _), ← HXl.out] at hown
        obtain ⟨g, cg, rfl, hbyt, _, _⟩ := own_slice2 hown HXl.out hpos
        rw [HX.out] at hbyt
        have Hbyt := Lib.hid hbyt
        have Hlow := Lib.hid hinv.out.low
        clear hmin hinv hown hbyt hpos
        go_wp2_with fail
        refine bodyPost_ret (results_tmp2 rfl _ _ _) rfl ?_
        exact ⟨some ⟨g, 0, none⟩, cg, rfl, Hbyt.out, Hlow.out⟩
  · have hn0 : n = 0 := by have := HBm.out; omega
    have hB00 : B = 0 := by omega
    subst hn0 hB00
    have Hlow := Lib.hid Hr0.out.low
    have hL0 : L = [] := List.eq_nil_of_length_eq_zero Hl.out
    subst hL0
    clear HB Hr0 HBn HBm
    go_wp2_with fail
    go_loopw [11, 12] (fun v i wx => v = .slice none 0 0 ∧ i = .int .i64 0 ∧ Hid (Below w.heap.size w wx)) (fun _ _ _ => 0)
    case atStart => exact ⟨rfl, rfl, Hlow.out⟩
    case round =>
      obtain ⟨rfl, rfl, hlow⟩ := hrel
      go_wp2_with fail
      refine bodyPost_ret (results_tmp2 rfl _ _ _) rfl ?_
      exact ⟨none, 0, rfl, ⟨Nat.le_refl _, fun _ => rfl, fun h => absurd h (Nat.lt_irrefl 0)⟩, hlow.out⟩
end Go.Proofs.YtdkfofnkacmliaaDoor.Cha
