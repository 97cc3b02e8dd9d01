/- DERIVED. The contract of the reference's Same. Written by mksame.py. -/
import Derived.Test.YtmgjhinbkhebjaaDoorLabOrder
namespace Go.Proofs.YtmgjhinbkhebjaaDoor.Lab
open Go.RowKit Str
set_option maxRecDepth 100000 in
set_option maxHeartbeats 4000000 in
theorem same_any (A B : Option Addr) (n m c d : Nat) (xs ys : List (Int × Nat)) (hn : xs.length = n) (hm : ys.length = m) (hle : n ≤ 100000) (hle2 : m ≤ 100000) (w : World) (hX : Labs w A c xs) (hY : Labs w B d ys) :
    Calls Tryd.prog 19 #[.slice A n c, .slice B m d] w fun e w' => e = .returned (.bool (decide (xs = ys))) ∧ Below w.heap.size w w' := by
  have HX := Lib.hid hX
  have HY := Lib.hid hY
  have Hn := Lib.hid hn
  have Hm := Lib.hid hm
  by_cases hmn : n = m
  · subst hmn
    have H0 : Hid (∀ j, j < 0 → xs[j]? = ys[j]?) := fun j hj => absurd hj (Nat.not_lt_zero _)
    clear hX hY hn hm
    go_enter Tryd.func19, Tryd.ntmps19
    go_wp2
    go_loopw [5] (fun i wr => ∃ k : Nat, k ≤ n ∧ i = .int .i64 (k : Nat) ∧ Hid (∀ j, j < k → xs[j]? = ys[j]?) ∧ Hid (Below w.heap.size w wr)) (fun i _ => n - (intOf i).toNat)
    case atStart => exact ⟨0, by omega, rfl, H0, Below.refl _ _⟩
    case round =>
      obtain ⟨k, hk, rfl, hI, hB⟩ := hrel
      clear H0
      by_cases hlt : k < n
      · have hlt' : (k : Int) < n := by omega
        obtain ⟨x, hx⟩ : ∃ x, xs[k]? = some x := ⟨_, List.getElem?_eq_getElem (by have := Hn.out; omega)⟩
        obtain ⟨y, hy⟩ : ∃ y, ys[k]? = some y := ⟨_, List.getElem?_eq_getElem (by have := Hm.out; omega)⟩
        obtain ⟨b, off, rfl, hb, hcell⟩ := HX.out.2.2 (by have := Hn.out; omega)
        obtain ⟨b2, off2, rfl, hb2, hcell2⟩ := HY.out.2.2 (by have := Hm.out; omega)
        have hcap1 : n ≤ c := by have := HX.out.1; have := Hn.out; omega
        have hcap2 : n ≤ d := by have := HY.out.1; have := Hm.out; omega
        have Hrx : Hid (wr.rangeAt b (off + k * 2) (lab x.1 x.2).toList) := fun j v hv => (hB.out.cell (p := ⟨b, off + k * 2 + j, none⟩) hb).trans (hcell k x hx j v hv)
        have Hry : Hid (wr.rangeAt b2 (off2 + k * 2) (lab y.1 y.2).toList) := fun j v hv => (hB.out.cell (p := ⟨b2, off2 + k * 2 + j, none⟩) hb2).trans (hcell2 k y hy j v hv)
        have Hxk := Lib.hid hx
        have Hyk := Lib.hid hy
        obtain ⟨rr, hrr⟩ : ∃ rr, (!decide (x = y)) = rr := ⟨_, rfl⟩
        have heq : ∀ W : World, (if x.1 = y.1 then (if (x.2 : Int) = (y.2 : Int) then Result.ok (Next.value (Value.bool false)) W else Result.ok (Next.value (Value.bool true)) W) else Result.ok (Next.value (Value.bool true)) W) = Result.ok (Next.value (Value.bool rr)) W := by
          intro W
          rw [← hrr]
          obtain ⟨a1, a2⟩ := x
          obtain ⟨b1, b2⟩ := y
          by_cases h1 : a1 = b1 <;> by_cases h2 : a2 = b2 <;> simp [h1, h2] <;> omega
        have Hrr := Lib.hid hrr
        clear hcell hcell2 hx hy hb hb2 hrr
        go_upto_region 6 with (fail)
        go_cut [25] (fun s25 wx => s25 = .bool rr ∧ Hid (Below wr.heap.size wr wx))
        case first =>
          have apx : apartB [17, 18, 19, 20, 21, 22, 23, 24, 25] = true := by decide
          refine wp_region_any (by kernel_rfl) ?_
          change wpAny _ _ _ _ _ _ _ (World.drew _)
          refine wpAny_inv (fun ll aa wx => Hid (ll.size = 9 ∧ Below wr.heap.size wr wx) ∧ ∃ (z : Nat → Value), Hid (aa = ⟨#[.slice (some ⟨b, off, none⟩) n c, .slice (some ⟨b2, off2, none⟩) n d, undef, undef, u4, .int .i64 ((k : Nat) : Int), .slice (some ⟨b, off, none⟩) n c, .int .i64 (n : Nat), .slice (some ⟨b2, off2, none⟩) n d, .int .i64 (n : Nat), .bool false, .int .i64 ((k : Nat) : Int), .slice (some ⟨b, off, none⟩) n c, .int .i64 (n : Nat), .bool true, u15, u16, z 17, z 18, z 19, z 20, z 21, z 22, z 23, z 24, z 25], []⟩) ∧ Holding [17, 18, 19, 20, 21, 22, 23, 24, 25] [some (.slice (some ⟨b, off, none⟩) n c), some (.int .i64 ((k : Nat) : Int)), some (.pointer (some ⟨b, off + k * 2, none⟩)), some (.agg (lab x.1 x.2)), some (.slice (some ⟨b2, off2, none⟩) n d), some (.int .i64 ((k : Nat) : Int)), some (.pointer (some ⟨b2, off2 + k * 2, none⟩)), some (.agg (lab y.1 y.2)), some (.bool rr)] ll z) ?_ (by kernel_rfl) ?_ ?_ _ _ _ _ (unlisted_none _) ?_
          · rintro ll aa wx ⟨hI, _⟩
            exact hI.out.1
          · rintro ll aa wx ⟨hI, z, ha, hz⟩ hall
            have hx := Lib.hid hI.out.2
            have e0 : z 17 = .slice (some ⟨b, off, none⟩) n c := hz 0 _ (hall 0 (by decide)) rfl
            have e1 : z 18 = .int .i64 ((k : Nat) : Int) := hz 1 _ (hall 1 (by decide)) rfl
            have e2 : z 19 = .pointer (some ⟨b, off + k * 2, none⟩) := hz 2 _ (hall 2 (by decide)) rfl
            have e3 : z 20 = .agg (lab x.1 x.2) := hz 3 _ (hall 3 (by decide)) rfl
            have e4 : z 21 = .slice (some ⟨b2, off2, none⟩) n d := hz 4 _ (hall 4 (by decide)) rfl
            have e5 : z 22 = .int .i64 ((k : Nat) : Int) := hz 5 _ (hall 5 (by decide)) rfl
            have e6 : z 23 = .pointer (some ⟨b2, off2 + k * 2, none⟩) := hz 6 _ (hall 6 (by decide)) rfl
            have e7 : z 24 = .agg (lab y.1 y.2) := hz 7 _ (hall 7 (by decide)) rfl
            have e8 : z 25 = .bool rr := hz 8 _ (hall 8 (by decide)) rfl
            clear hall hz hI 
            obtain rfl := ha.out
            clear ha
            clear apx
            have E := Lib.hid e8
            have HX2 := Lib.hid hx.out
            clear e0 e1 e2 e3 e4 e5 e6 e7 e8 hx
            rw [E.out]
            go_wp2
            go_meet
            exact ⟨rfl, HX2.out⟩
          · rintro ll aa wx i ⟨hI, z, ha, hz⟩ hi hu hw
            obtain rfl := ha.out
            have hsz := Lib.hid hI.out.1
            have hx := Lib.hid hI.out.2
            clear ha hI
            have hin : i < 9 := hi
            obtain rfl | rfl | rfl | rfl | rfl | rfl | rfl | rfl | rfl : i = 0 ∨ i = 1 ∨ i = 2 ∨ i = 3 ∨ i = 4 ∨ i = 5 ∨ i = 6 ∨ i = 7 ∨ i = 8 := by omega
            · refine wpOp_plain rfl rfl ?_
              go_simp
              exact ⟨⟨by simp [hsz.out], hx.out⟩, upd z 17 (.slice (some ⟨b, off, none⟩) n c), (by unfold Hid; simp [upd]), hz.next apx hsz.out 0 (by decide) _ (fun _ h => Option.some.inj h)⟩
            · refine wpOp_plain rfl rfl ?_
              go_simp
              exact ⟨⟨by simp [hsz.out], hx.out⟩, upd z 18 (.int .i64 ((k : Nat) : Int)), (by unfold Hid; simp [upd]), hz.next apx hsz.out 1 (by decide) _ (fun _ h => Option.some.inj h)⟩
            · have e0 : z 17 = .slice (some ⟨b, off, none⟩) n c := hz 0 _ (hw 0 (by kernel_rfl)) rfl
              have e1 : z 18 = .int .i64 ((k : Nat) : Int) := hz 1 _ (hw 1 (by kernel_rfl)) rfl
              refine wpOp_plain rfl rfl ?_
              go_simp
              exact ⟨⟨by simp [hsz.out], hx.out⟩, upd z 19 (.pointer (some ⟨b, off + k * 2, none⟩)), (by unfold Hid; simp [upd, e0, e1]), hz.next apx hsz.out 2 (by decide) _ (fun _ h => Option.some.inj h)⟩
            · have e2 : z 19 = .pointer (some ⟨b, off + k * 2, none⟩) := hz 2 _ (hw 2 (by kernel_rfl)) rfl
              have rg : wx.rangeAt b (off + k * 2) (lab x.1 x.2).toList := fun j v hv => (hx.out.cell (p := ⟨b, off + k * 2 + j, none⟩) (World.block_lt_of_cell? _ _ (Hrx.out j v hv))).trans (Hrx.out j v hv)
              refine wpOp_plain rfl rfl (wp_load_mid 24 (.tmp 19) rfl b (off + k * 2) e2 (lab x.1 x.2).toList _ rg Tryd.underlying24 rfl infoL2 ?_)
              go_simp
              exact ⟨⟨by simp [hsz.out], hx.out⟩, upd z 20 (.agg (lab x.1 x.2)), (by unfold Hid; simp [upd, e2]), hz.next apx hsz.out 3 (by decide) _ (fun _ h => Option.some.inj h)⟩
            · refine wpOp_plain rfl rfl ?_
              go_simp
              exact ⟨⟨by simp [hsz.out], hx.out⟩, upd z 21 (.slice (some ⟨b2, off2, none⟩) n d), (by unfold Hid; simp [upd]), hz.next apx hsz.out 4 (by decide) _ (fun _ h => Option.some.inj h)⟩
            · refine wpOp_plain rfl rfl ?_
              go_simp
              exact ⟨⟨by simp [hsz.out], hx.out⟩, upd z 22 (.int .i64 ((k : Nat) : Int)), (by unfold Hid; simp [upd]), hz.next apx hsz.out 5 (by decide) _ (fun _ h => Option.some.inj h)⟩
            · have e4 : z 21 = .slice (some ⟨b2, off2, none⟩) n d := hz 4 _ (hw 4 (by kernel_rfl)) rfl
              have e5 : z 22 = .int .i64 ((k : Nat) : Int) := hz 5 _ (hw 5 (by kernel_rfl)) rfl
              refine wpOp_plain rfl rfl ?_
              go_simp
              exact ⟨⟨by simp [hsz.out], hx.out⟩, upd z 23 (.pointer (some ⟨b2, off2 + k * 2, none⟩)), (by unfold Hid; simp [upd, e4, e5]), hz.next apx hsz.out 6 (by decide) _ (fun _ h => Option.some.inj h)⟩
            · have e6 : z 23 = .pointer (some ⟨b2, off2 + k * 2, none⟩) := hz 6 _ (hw 6 (by kernel_rfl)) rfl
              have rg : wx.rangeAt b2 (off2 + k * 2) (lab y.1 y.2).toList := fun j v hv => (hx.out.cell (p := ⟨b2, off2 + k * 2 + j, none⟩) (World.block_lt_of_cell? _ _ (Hry.out j v hv))).trans (Hry.out j v hv)
              refine wpOp_plain rfl rfl (wp_load_mid 24 (.tmp 23) rfl b2 (off2 + k * 2) e6 (lab y.1 y.2).toList _ rg Tryd.underlying24 rfl infoL2 ?_)
              go_simp
              exact ⟨⟨by simp [hsz.out], hx.out⟩, upd z 24 (.agg (lab y.1 y.2)), (by unfold Hid; simp [upd, e6]), hz.next apx hsz.out 7 (by decide) _ (fun _ h => Option.some.inj h)⟩
            · have e3 : z 20 = .agg (lab x.1 x.2) := hz 3 _ (hw 3 (by kernel_rfl)) rfl
              have e7 : z 24 = .agg (lab y.1 y.2) := hz 7 _ (hw 7 (by kernel_rfl)) rfl
              refine wpOp_plain rfl rfl ?_
              go_simp
              exact ⟨⟨by simp [hsz.out], hx.out⟩, upd z 25 (.bool rr), (by unfold Hid; simp [upd, e3, e7]), hz.next apx hsz.out 8 (by decide) _ (fun _ h => Option.some.inj h)⟩
          · exact ⟨⟨rfl, (Below.refl _ _).drew⟩, fun xx => (#[.slice (some ⟨b, off, none⟩) n c, .slice (some ⟨b2, off2, none⟩) n d, undef, undef, u4, .int .i64 ((k : Nat) : Int), .slice (some ⟨b, off, none⟩) n c, .int .i64 (n : Nat), .slice (some ⟨b2, off2, none⟩) n d, .int .i64 (n : Nat), .bool false, .int .i64 ((k : Nat) : Int), .slice (some ⟨b, off, none⟩) n c, .int .i64 (n : Nat), .bool true, u15, u16, u17, u18, u19, u20, u21, u22, u23, u24, u25] : Array Value).getD xx undef, rfl, Holding.start⟩
        case rest =>
          obtain ⟨rfl, hl⟩ := hcut
          have low5 := Lib.hid (hB.out.trans (hl.out.mono hB.out.size))
          clear hl heq
          cases rr with
          | true =>
            have hne : x ≠ y := by have := Hrr.out; simpa using this
            have HR : Hid (decide (xs = ys) = false) := by
              refine decide_eq_false fun e => hne ?_
              have h1 := Hxk.out
              have h2 := Hyk.out
              rw [e, h2] at h1
              exact (Option.some.inj h1).symm
            clear hne
            go_wp2
            go_ret
            exact ⟨by rw [HR.out]; rfl, low5.out⟩
          | false =>
            have he : x = y := by have := Hrr.out; simpa using this
            have HI2 : Hid (∀ j, j < k + 1 → xs[j]? = ys[j]?) := fun j hj => by
              by_cases e : j = k
              · rw [e, Hxk.out, Hyk.out, he]
              · exact hI.out j (by omega)
            clear he
            go_wp2
            go_roundw
            case rel => exact ⟨k + 1, by omega, by go_num, HI2, low5⟩
            case measure => simp [intOf]; omega
      · have hlt' : ¬ (k : Int) < n := by omega
        obtain rfl : k = n := by omega
        have HR : Hid (decide (xs = ys) = true) := by
          refine decide_eq_true (List.ext_getElem? fun j => ?_)
          by_cases h : j < k
          · exact hI.out j h
          · rw [List.getElem?_eq_none (by have := Hn.out; omega), List.getElem?_eq_none (by have := Hm.out; omega)]
        go_wp2
        go_ret
        exact ⟨by rw [HR.out]; rfl, hB.out⟩
  · have HR : Hid (decide (xs = ys) = false) := decide_eq_false fun e => hmn (by rw [← hn, ← hm, e])
    have hne : (((n : Nat) : Int) != (m : Int)) = true := by simp; omega
    have hne' : ¬ ((n : Nat) : Int) = (m : Int) := by omega
    clear hX hY hn hm
    go_enter Tryd.func19, Tryd.ntmps19
    go_wp2
    go_ret
    exact ⟨by rw [HR.out]; rfl, Below.refl _ _⟩
end Go.Proofs.YtmgjhinbkhebjaaDoor.Lab
