/- DERIVED. The law's cut, same. -/
import Derived.Test.YtnpbogioehpeoaaMyrDiff
import Derived.Test.YtnpbogioehpeoaaCopyChg
import Derived.Test.YtnpbogioehpeoaaBefP
import Derived.Test.YtnpbogioehpeoaaSlUntil
import Derived.Deep.DeepCutAuto
namespace Go.Proofs.Ytnpbogioehpeoaa.Myr
open Go.RowKit Lns
def cutS (s : ByteArray) : ByteArray := s.extract 0 (min s.size 40)
def cutL (L : List ByteArray) : List ByteArray := (L.take 60).map cutS
theorem cutS_size (s : ByteArray) : (cutS s).size ≤ 40 := by
  unfold cutS
  rw [ByteArray.size_extract]; omega
theorem cutL_len (L : List ByteArray) : (cutL L).length ≤ 60 := by unfold cutL; rw [List.length_map, List.length_take]; omega
theorem cutL_size {L : List ByteArray} {x : ByteArray} (h : x ∈ cutL L) : x.size ≤ 40 := by
  obtain ⟨y, _, rfl⟩ := List.mem_map.1 h
  exact cutS_size y
theorem cut_step {L : List ByteArray} {k : Nat} (h : k < L.length) : (L.take k).map cutS ++ [cutS (nth L k)] = (L.take (k + 1)).map cutS := by
  rw [take_next h, List.map_append]; rfl
/-- append(m, x) as an operation, x laid in a block of its own somewhere. -/
theorem wp_app_txt {o : Oper} {a : Act} {K : Act → World → Prop} {Q : Exit → Act → World → Prop} {w : World} (s y : Operand)
    (ho : o.op = .call { callee := .builtin .append, args := #[s, y], argTypes := #[22, 22] }) (base : Nat) (v : Value) (L : List ByteArray) (x : ByteArray) (hs : a.eval s = v) (hown : OwnT base L v w)
    (g : Nat) (hy : a.eval y = .slice (some ⟨g, 0, none⟩) 1 1) (hg : w.heap[g]? = some (.cells #[.string x] 9 (0, 0))) (h63 : L.length ≤ 100000) (hbase : base ≤ w.heap.size)
    (h : ∀ v' w', OwnT base (L ++ [x]) v' w' → (∀ B u, Below B u w → B ≤ base → Below B u w') → K (a.put o.dst v') w') : o.wp Try.prog a w K Q := by
  obtain ⟨i0, hi0, hz00, hz10, hz20⟩ := info_parts infoTz
  refine wp_append_own _ s y 22 ho base 9 i0 (.string ByteArray.empty) 1 16 Try.underlying22 hi0 hz00 hz10 hz20 rfl (by decide) v L.length (L.map Value.string) hs hown ⟨g, 0, none⟩ 1 1 [.string x] hy rfl
    (fun j u hu => ?_) (fun u hu => ?_) (by unfold maxLen; omega) (by omega) hbase ?_
  · rw [Addr.add_mid, Nat.zero_add, cell_row hg]
    simpa using hu
  · simp only [List.mem_cons, List.mem_nil_iff, or_false] at hu
    subst hu; rfl
  · intro v' w' hown' hgrow _
    refine h v' w' ?_ (fun B u hu hB => ?_)
    · unfold OwnT
      rw [List.length_append, List.map_append]
      exact hown'
    · refine hu.grown hgrow (by omega) (fun k hk => ?_)
      have := (hown.lt k hk).1; omega
def TxB (t : ByteArray) (v : Value) (w : World) : Prop := ∃ g, v = .slice (some ⟨g, 0, none⟩) 1 1 ∧ w.heap[g]? = some (.cells #[.string t] 9 (0, 0))
theorem TxB.later {t : ByteArray} {v : Value} {w w' : World} (h : TxB t v w) (hb : Below w.heap.size w w') : TxB t v w' := by
  obtain ⟨g, e, h⟩ := h
  exact ⟨g, e, (hb.block _ (Array.getElem?_eq_some_iff.1 h).1).trans h⟩
structure CI (w : World) (L : List ByteArray) (k : Nat) (v : Value) (wr : World) : Prop where
  own : OwnT w.heap.size ((L.take k).map cutS) v wr
  low : Below w.heap.size w wr
set_option maxRecDepth 100000 in
set_option maxHeartbeats 1000000 in
theorem cut_any (L : List ByteArray) (v : Value) (w : World) (hR : RdT L v w) : Calls Try.prog 8 #[v] w fun e w' => ∃ v', e = .returned v' ∧ OwnT w.heap.size (cutL L) v' w' ∧ Below w.heap.size w w' := by
  obtain ⟨A, c, rfl, _, hk⟩ := hR
  obtain ⟨n, hn⟩ : ∃ n, n = L.length := ⟨_, rfl⟩
  have HK := Lib.hid hk
  have Hn := Lib.hid hn
  rw [← hn]
  have Hst : Hid (CI w L 0 (.slice none 0 0) w) := ⟨OwnT.nil _ _, Below.refl _ _⟩
  clear hk hn
  go_enter Try.func8, Try.ntmps8
  go_wp2
  go_loopw [3, 4] (fun v i wr => ∃ k : Nat, i = .int .i64 k ∧ k ≤ n ∧ k ≤ 60 ∧ Hid (CI w L k v wr)) (fun _ i _ => 60 - (intOf i).toNat)
  case atStart => exact ⟨0, rfl, Nat.zero_le _, Nat.zero_le _, Hst⟩
  case round =>
    obtain ⟨k, rfl, hkn, hk60, HI⟩ := hrel
    clear Hst
    by_cases hp : k < n
    · have hpI : (k : Int) < n := by omega
      by_cases h6 : k < 60
      · have h6I : (k : Int) < 60 := by omega
        have hpl : k < L.length := by rw [← Hn.out]; exact hp
        obtain ⟨g, off, rfl, hg, hc⟩ := HK.out (by omega)
        have Hcell := Lib.hid ((HI.out.low.cell (p := ⟨g, off + k, none⟩) hg).trans (hc k hpl))
        have Hlen : Hid (((L.take k).map cutS).length ≤ 100000) := by show _ ≤ 100000; rw [List.length_map, List.length_take]; omega
        have Hstep := Lib.hid (cut_step hpl)
        obtain ⟨s, hs⟩ : ∃ s, s = nth L k := ⟨_, rfl⟩
        rw [← hs] at Hcell Hstep
        obtain ⟨zz, hz⟩ : ∃ zz, zz = min s.size 40 := ⟨_, rfl⟩
        have hz1 : min (s.size : Int) 40 = (zz : Int) := by omega
        have hz2 : zz ≤ s.size := by omega
        have Hz : Hid (cutS s = s.extract 0 zz) := by unfold cutS; rw [← hz]; exact rfl
        rw [Hz.out] at Hstep
        obtain ⟨M, hM⟩ : ∃ M, M = (L.take (k + 1)).map cutS := ⟨_, rfl⟩
        rw [← hM] at Hstep
        have HM := Lib.hid hM
        clear hM
        have hc1 := Hcell.out
        clear hc hs hz
        have Hz2 := Lib.hid (And.intro hz1 hz2)
        have Hown := Lib.hid HI.out.own
        have Hlow := Lib.hid HI.out.low
        clear hc1 hz1 hz2
        go_wp2
        have apx : apartB [15, 16, 17, 18, 19, 20, 21, 22, 23, 24, 25, 26, 27, 28, 3] = true := by decide
        refine wp_region_any (by kernel_rfl) ?_
        change wpAny _ _ _ _ _ _ _ (World.drew _)
        refine wpAny_inv2 (fun ll aa wx => Hid (ll.size = 15 ∧ LastR 13 wr (Below w.heap.size w) ll wx) ∧ ∃ (z : Nat → Value), Hid (aa = ⟨#[.slice (some ⟨g, off, none⟩) n c, undef, .slice none 0 0, z 3, .int .i64 (k : Nat), .int .i64 (k : Nat), .slice (some ⟨g, off, none⟩) n c, .int .i64 (n : Nat), .bool true, .bool true, .int .i64 (k : Nat), .bool true, .bool true, u13, u14, z 15, z 16, z 17, z 18, z 19, z 20, z 21, z 22, z 23, z 24, z 25, z 26, z 27, z 28, undef], []⟩) ∧ Holding [15, 16, 17, 18, 19, 20, 21, 22, 23, 24, 25, 26, 27, 28, 3] [some (u3), some (.slice (some ⟨g, off, none⟩) n c), some (.int .i64 (k : Nat)), some (.pointer (some ⟨g, off + k, none⟩)), some (.string s), some (.slice (some ⟨g, off, none⟩) n c), some (.int .i64 (k : Nat)), some (.pointer (some ⟨g, off + k, none⟩)), some (.string s), some (.int .i64 (s.size : Nat)), some (.int .i64 (zz : Nat)), some (.string (s.extract 0 zz)), none, none, none] ll z ∧ Whu ll 12 13 (TxB (s.extract 0 zz)) (z 27) wx ∧ Whn ll 13 (OwnT w.heap.size M) (z 28) wx ∧ Whn ll 14 (OwnT w.heap.size M) (z 3) wx ∧ BefP ll 14 z 3 (u3)) ?_ (by kernel_rfl) ?_ ?_ _ rfl _ _ ?_
        · rintro ll aa wx ⟨hI, _⟩
          exact hI.out.1
        · rintro ll aa wx ⟨hI, z, ha, hz, hp12, hp13, hp14, hb14⟩ hall
          have hx := Lib.hid hI.out.2
          have e0 : z 15 = u3 := hz 0 _ (hall 0 (by decide)) rfl
          have e1 : z 16 = .slice (some ⟨g, off, none⟩) n c := hz 1 _ (hall 1 (by decide)) rfl
          have e2 : z 17 = .int .i64 (k : Nat) := hz 2 _ (hall 2 (by decide)) rfl
          have e3 : z 18 = .pointer (some ⟨g, off + k, none⟩) := hz 3 _ (hall 3 (by decide)) rfl
          have e4 : z 19 = .string s := hz 4 _ (hall 4 (by decide)) rfl
          have e5 : z 20 = .slice (some ⟨g, off, none⟩) n c := hz 5 _ (hall 5 (by decide)) rfl
          have e6 : z 21 = .int .i64 (k : Nat) := hz 6 _ (hall 6 (by decide)) rfl
          have e7 : z 22 = .pointer (some ⟨g, off + k, none⟩) := hz 7 _ (hall 7 (by decide)) rfl
          have e8 : z 23 = .string s := hz 8 _ (hall 8 (by decide)) rfl
          have e9 : z 24 = .int .i64 (s.size : Nat) := hz 9 _ (hall 9 (by decide)) rfl
          have e10 : z 25 = .int .i64 (zz : Nat) := hz 10 _ (hall 10 (by decide)) rfl
          have e11 : z 26 = .string (s.extract 0 zz) := hz 11 _ (hall 11 (by decide)) rfl
          have p13 := hp13.get (hall 13 (by decide))
          have p14 := hp14.get (hall 14 (by decide))
          have hallq := hall 13 (by decide)
          clear hall hz hI hp12 hp13 hp14 hb14
          obtain rfl := ha.out
          clear ha
          clear apx
          have HX := Lib.hid (hx.out.aft hallq)
          have HY : Hid (CI w L (k + 1) (z 3) wx) := ⟨by rw [← HM.out]; exact p14, HX.out⟩
          clear e0 e1 e2 e3 e4 e5 e6 e7 e8 e9 e10 e11 hx p13 p14
          go_wp2
          go_roundw
          case rel => exact ⟨k + 1, by go_num, by omega, by omega, HY⟩
          case measure => simp [intOf]; omega
        · rintro ll aa wx i ⟨hI, z, ha, hz, hp12, hp13, hp14, hb14⟩ hcl hi hu hw
          obtain rfl := ha.out
          have hsz := Lib.hid hI.out.1
          have hx := Lib.hid hI.out.2
          clear ha hI
          have hin : i < 15 := hi
          obtain rfl | rfl | rfl | rfl | rfl | rfl | rfl | rfl | rfl | rfl | rfl | rfl | rfl | rfl | rfl : i = 0 ∨ i = 1 ∨ i = 2 ∨ i = 3 ∨ i = 4 ∨ i = 5 ∨ i = 6 ∨ i = 7 ∨ i = 8 ∨ i = 9 ∨ i = 10 ∨ i = 11 ∨ i = 12 ∨ i = 13 ∨ i = 14 := by omega
          · have b14 : z 3 = u3 := hb14 (BefP.ok (fun hl => hcl 14 0 hl (by kernel_rfl)) hu)
            refine wpOp_plain rfl rfl ?_
            go_simp
            exact ⟨⟨by simp [hsz.out], hx.out.same (by decide)⟩, upd z 15 (u3), (by unfold Hid; simp [upd, b14]), hz.next apx hsz.out 0 (by decide) _ (fun _ h => Option.some.inj h), hp12.keep (by decide), hp13.keep (by decide), hp14.keep (by decide), BefP.keep hb14 (by decide)⟩
          · refine wpOp_plain rfl rfl ?_
            go_simp
            exact ⟨⟨by simp [hsz.out], hx.out.same (by decide)⟩, upd z 16 (.slice (some ⟨g, off, none⟩) n c), (by unfold Hid; simp [upd]), hz.next apx hsz.out 1 (by decide) _ (fun _ h => Option.some.inj h), hp12.keep (by decide), hp13.keep (by decide), hp14.keep (by decide), BefP.keep hb14 (by decide)⟩
          · refine wpOp_plain rfl rfl ?_
            go_simp
            exact ⟨⟨by simp [hsz.out], hx.out.same (by decide)⟩, upd z 17 (.int .i64 (k : Nat)), (by unfold Hid; simp [upd]), hz.next apx hsz.out 2 (by decide) _ (fun _ h => Option.some.inj h), hp12.keep (by decide), hp13.keep (by decide), hp14.keep (by decide), BefP.keep hb14 (by decide)⟩
          · have e1 : z 16 = .slice (some ⟨g, off, none⟩) n c := hz 1 _ (hw 1 (by kernel_rfl)) rfl
            have e2 : z 17 = .int .i64 (k : Nat) := hz 2 _ (hw 2 (by kernel_rfl)) rfl
            refine wpOp_plain rfl rfl ?_
            go_simp
            exact ⟨⟨by simp [hsz.out], hx.out.same (by decide)⟩, upd z 18 (.pointer (some ⟨g, off + k, none⟩)), (by unfold Hid; simp [upd, e1, e2]), hz.next apx hsz.out 3 (by decide) _ (fun _ h => Option.some.inj h), hp12.keep (by decide), hp13.keep (by decide), hp14.keep (by decide), BefP.keep hb14 (by decide)⟩
          · have e3 : z 18 = .pointer (some ⟨g, off + k, none⟩) := hz 3 _ (hw 3 (by kernel_rfl)) rfl
            have hnl := notlisted hu (fun hl => hcl 11 4 (hcl 12 11 (hcl 13 12 (hl) (by kernel_rfl)) (by kernel_rfl)) (by kernel_rfl))
            have cl := ((hx.out.bef hnl).cell (p := ⟨g, off + k, none⟩) (World.block_lt_of_cell? _ _ Hcell.out)).trans Hcell.out
            refine wpOp_plain rfl rfl ?_
            go_simp
            exact ⟨⟨by simp [hsz.out], hx.out.same (by decide)⟩, upd z 19 (.string s), (by unfold Hid; simp [upd, e3]), hz.next apx hsz.out 4 (by decide) _ (fun _ h => Option.some.inj h), hp12.keep (by decide), hp13.keep (by decide), hp14.keep (by decide), BefP.keep hb14 (by decide)⟩
          · refine wpOp_plain rfl rfl ?_
            go_simp
            exact ⟨⟨by simp [hsz.out], hx.out.same (by decide)⟩, upd z 20 (.slice (some ⟨g, off, none⟩) n c), (by unfold Hid; simp [upd]), hz.next apx hsz.out 5 (by decide) _ (fun _ h => Option.some.inj h), hp12.keep (by decide), hp13.keep (by decide), hp14.keep (by decide), BefP.keep hb14 (by decide)⟩
          · refine wpOp_plain rfl rfl ?_
            go_simp
            exact ⟨⟨by simp [hsz.out], hx.out.same (by decide)⟩, upd z 21 (.int .i64 (k : Nat)), (by unfold Hid; simp [upd]), hz.next apx hsz.out 6 (by decide) _ (fun _ h => Option.some.inj h), hp12.keep (by decide), hp13.keep (by decide), hp14.keep (by decide), BefP.keep hb14 (by decide)⟩
          · have e5 : z 20 = .slice (some ⟨g, off, none⟩) n c := hz 5 _ (hw 5 (by kernel_rfl)) rfl
            have e6 : z 21 = .int .i64 (k : Nat) := hz 6 _ (hw 6 (by kernel_rfl)) rfl
            refine wpOp_plain rfl rfl ?_
            go_simp
            exact ⟨⟨by simp [hsz.out], hx.out.same (by decide)⟩, upd z 22 (.pointer (some ⟨g, off + k, none⟩)), (by unfold Hid; simp [upd, e5, e6]), hz.next apx hsz.out 7 (by decide) _ (fun _ h => Option.some.inj h), hp12.keep (by decide), hp13.keep (by decide), hp14.keep (by decide), BefP.keep hb14 (by decide)⟩
          · have e7 : z 22 = .pointer (some ⟨g, off + k, none⟩) := hz 7 _ (hw 7 (by kernel_rfl)) rfl
            have hnl := notlisted hu (fun hl => hcl 9 8 (hcl 10 9 (hcl 11 10 (hcl 12 11 (hcl 13 12 (hl) (by kernel_rfl)) (by kernel_rfl)) (by kernel_rfl)) (by kernel_rfl)) (by kernel_rfl))
            have cl := ((hx.out.bef hnl).cell (p := ⟨g, off + k, none⟩) (World.block_lt_of_cell? _ _ Hcell.out)).trans Hcell.out
            refine wpOp_plain rfl rfl ?_
            go_simp
            exact ⟨⟨by simp [hsz.out], hx.out.same (by decide)⟩, upd z 23 (.string s), (by unfold Hid; simp [upd, e7]), hz.next apx hsz.out 8 (by decide) _ (fun _ h => Option.some.inj h), hp12.keep (by decide), hp13.keep (by decide), hp14.keep (by decide), BefP.keep hb14 (by decide)⟩
          · have e8 : z 23 = .string s := hz 8 _ (hw 8 (by kernel_rfl)) rfl
            refine wpOp_plain rfl rfl ?_
            go_simp
            exact ⟨⟨by simp [hsz.out], hx.out.same (by decide)⟩, upd z 24 (.int .i64 (s.size : Nat)), (by unfold Hid; simp [upd, e8]), hz.next apx hsz.out 9 (by decide) _ (fun _ h => Option.some.inj h), hp12.keep (by decide), hp13.keep (by decide), hp14.keep (by decide), BefP.keep hb14 (by decide)⟩
          · have e9 : z 24 = .int .i64 (s.size : Nat) := hz 9 _ (hw 9 (by kernel_rfl)) rfl
            have hz1 := Hz2.out.1
            refine wpOp_plain rfl rfl ?_
            go_simp
            exact ⟨⟨by simp [hsz.out], hx.out.same (by decide)⟩, upd z 25 (.int .i64 (zz : Nat)), (by unfold Hid; simp [upd, e9]), hz.next apx hsz.out 10 (by decide) _ (fun _ h => Option.some.inj h), hp12.keep (by decide), hp13.keep (by decide), hp14.keep (by decide), BefP.keep hb14 (by decide)⟩
          · have e4 : z 19 = .string s := hz 4 _ (hw 4 (by kernel_rfl)) rfl
            have e10 : z 25 = .int .i64 (zz : Nat) := hz 10 _ (hw 10 (by kernel_rfl)) rfl
            have hz2 := Hz2.out.2
            refine wpOp_plain rfl rfl ?_
            go_simp
            exact ⟨⟨by simp [hsz.out], hx.out.same (by decide)⟩, upd z 26 (.string (s.extract 0 zz)), (by unfold Hid; simp [upd, e4, e10]), hz.next apx hsz.out 11 (by decide) _ (fun _ h => Option.some.inj h), hp12.keep (by decide), hp13.keep (by decide), hp14.keep (by decide), BefP.keep hb14 (by decide)⟩
          · have e11 : z 26 = .string (s.extract 0 zz) := hz 11 _ (hw 11 (by kernel_rfl)) rfl
            have hnl := notlisted hu (fun hl => hcl 13 12 (hl) (by kernel_rfl))
            refine wpOp_plain rfl rfl ?_
            go_simp
            have lown : Below wx.heap.size wx (wx.alloc (.cells #[.string (s.extract 0 zz)] 9)) := (Below.refl _ _).alloc (Nat.le_refl _) _
            exact ⟨⟨by simp [hsz.out], hx.out.call (by decide) hnl lown⟩, upd z 27 (.slice (some ⟨wx.heap.size, 0, none⟩) 1 1), (by unfold Hid; simp [upd, e11]), hz.next apx hsz.out 12 (by decide) _ (fun _ h => by cases h), Whu.done (⟨_, rfl, heap_alloc_new _ _⟩), (hp13.keep (by decide)).map (fun h => h.later lown), (hp14.keep (by decide)).map (fun h => h.later lown), BefP.keep hb14 (by decide)⟩
          · have e0 : z 15 = u3 := hz 0 _ (hw 0 (by kernel_rfl)) rfl
            have p12 := hp12.get (hw 12 (by kernel_rfl)) hu
            have low := hx.out.bef hu
            obtain ⟨gq, vq, rq⟩ := p12
            refine wpOp_plain rfl rfl (wp_app_txt (.tmp 15) (.tmp 27) rfl w.heap.size u3 _ (s.extract 0 zz) (by show z 15 = _; exact e0) (own_stays Hown.out low) gq (by show z 27 = _; exact vq) rq Hlen.out (Nat.le_trans Hlow.out.size low.size) ?_)
            intro vr w4 own gr
            rw [Hstep.out] at own
            go_simp
            exact ⟨⟨by simp [hsz.out], hx.out.done (by rw [hsz.out]; decide) (gr _ _ (Hlow.out.trans (low.mono Hlow.out.size)) (Nat.le_refl _))⟩, upd z 28 (vr), (by unfold Hid; simp [upd, e0, vq]), hz.next apx hsz.out 13 (by decide) _ (fun _ h => by cases h), Whu.past (by rw [hsz.out]; decide), Whn.done (own), Whn.never (by decide) (fun hl => hcl 14 13 hl (by kernel_rfl)) hu, BefP.keep hb14 (by decide)⟩
          · have p13 := hp13.get (hw 13 (by kernel_rfl))
            refine wpOp_plain rfl rfl ?_
            go_simp
            exact ⟨⟨by simp [hsz.out], hx.out.same (by decide)⟩, upd z 3 ((z 28)), (by unfold Hid; simp [upd]), hz.next apx hsz.out 14 (by decide) _ (fun _ h => by cases h), hp12.keep (by decide), hp13.keep (by decide), Whn.done (p13), BefP.past (by rw [hsz.out]; decide)⟩
        · exact ⟨⟨rfl, LastR.start⟩, fun xx => (#[.slice (some ⟨g, off, none⟩) n c, undef, .slice none 0 0, u3, .int .i64 (k : Nat), .int .i64 (k : Nat), .slice (some ⟨g, off, none⟩) n c, .int .i64 (n : Nat), .bool true, .bool true, .int .i64 (k : Nat), .bool true, .bool true, u13, u14, u15, u16, u17, u18, u19, u20, u21, u22, u23, u24, u25, u26, u27, u28, undef] : Array Value).getD xx undef, (by rfl), Holding.start, Whu.none (by decide), Whn.none (by decide), Whn.none (by decide), BefP.start rfl⟩
      · have h6I : ¬ (k : Int) < 60 := by omega
        have HR : Hid (OwnT w.heap.size (cutL L) u3 wr ∧ Below w.heap.size w wr) := by
          obtain ⟨h1, h2⟩ := HI.out
          obtain rfl : k = 60 := by omega
          exact ⟨h1, h2⟩
        clear HI
        go_wp2
        go_ret
        exact ⟨_, rfl, HR.out.1, HR.out.2⟩
    · have hpI : ¬ (k : Int) < n := by omega
      have HR : Hid (OwnT w.heap.size (cutL L) u3 wr ∧ Below w.heap.size w wr) := by
        obtain ⟨h1, h2⟩ := HI.out
        have e1 : L.take k = L := List.take_of_length_le (by rw [← Hn.out]; omega)
        have e2 : L.take 60 = L := List.take_of_length_le (by rw [← Hn.out]; omega)
        rw [e1] at h1
        unfold cutL
        rw [e2]
        exact ⟨h1, h2⟩
      clear HI
      go_wp2
      go_ret
      exact ⟨_, rfl, HR.out.1, HR.out.2⟩
end Go.Proofs.Ytnpbogioehpeoaa.Myr
