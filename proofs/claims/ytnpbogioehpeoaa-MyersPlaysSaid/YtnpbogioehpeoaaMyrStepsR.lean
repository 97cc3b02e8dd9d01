/- DERIVED. The law's steps: a script, as the reference's. -/
import Derived.Test.YtnpbogioehpeoaaMyrRDiff
import Derived.Test.YtnpbogioehpeoaaMyrCut
namespace Go.Proofs.Ytnpbogioehpeoaa.Myr
open Go.RowKit Lns
/-- append(l, s) as an operation, s laid in a block of its own somewhere. -/
theorem wp_app_step {o : Oper} {a : Act} {K : Act → World → Prop} {Q : Exit → Act → World → Prop} {w : World} (s y : Operand) (T e : TypeId) (hT : Try.prog.underlying T = some (.slice e))
    (hz : (Try.prog.info? e).map (fun i => (i.zero, i.size, i.bytes)) = some (some stepZ, 3, 24))
    (ho : o.op = .call { callee := .builtin .append, args := #[s, y], argTypes := #[T, T] }) (base : Nat) (v : Value) (S : List Sti) (x : Sti) (hs : a.eval s = v) (hown : OwnS e base S v w)
    (g : Nat) (hy : a.eval y = .slice (some ⟨g, 0, none⟩) 1 1) (hg : w.heap[g]? = some (.cells #[.int .i64 x.1, .int .i64 x.2.1, .int .i64 x.2.2] e (0, 0))) (h63 : S.length ≤ 100000) (hbase : base ≤ w.heap.size)
    (h : ∀ v' w', OwnS e base (S ++ [x]) v' w' → (∀ B u, Below B u w → B ≤ base → Below B u w') → K (a.put o.dst v') w') : o.wp Try.prog a w K Q := by
  obtain ⟨i0, hi0, hz00, hz10, hz20⟩ := info_parts hz
  refine wp_append_own _ s y T ho base e i0 stepZ 3 24 hT hi0 hz00 hz10 hz20 rfl (by decide) v S.length (flatS S) hs hown ⟨g, 0, none⟩ 1 1 (c3 x) hy rfl
    (fun j u hu => ?_) (fun u hu => ?_) (by unfold maxLen; omega) (by omega) hbase ?_
  · rw [Addr.add_mid, Nat.zero_add, cell_row hg]
    simpa [c3] using hu
  · simp only [c3, List.mem_cons, List.mem_nil_iff, or_false] at hu
    rcases hu with rfl | rfl | rfl <;> rfl
  · intro v' w' hown' hgrow _
    refine h v' w' ?_ (fun B u hu hB => ?_)
    · unfold OwnS
      rw [List.length_append, flatS_app]
      exact hown'
    · refine hu.grown hgrow (by omega) (fun k hk => ?_)
      have := (World.ownsRow.lt hown k hk).1; omega
def StB (s : Sti) (v : Value) (w : World) : Prop := ∃ g, v = .slice (some ⟨g, 0, none⟩) 1 1 ∧ w.heap[g]? = some (.cells #[.int .i64 s.1, .int .i64 s.2.1, .int .i64 s.2.2] 33 (0, 0))
theorem StB.later {s : Sti} {v : Value} {w w' : World} (h : StB s v w) (hb : Below w.heap.size w w') : StB s v w' := by
  obtain ⟨g, e, h⟩ := h
  exact ⟨g, e, (hb.block _ (Array.getElem?_eq_some_iff.1 h).1).trans h⟩
structure SS (w : World) (S : List Sti) (k : Nat) (v : Value) (wr : World) : Prop where
  own : OwnS 33 w.heap.size (S.take k) v wr
  low : Below w.heap.size w wr
set_option maxRecDepth 100000 in
set_option maxHeartbeats 4000000 in
theorem steps_any (S : List Sti) (v : Value) (w : World) (hR : RdS S v w) (hn9 : S.length ≤ 100000) : Calls Try.prog 11 #[v] w fun e w' => ∃ v', e = .returned v' ∧ OwnS 33 w.heap.size S v' w' ∧ Below w.heap.size w w' := by
  obtain ⟨A, c, rfl, hcc, hk⟩ := hR
  obtain ⟨n, hn⟩ : ∃ n, n = S.length := ⟨_, rfl⟩
  have HK := Lib.hid hk
  have Hn := Lib.hid hn
  rw [← hn] at hn9 ⊢
  have Hst : Hid (SS w S 0 (.slice none 0 0) w) := ⟨OwnS.nil _ _ _, Below.refl _ _⟩
  clear hk hn hcc
  go_enter Try.func11, Try.ntmps11
  go_wp2
  go_loopw [3, 4] (fun v i wr => ∃ k : Nat, i = .int .i64 k ∧ k ≤ n ∧ Hid (SS w S k v wr)) (fun _ i _ => n - (intOf i).toNat)
  case atStart => exact ⟨0, rfl, Nat.zero_le _, Hst⟩
  case round =>
    obtain ⟨k, rfl, hkn, HI⟩ := hrel
    clear Hst
    by_cases hp : k < n
    · have hpI : (k : Int) < n := by omega
      have hpl : k < S.length := by rw [← Hn.out]; exact hp
      obtain ⟨g, off, rfl, hg, hc⟩ := HK.out (by omega)
      obtain ⟨c0, c1, c2⟩ := hc k hpl
      have Hc0 := Lib.hid ((HI.out.low.cell (p := ⟨g, off + k * 3, none⟩) hg).trans c0)
      have Hc1 := Lib.hid ((HI.out.low.cell (p := ⟨g, off + k * 3 + 1, none⟩) hg).trans c1)
      have Hc2 := Lib.hid ((HI.out.low.cell (p := ⟨g, off + k * 3 + 2, none⟩) hg).trans c2)
      have Hlen : Hid ((S.take k).length ≤ 100000) := by show _ ≤ 100000; rw [List.length_take]; omega
      have Hstep := Lib.hid (takeS hpl).symm
      obtain ⟨⟨t0, t1, t2⟩, ht⟩ : ∃ t, t = sth S k := ⟨_, rfl⟩
      rw [← ht] at Hc0 Hc1 Hc2 Hstep
      dsimp only at Hc0 Hc1 Hc2
      obtain ⟨M, hM⟩ : ∃ M, M = S.take (k + 1) := ⟨_, rfl⟩
      rw [← hM] at Hstep
      have HM := Lib.hid hM
      have Hown := Lib.hid HI.out.own
      have Hlow := Lib.hid HI.out.low
      obtain ⟨L, hL⟩ : ∃ L, L = S.take k := ⟨_, rfl⟩
      rw [← hL] at Hown Hlen Hstep
      clear hM hL ht hc c0 c1 c2
      go_wp2
      have apx : apartB [11, 12, 13, 14, 15, 16, 17, 18, 19, 20, 21, 22, 23, 24, 25, 26, 27, 28, 29, 3] = true := by decide
      refine wp_region_any (by kernel_rfl) ?_
      change wpAny _ _ _ _ _ _ _ (World.drew _)
      refine wpAny_inv2 (fun ll aa wx => Hid (ll.size = 20 ∧ LastR 18 wr (Below w.heap.size w) ll wx) ∧ ∃ (z : Nat → Value), Hid (aa = ⟨#[.slice (some ⟨g, off, none⟩) n c, undef, .slice none 0 0, z 3, .int .i64 (k : Nat), .int .i64 (k : Nat), .slice (some ⟨g, off, none⟩) n c, .int .i64 (n : Nat), .bool true, u9, u10, z 11, z 12, z 13, z 14, z 15, z 16, z 17, z 18, z 19, z 20, z 21, z 22, z 23, z 24, z 25, z 26, z 27, z 28, z 29, undef], []⟩) ∧ Holding [11, 12, 13, 14, 15, 16, 17, 18, 19, 20, 21, 22, 23, 24, 25, 26, 27, 28, 29, 3] [some (u3), some (.slice (some ⟨g, off, none⟩) n c), some (.int .i64 (k : Nat)), some (.pointer (some ⟨g, off + k * 3, none⟩)), some (.pointer (some ⟨g, off + k * 3, none⟩)), some (.int .i64 t0), some (.slice (some ⟨g, off, none⟩) n c), some (.int .i64 (k : Nat)), some (.pointer (some ⟨g, off + k * 3, none⟩)), some (.pointer (some ⟨g, off + k * 3 + 1, none⟩)), some (.int .i64 t1), some (.slice (some ⟨g, off, none⟩) n c), some (.int .i64 (k : Nat)), some (.pointer (some ⟨g, off + k * 3, none⟩)), some (.pointer (some ⟨g, off + k * 3 + 2, none⟩)), some (.int .i64 t2), some (.agg #[.int .i64 t0, .int .i64 t1, .int .i64 t2]), none, none, none] ll z ∧ Whu ll 17 18 (StB (t0, t1, t2)) (z 28) wx ∧ Whn ll 18 (OwnS 33 w.heap.size M) (z 29) wx ∧ Whn ll 19 (OwnS 33 w.heap.size M) (z 3) wx ∧ BefP ll 19 z 3 (u3)) ?_ (by kernel_rfl) ?_ ?_ _ rfl _ _ ?_
      · rintro ll aa wx ⟨hI, _⟩
        exact hI.out.1
      · rintro ll aa wx ⟨hI, z, ha, hz, hp17, hp18, hp19, hb19⟩ hall
        have hx := Lib.hid hI.out.2
        have e0 : z 11 = u3 := hz 0 _ (hall 0 (by decide)) rfl
        have e1 : z 12 = .slice (some ⟨g, off, none⟩) n c := hz 1 _ (hall 1 (by decide)) rfl
        have e2 : z 13 = .int .i64 (k : Nat) := hz 2 _ (hall 2 (by decide)) rfl
        have e3 : z 14 = .pointer (some ⟨g, off + k * 3, none⟩) := hz 3 _ (hall 3 (by decide)) rfl
        have e4 : z 15 = .pointer (some ⟨g, off + k * 3, none⟩) := hz 4 _ (hall 4 (by decide)) rfl
        have e5 : z 16 = .int .i64 t0 := hz 5 _ (hall 5 (by decide)) rfl
        have e6 : z 17 = .slice (some ⟨g, off, none⟩) n c := hz 6 _ (hall 6 (by decide)) rfl
        have e7 : z 18 = .int .i64 (k : Nat) := hz 7 _ (hall 7 (by decide)) rfl
        have e8 : z 19 = .pointer (some ⟨g, off + k * 3, none⟩) := hz 8 _ (hall 8 (by decide)) rfl
        have e9 : z 20 = .pointer (some ⟨g, off + k * 3 + 1, none⟩) := hz 9 _ (hall 9 (by decide)) rfl
        have e10 : z 21 = .int .i64 t1 := hz 10 _ (hall 10 (by decide)) rfl
        have e11 : z 22 = .slice (some ⟨g, off, none⟩) n c := hz 11 _ (hall 11 (by decide)) rfl
        have e12 : z 23 = .int .i64 (k : Nat) := hz 12 _ (hall 12 (by decide)) rfl
        have e13 : z 24 = .pointer (some ⟨g, off + k * 3, none⟩) := hz 13 _ (hall 13 (by decide)) rfl
        have e14 : z 25 = .pointer (some ⟨g, off + k * 3 + 2, none⟩) := hz 14 _ (hall 14 (by decide)) rfl
        have e15 : z 26 = .int .i64 t2 := hz 15 _ (hall 15 (by decide)) rfl
        have e16 : z 27 = .agg #[.int .i64 t0, .int .i64 t1, .int .i64 t2] := hz 16 _ (hall 16 (by decide)) rfl
        have p18 := hp18.get (hall 18 (by decide))
        have p19 := hp19.get (hall 19 (by decide))
        have hallq := hall 18 (by decide)
        clear hall hz hI hp17 hp18 hp19 hb19
        obtain rfl := ha.out
        clear ha
        clear apx
        have HX := Lib.hid (hx.out.aft hallq)
        have HY : Hid (SS w S (k + 1) (z 3) wx) := ⟨by rw [← HM.out]; exact p19, HX.out⟩
        clear e0 e1 e2 e3 e4 e5 e6 e7 e8 e9 e10 e11 e12 e13 e14 e15 e16 hx p18 p19
        go_wp2
        go_roundw
        case rel => exact ⟨k + 1, by go_num, by omega, HY⟩
        case measure => simp [intOf]; omega
      · rintro ll aa wx i ⟨hI, z, ha, hz, hp17, hp18, hp19, hb19⟩ hcl hi hu hw
        obtain rfl := ha.out
        have hsz := Lib.hid hI.out.1
        have hx := Lib.hid hI.out.2
        clear ha hI
        have hin : i < 20 := hi
        obtain rfl | rfl | rfl | rfl | rfl | rfl | rfl | rfl | rfl | rfl | rfl | rfl | rfl | rfl | rfl | rfl | rfl | rfl | rfl | rfl : i = 0 ∨ i = 1 ∨ i = 2 ∨ i = 3 ∨ i = 4 ∨ i = 5 ∨ i = 6 ∨ i = 7 ∨ i = 8 ∨ i = 9 ∨ i = 10 ∨ i = 11 ∨ i = 12 ∨ i = 13 ∨ i = 14 ∨ i = 15 ∨ i = 16 ∨ i = 17 ∨ i = 18 ∨ i = 19 := by omega
        · have b19 : z 3 = u3 := hb19 (BefP.ok (fun hl => hcl 19 0 hl (by kernel_rfl)) hu)
          refine wpOp_plain rfl rfl ?_
          go_simp
          exact ⟨⟨by simp [hsz.out], hx.out.same (by decide)⟩, upd z 11 (u3), (by unfold Hid; simp [upd, b19]), hz.next apx hsz.out 0 (by decide) _ (fun _ h => Option.some.inj h), hp17.keep (by decide), hp18.keep (by decide), hp19.keep (by decide), BefP.keep hb19 (by decide)⟩
        · refine wpOp_plain rfl rfl ?_
          go_simp
          exact ⟨⟨by simp [hsz.out], hx.out.same (by decide)⟩, upd z 12 (.slice (some ⟨g, off, none⟩) n c), (by unfold Hid; simp [upd]), hz.next apx hsz.out 1 (by decide) _ (fun _ h => Option.some.inj h), hp17.keep (by decide), hp18.keep (by decide), hp19.keep (by decide), BefP.keep hb19 (by decide)⟩
        · refine wpOp_plain rfl rfl ?_
          go_simp
          exact ⟨⟨by simp [hsz.out], hx.out.same (by decide)⟩, upd z 13 (.int .i64 (k : Nat)), (by unfold Hid; simp [upd]), hz.next apx hsz.out 2 (by decide) _ (fun _ h => Option.some.inj h), hp17.keep (by decide), hp18.keep (by decide), hp19.keep (by decide), BefP.keep hb19 (by decide)⟩
        · have e1 : z 12 = .slice (some ⟨g, off, none⟩) n c := hz 1 _ (hw 1 (by kernel_rfl)) rfl
          have e2 : z 13 = .int .i64 (k : Nat) := hz 2 _ (hw 2 (by kernel_rfl)) rfl
          refine wpOp_plain rfl rfl ?_
          go_simp
          exact ⟨⟨by simp [hsz.out], hx.out.same (by decide)⟩, upd z 14 (.pointer (some ⟨g, off + k * 3, none⟩)), (by unfold Hid; simp [upd, e1, e2]), hz.next apx hsz.out 3 (by decide) _ (fun _ h => Option.some.inj h), hp17.keep (by decide), hp18.keep (by decide), hp19.keep (by decide), BefP.keep hb19 (by decide)⟩
        · have e3 : z 14 = .pointer (some ⟨g, off + k * 3, none⟩) := hz 3 _ (hw 3 (by kernel_rfl)) rfl
          refine wpOp_plain rfl rfl ?_
          go_simp
          exact ⟨⟨by simp [hsz.out], hx.out.same (by decide)⟩, upd z 15 (.pointer (some ⟨g, off + k * 3, none⟩)), (by unfold Hid; simp [upd, e3]), hz.next apx hsz.out 4 (by decide) _ (fun _ h => Option.some.inj h), hp17.keep (by decide), hp18.keep (by decide), hp19.keep (by decide), BefP.keep hb19 (by decide)⟩
        · have e4 : z 15 = .pointer (some ⟨g, off + k * 3, none⟩) := hz 4 _ (hw 4 (by kernel_rfl)) rfl
          have hnl := notlisted hu (fun hl => hcl 16 5 (hcl 17 16 (hcl 18 17 (hl) (by kernel_rfl)) (by kernel_rfl)) (by kernel_rfl))
          have cl := ((hx.out.bef hnl).cell (p := ⟨g, off + k * 3, none⟩) (World.block_lt_of_cell? _ _ Hc0.out)).trans Hc0.out
          refine wpOp_plain rfl rfl ?_
          go_simp
          exact ⟨⟨by simp [hsz.out], hx.out.same (by decide)⟩, upd z 16 (.int .i64 t0), (by unfold Hid; simp [upd, e4]), hz.next apx hsz.out 5 (by decide) _ (fun _ h => Option.some.inj h), hp17.keep (by decide), hp18.keep (by decide), hp19.keep (by decide), BefP.keep hb19 (by decide)⟩
        · refine wpOp_plain rfl rfl ?_
          go_simp
          exact ⟨⟨by simp [hsz.out], hx.out.same (by decide)⟩, upd z 17 (.slice (some ⟨g, off, none⟩) n c), (by unfold Hid; simp [upd]), hz.next apx hsz.out 6 (by decide) _ (fun _ h => Option.some.inj h), hp17.keep (by decide), hp18.keep (by decide), hp19.keep (by decide), BefP.keep hb19 (by decide)⟩
        · refine wpOp_plain rfl rfl ?_
          go_simp
          exact ⟨⟨by simp [hsz.out], hx.out.same (by decide)⟩, upd z 18 (.int .i64 (k : Nat)), (by unfold Hid; simp [upd]), hz.next apx hsz.out 7 (by decide) _ (fun _ h => Option.some.inj h), hp17.keep (by decide), hp18.keep (by decide), hp19.keep (by decide), BefP.keep hb19 (by decide)⟩
        · have e6 : z 17 = .slice (some ⟨g, off, none⟩) n c := hz 6 _ (hw 6 (by kernel_rfl)) rfl
          have e7 : z 18 = .int .i64 (k : Nat) := hz 7 _ (hw 7 (by kernel_rfl)) rfl
          refine wpOp_plain rfl rfl ?_
          go_simp
          exact ⟨⟨by simp [hsz.out], hx.out.same (by decide)⟩, upd z 19 (.pointer (some ⟨g, off + k * 3, none⟩)), (by unfold Hid; simp [upd, e6, e7]), hz.next apx hsz.out 8 (by decide) _ (fun _ h => Option.some.inj h), hp17.keep (by decide), hp18.keep (by decide), hp19.keep (by decide), BefP.keep hb19 (by decide)⟩
        · have e8 : z 19 = .pointer (some ⟨g, off + k * 3, none⟩) := hz 8 _ (hw 8 (by kernel_rfl)) rfl
          refine wpOp_plain rfl rfl ?_
          go_simp
          exact ⟨⟨by simp [hsz.out], hx.out.same (by decide)⟩, upd z 20 (.pointer (some ⟨g, off + k * 3 + 1, none⟩)), (by unfold Hid; simp [upd, e8]), hz.next apx hsz.out 9 (by decide) _ (fun _ h => Option.some.inj h), hp17.keep (by decide), hp18.keep (by decide), hp19.keep (by decide), BefP.keep hb19 (by decide)⟩
        · have e9 : z 20 = .pointer (some ⟨g, off + k * 3 + 1, none⟩) := hz 9 _ (hw 9 (by kernel_rfl)) rfl
          have hnl := notlisted hu (fun hl => hcl 16 10 (hcl 17 16 (hcl 18 17 (hl) (by kernel_rfl)) (by kernel_rfl)) (by kernel_rfl))
          have cl := ((hx.out.bef hnl).cell (p := ⟨g, off + k * 3 + 1, none⟩) (World.block_lt_of_cell? _ _ Hc1.out)).trans Hc1.out
          refine wpOp_plain rfl rfl ?_
          go_simp
          exact ⟨⟨by simp [hsz.out], hx.out.same (by decide)⟩, upd z 21 (.int .i64 t1), (by unfold Hid; simp [upd, e9]), hz.next apx hsz.out 10 (by decide) _ (fun _ h => Option.some.inj h), hp17.keep (by decide), hp18.keep (by decide), hp19.keep (by decide), BefP.keep hb19 (by decide)⟩
        · refine wpOp_plain rfl rfl ?_
          go_simp
          exact ⟨⟨by simp [hsz.out], hx.out.same (by decide)⟩, upd z 22 (.slice (some ⟨g, off, none⟩) n c), (by unfold Hid; simp [upd]), hz.next apx hsz.out 11 (by decide) _ (fun _ h => Option.some.inj h), hp17.keep (by decide), hp18.keep (by decide), hp19.keep (by decide), BefP.keep hb19 (by decide)⟩
        · refine wpOp_plain rfl rfl ?_
          go_simp
          exact ⟨⟨by simp [hsz.out], hx.out.same (by decide)⟩, upd z 23 (.int .i64 (k : Nat)), (by unfold Hid; simp [upd]), hz.next apx hsz.out 12 (by decide) _ (fun _ h => Option.some.inj h), hp17.keep (by decide), hp18.keep (by decide), hp19.keep (by decide), BefP.keep hb19 (by decide)⟩
        · have e11 : z 22 = .slice (some ⟨g, off, none⟩) n c := hz 11 _ (hw 11 (by kernel_rfl)) rfl
          have e12 : z 23 = .int .i64 (k : Nat) := hz 12 _ (hw 12 (by kernel_rfl)) rfl
          refine wpOp_plain rfl rfl ?_
          go_simp
          exact ⟨⟨by simp [hsz.out], hx.out.same (by decide)⟩, upd z 24 (.pointer (some ⟨g, off + k * 3, none⟩)), (by unfold Hid; simp [upd, e11, e12]), hz.next apx hsz.out 13 (by decide) _ (fun _ h => Option.some.inj h), hp17.keep (by decide), hp18.keep (by decide), hp19.keep (by decide), BefP.keep hb19 (by decide)⟩
        · have e13 : z 24 = .pointer (some ⟨g, off + k * 3, none⟩) := hz 13 _ (hw 13 (by kernel_rfl)) rfl
          refine wpOp_plain rfl rfl ?_
          go_simp
          exact ⟨⟨by simp [hsz.out], hx.out.same (by decide)⟩, upd z 25 (.pointer (some ⟨g, off + k * 3 + 2, none⟩)), (by unfold Hid; simp [upd, e13]), hz.next apx hsz.out 14 (by decide) _ (fun _ h => Option.some.inj h), hp17.keep (by decide), hp18.keep (by decide), hp19.keep (by decide), BefP.keep hb19 (by decide)⟩
        · have e14 : z 25 = .pointer (some ⟨g, off + k * 3 + 2, none⟩) := hz 14 _ (hw 14 (by kernel_rfl)) rfl
          have hnl := notlisted hu (fun hl => hcl 16 15 (hcl 17 16 (hcl 18 17 (hl) (by kernel_rfl)) (by kernel_rfl)) (by kernel_rfl))
          have cl := ((hx.out.bef hnl).cell (p := ⟨g, off + k * 3 + 2, none⟩) (World.block_lt_of_cell? _ _ Hc2.out)).trans Hc2.out
          refine wpOp_plain rfl rfl ?_
          go_simp
          exact ⟨⟨by simp [hsz.out], hx.out.same (by decide)⟩, upd z 26 (.int .i64 t2), (by unfold Hid; simp [upd, e14]), hz.next apx hsz.out 15 (by decide) _ (fun _ h => Option.some.inj h), hp17.keep (by decide), hp18.keep (by decide), hp19.keep (by decide), BefP.keep hb19 (by decide)⟩
        · have e5 : z 16 = .int .i64 t0 := hz 5 _ (hw 5 (by kernel_rfl)) rfl
          have e10 : z 21 = .int .i64 t1 := hz 10 _ (hw 10 (by kernel_rfl)) rfl
          have e15 : z 26 = .int .i64 t2 := hz 15 _ (hw 15 (by kernel_rfl)) rfl
          refine wpOp_plain rfl rfl ?_
          go_simp
          exact ⟨⟨by simp [hsz.out], hx.out.same (by decide)⟩, upd z 27 (.agg #[.int .i64 t0, .int .i64 t1, .int .i64 t2]), (by unfold Hid; simp [upd, e5, e10, e15]), hz.next apx hsz.out 16 (by decide) _ (fun _ h => Option.some.inj h), hp17.keep (by decide), hp18.keep (by decide), hp19.keep (by decide), BefP.keep hb19 (by decide)⟩
        · have e16 : z 27 = .agg #[.int .i64 t0, .int .i64 t1, .int .i64 t2] := hz 16 _ (hw 16 (by kernel_rfl)) rfl
          have hnl := notlisted hu (fun hl => hcl 18 17 (hl) (by kernel_rfl))
          refine wpOp_plain rfl rfl ?_
          go_simp
          have lown : Below wx.heap.size wx (wx.alloc (.cells #[.int .i64 t0, .int .i64 t1, .int .i64 t2] 33)) := (Below.refl _ _).alloc (Nat.le_refl _) _
          exact ⟨⟨by simp [hsz.out], hx.out.call (by decide) hnl lown⟩, upd z 28 (.slice (some ⟨wx.heap.size, 0, none⟩) 1 1), (by unfold Hid; simp [upd, e16]), hz.next apx hsz.out 17 (by decide) _ (fun _ h => by cases h), Whu.done (⟨_, rfl, heap_alloc_new _ _⟩), (hp18.keep (by decide)).map (fun h => h.later lown), (hp19.keep (by decide)).map (fun h => h.later lown), BefP.keep hb19 (by decide)⟩
        · have e0 : z 11 = u3 := hz 0 _ (hw 0 (by kernel_rfl)) rfl
          have p17 := hp17.get (hw 17 (by kernel_rfl)) hu
          have low := hx.out.bef hu
          obtain ⟨gq, vq, rq⟩ := p17
          refine wpOp_plain rfl rfl (wp_app_step (.tmp 11) (.tmp 28) 28 33 Try.underlying28 infoRz rfl w.heap.size u3 L (t0, t1, t2) (by show z 11 = _; exact e0) (own_stays Hown.out low) gq (by show z 28 = _; exact vq) rq Hlen.out (Nat.le_trans Hlow.out.size low.size) ?_)
          intro vr w4 own gr
          rw [Hstep.out] at own
          go_simp
          exact ⟨⟨by simp [hsz.out], hx.out.done (by rw [hsz.out]; decide) (gr _ _ (Hlow.out.trans (low.mono Hlow.out.size)) (Nat.le_refl _))⟩, upd z 29 (vr), (by unfold Hid; simp [upd, e0, vq]), hz.next apx hsz.out 18 (by decide) _ (fun _ h => by cases h), Whu.past (by rw [hsz.out]; decide), Whn.done (own), Whn.never (by decide) (fun hl => hcl 19 18 hl (by kernel_rfl)) hu, BefP.keep hb19 (by decide)⟩
        · have p18 := hp18.get (hw 18 (by kernel_rfl))
          refine wpOp_plain rfl rfl ?_
          go_simp
          exact ⟨⟨by simp [hsz.out], hx.out.same (by decide)⟩, upd z 3 ((z 29)), (by unfold Hid; simp [upd]), hz.next apx hsz.out 19 (by decide) _ (fun _ h => by cases h), hp17.keep (by decide), hp18.keep (by decide), Whn.done (p18), BefP.past (by rw [hsz.out]; decide)⟩
      · exact ⟨⟨rfl, LastR.start⟩, fun xx => (#[.slice (some ⟨g, off, none⟩) n c, undef, .slice none 0 0, u3, .int .i64 (k : Nat), .int .i64 (k : Nat), .slice (some ⟨g, off, none⟩) n c, .int .i64 (n : Nat), .bool true, u9, u10, u11, u12, u13, u14, u15, u16, u17, u18, u19, u20, u21, u22, u23, u24, u25, u26, u27, u28, u29, undef] : Array Value).getD xx undef, (by rfl), Holding.start, Whu.none (by decide), Whn.none (by decide), Whn.none (by decide), BefP.start rfl⟩
    · have hpI : ¬ (k : Int) < n := by omega
      have HR : Hid (OwnS 33 w.heap.size S u3 wr ∧ Below w.heap.size w wr) := by
        obtain ⟨h1, h2⟩ := HI.out
        rw [List.take_of_length_le (by rw [← Hn.out]; omega)] at h1
        exact ⟨h1, h2⟩
      clear HI
      go_wp2
      go_ret
      exact ⟨_, rfl, HR.out.1, HR.out.2⟩
end Go.Proofs.Ytnpbogioehpeoaa.Myr
