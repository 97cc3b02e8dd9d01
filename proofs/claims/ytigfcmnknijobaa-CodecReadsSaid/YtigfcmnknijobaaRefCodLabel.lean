/- DERIVED. The contracts of the reference's Label and Vertex of layer 4. Written by mkrefs.py. -/
import Derived.Test.YtigfcmnknijobaaRefCodNum
import Derived.Test.YtigfcmnknijobaaSlUntil
namespace Go.Proofs.Ytigfcmnknijobaa.Cod
open Go.RowKit Str
set_option maxRecDepth 100000 in
set_option maxHeartbeats 1000000 in
theorem rlabel (lv : Int) (c : Nat) (hc : c < 18446744073709551616) (w : World) :
    Calls Try.prog 32 #[.agg #[.int .i64 lv, .int .u64 (c : Nat)]] w fun e w' => ∃ v, e = .returned v ∧ NewB w.heap.size (labelL lv c) v w' ∧ Below w.heap.size w w' := by
  have hrow := Go.heap_alloc_new w (.cells #[.int .i64 lv, .int .u64 (c : Nat)] 34)
  have d1 := cell_row hrow 1
  simp only [List.getElem?_toArray, List.getElem?_cons_zero, List.getElem?_cons_succ] at d1
  have Hrow := Lib.hid hrow
  have hlow := Lib.hid ((Below.refl w.heap.size w).alloc (Nat.le_refl _) (.cells #[.int .i64 lv, .int .u64 (c : Nat)] 34))
  have HC := Lib.hid hc
  clear hrow hc
  go_enter Try.func32, Try.ntmps32
  go_wp2
  clear d1
  go_loopw [3, 4, 5] (fun v x i wr => ∃ k m : Nat, k ≤ 8 ∧ i = .int .i64 (k : Nat) ∧ x = .int .u64 (m : Nat) ∧ Hid (m = c / 256 ^ k) ∧ Hid (wr.ownsRow (w.heap.size + 1) 5 1 v k (vals ((compL c).drop (8 - k)))) ∧ Hid (Below w.heap.size w wr) ∧ Hid (wr.heap[w.heap.size]? = some (.cells #[.int .i64 lv, .int .u64 (c : Nat)] 34 (0, 0)))) (fun _ _ i _ => 8 - (intOf i).toNat)
  case atStart => exact ⟨0, c, by omega, rfl, rfl, by show _ = _; simp, World.ownsRow_nil _ _ _ _, hlow.out, Hrow.out⟩
  case round =>
    obtain ⟨k, m, hk, rfl, rfl, hm, own, low, row⟩ := hrel
    by_cases hlt : k < 8
    · have hlt' : (k : Int) < 8 := by omega
      have hm6 : m < 18446744073709551616 := by rw [hm.out]; exact Nat.lt_of_le_of_lt (Nat.div_le_self _ _) HC.out
      have hwq : IntKind.u64.wrap ((m : Int) / 256) = (m : Int) / 256 := IntWalk.u64_in _ (by omega)
      have hr0 : 0 ≤ (m : Int) % 256 := by omega
      have hr1 : (m : Int) % 256 < 256 := by omega
      have hdr := compL_drop c k hlt
      rw [← hm.out] at hdr
      have Hdr := Lib.hid hdr
      have hsz := low.out.size
      have hg : w.heap.size < wr.heap.size := (Array.getElem?_eq_some_iff.1 row.out).1
      have hone := Lib.hid (byt_rowT (Go.heap_alloc_new wr (.cells (u8s [(m : Int) % 256]) 5)) (n := 1) rfl)
      obtain ⟨A3, c3, hv3, hl3, b3⟩ := own_byt own.out
      have B3 := Lib.hid b3
      have Hl3 := Lib.hid hl3
      subst hv3
      have Hm6 := Lib.hid hm6
      clear hm6 hdr b3 hl3
      go_wp2_with (first
        | (at_builtin; refine wpList_append_any rfl (.tmp 19) (.tmp 20) rfl wr.heap.size v1 1 [(m : Int) % 256] rfl Own1.out A3 k c3 ((compL c).drop (8 - k)) rfl Hl3.out (B3.out.below Low1.out (Nat.le_refl _)) (by omega) Low1.out.size ?_; intro v2 w2 own2 hlow2; have Own2 := Lib.hid own2; have Low2 := Lib.hid (hlow2 _ _ Low1.out (Nat.le_refl _)); clear own2 hlow2)
        | (at_builtin; refine wpList_append_any rfl (.tmp 13) (.tmp 17) rfl wr.heap.size (.slice none 0 0) 0 [] rfl (World.ownsRow_nil _ _ _ _) (some ⟨wr.heap.size, 0, none⟩) 1 1 [(m : Int) % 256] rfl rfl hone.out (by omega) (by rw [World.size_alloc]; omega) ?_; intro v1 w1 own1 hlow1; have Own1 := Lib.hid own1; have Low1 := Lib.hid (hlow1 _ _ ((Below.refl wr.heap.size wr).alloc (Nat.le_refl _) _) (Nat.le_refl _)); clear own1 hlow1))
      go_roundw
      case rel =>
        refine ⟨k + 1, m / 256, by omega, by go_num, by simp, ?_, ?_, low.out.trans (Low2.out.mono hsz), (Low2.out.block _ hg).trans row.out⟩
        · show _ = _
          rw [hm.out, Nat.div_div_eq_div_mul, ← Nat.pow_succ]
        · have h := own_base Own2.out (B' := w.heap.size + 1) (by omega)
          show World.ownsRow _ _ _ _ _ _ _
          rw [show 8 - (k + 1) = 7 - k by omega, Hdr.out, Nat.add_comm k 1, show ((m % 256 : Nat) : Int) = (m : Int) % 256 by omega]
          exact h
      case measure => simp [intOf]; omega
    · have hk8 : k = 8 := by omega
      subst hk8
      have hlt' : ¬ (8 : Int) < 8 := by omega
      have d0 := cell_row row.out 0
      simp only [List.getElem?_toArray, List.getElem?_cons_zero] at d0
      have hwr : IntKind.u64.wrap lv = (uN lv : Nat) := wrap_uN lv
      obtain ⟨A3, c3, hv3, hl3, b3⟩ := own_byt own.out
      have B3 := Lib.hid b3
      subst hv3
      have hel := Lib.hid (encN_le (uN lv))
      have hsz := low.out.size
      clear hlt b3 hl3 hm
      go_wp2_with (first
        | (go_at_call 26; refine (rnum (uN lv) (uN_lt lv) wr).mono ?_; rintro e w1 ⟨v1, rfl, own1, low1⟩; have Own1 := Lib.hid own1; have Low1 := Lib.hid low1; clear own1 low1)
        | (at_builtin; refine wpList_append_any rfl (.tmp 27) (.tmp 28) rfl wr.heap.size v1 (encN (uN lv)).length (encN (uN lv)) rfl Own1.out A3 8 c3 (compL c) rfl rfl (B3.out.below Low1.out (Nat.le_refl _)) (by have := hel.out; omega) Low1.out.size ?_; intro v2 w2 own2 hlow2; have Own2 := Lib.hid own2; have Low2 := Lib.hid (hlow2 _ _ Low1.out (Nat.le_refl _)); clear own2 hlow2))
      go_ret
      refine ⟨_, rfl, ?_, low.out.trans (Low2.out.mono hsz)⟩
      have h := own_base Own2.out hsz
      unfold NewB labelL
      rw [List.length_append, compL_length]
      exact h
theorem wp_app {o : Oper} {a : Act} {K : Act → World → Prop} {Q : Exit → Act → World → Prop} {w : World} (s x : Operand)
    (ho : o.op = .call { callee := .builtin .append, args := #[s, x], argTypes := #[22, 22] }) (base : Nat) (v : Value) (n : Nat) (L : List Int) (hs : a.eval s = v) (hown : w.ownsRow base 5 1 v n (vals L))
    (vx : Value) (M : List Int) (hx : a.eval x = vx) (hB : SlB M vx w) (hM : 0 < M.length) (h63 : n + M.length ≤ 100000) (hbase : base ≤ w.heap.size)
    (h : ∀ v' w', w'.ownsRow base 5 1 v' (n + M.length) (vals (L ++ M)) → w.grownBy w' v.ownBlock → K (a.put o.dst v') w') : o.wp Try.prog a w K Q := by
  obtain ⟨i0, hi0, hz00, hz10, hz20⟩ := info_parts info8z
  obtain ⟨A, c, rfl, b⟩ := hB
  obtain ⟨g, off, rfl, hg, hc⟩ := b.2.2 hM
  refine wp_append_own _ s x 22 ho base 5 i0 (.int .u8 0) 1 1 Try.underlying22 hi0 hz00 hz10 hz20 rfl (by decide) v n (vals L) hs hown ⟨g, off, none⟩ M.length c (vals M) hx (by rw [vals_length]; omega)
    (b.cells (fun _ _ => rfl) _ rfl) (vals_one _) (by unfold maxLen; omega) (by omega) hbase ?_
  intro v' w' hown' hgrow _
  rw [vals_app] at hown'
  exact h v' w' hown' hgrow
set_option maxRecDepth 100000 in
set_option maxHeartbeats 4000000 in
theorem rvertex (h : List Int) (n : Int) (hh : h.length = 32) (w : World) :
    Calls Try.prog 34 #[.agg (vtxC h n)] w fun e w' => ∃ v, e = .returned v ∧ NewB w.heap.size (vertexL h n) v w' ∧ Below w.heap.size w w' := by
  obtain ⟨a, ha⟩ : ∃ a, a = IntKind.u64.wrap n := ⟨_, rfl⟩
  have ha1 := Lib.hid ha.symm
  have hb1 : Hid (IntKind.u64.wrap (a + 2) = (uN (n + 2) : Nat)) := by show _ = _; rw [ha]; exact wrap_add2 n
  obtain ⟨w2, hw2⟩ : ∃ w2, w2 = w.alloc (.cells (vtxC h n) 55) := ⟨_, rfl⟩
  have hb0 : w2.heap[w.heap.size]? = some (.cells (vtxC h n) 55 (0, 0)) := by rw [hw2]; exact Go.heap_alloc_new w _
  have low0 : Below w.heap.size w w2 := by rw [hw2]; exact (Below.refl _ _).alloc (Nat.le_refl _) _
  have CC : Hid (w2.cell? ⟨w.heap.size, 32, none⟩ = some (.int .i64 n)) := by show _ = _; rw [cell_row hb0]; simp [vtxC, hh]
  have CR : Hid (w2.rangeAt w.heap.size 0 (h.map (Value.int .u8))) := by
    intro j v hv
    rw [Nat.zero_add, cell_row hb0]
    simp only [vtxC, List.getElem?_toArray]
    rw [List.getElem?_append_left (List.getElem?_eq_some_iff.1 hv).1]
    exact hv
  have HI : Hid ((Try.prog.info? 32).map (·.size) = some (h.map (Value.int .u8)).length) := by show _ = _; rw [List.length_map, hh]; exact infoH32
  have Hlt : Hid (w.heap.size < w2.heap.size) := (Array.getElem?_eq_some_iff.1 hb0).1
  have Hl2 := Lib.hid low0
  have hbase := Lib.hid low0.size
  have Hh := Lib.hid hh
  clear ha hb0 low0 hh
  go_enter Try.func34, Try.ntmps34
  go_upto_region 1 with (fail)
  rw [← hw2]
  clear hw2
  have apx : apartB [3, 4, 5, 6, 7, 8, 9, 10, 11, 2] = true := by decide
  refine wp_region_any (by kernel_rfl) ?_
  change wpAny _ _ _ _ _ _ _ (World.drew _)
  refine wpAny_inv2 (fun ll aa wx => Hid (ll.size = 10 ∧ Below w2.heap.size w2 wx) ∧ ∃ (z : Nat → Value), Hid (aa = ⟨#[.agg (vtxC h n), .pointer (some ⟨w.heap.size, 0, none⟩), z 2, z 3, z 4, z 5, z 6, z 7, z 8, z 9, z 10, z 11], []⟩) ∧ Holding [3, 4, 5, 6, 7, 8, 9, 10, 11, 2] [some (.pointer (some ⟨w.heap.size, 0, none⟩)), some (.agg (u8s h)), none, some (.pointer (some ⟨w.heap.size, 32, none⟩)), some (.int .i64 n), some (.int .u64 a), some (.int .u64 (uN (n + 2) : Nat)), none, none, none] ll z ∧ Whu ll 2 8 (NewB w2.heap.size h) (z 5) wx ∧ Whu ll 7 8 (SlB (encN (uN (n + 2)))) (z 10) wx ∧ Whn ll 8 (NewB w2.heap.size (vertexL h n)) (z 11) wx ∧ Whn ll 9 (NewB w2.heap.size (vertexL h n)) (z 2) wx) ?_ (by kernel_rfl) ?_ ?_ _ rfl _ _ ?_
  · rintro ll aa wx ⟨hI, _⟩
    exact hI.out.1
  · rintro ll aa wx ⟨hI, z, ha, hz, hp2, hp7, hp8, hp9⟩ hall
    have hx := Lib.hid hI.out.2
    have e0 : z 3 = .pointer (some ⟨w.heap.size, 0, none⟩) := hz 0 _ (hall 0 (by decide)) rfl
    have e1 : z 4 = .agg (u8s h) := hz 1 _ (hall 1 (by decide)) rfl
    have e3 : z 6 = .pointer (some ⟨w.heap.size, 32, none⟩) := hz 3 _ (hall 3 (by decide)) rfl
    have e4 : z 7 = .int .i64 n := hz 4 _ (hall 4 (by decide)) rfl
    have e5 : z 8 = .int .u64 a := hz 5 _ (hall 5 (by decide)) rfl
    have e6 : z 9 = .int .u64 (uN (n + 2) : Nat) := hz 6 _ (hall 6 (by decide)) rfl
    have p8 := hp8.get (hall 8 (by decide))
    have p9 := hp9.get (hall 9 (by decide))
    clear hall hz hI hp2 hp7 hp8 hp9
    obtain rfl := ha.out
    clear ha
    clear apx
    clear e0 e1 e3 e4 e5 e6 p8
    have P8 := Lib.hid (p9.base hbase.out)
    have Hx := Lib.hid hx.out
    clear p9 hx
    go_wp2
    go_ret
    exact ⟨_, rfl, P8.out, Hl2.out.trans (Hx.out.mono hbase.out)⟩
  · rintro ll aa wx i ⟨hI, z, ha, hz, hp2, hp7, hp8, hp9⟩ hcl hi hu hw
    obtain rfl := ha.out
    have hsz := Lib.hid hI.out.1
    have hx := Lib.hid hI.out.2
    clear ha hI
    have hin : i < 10 := hi
    obtain rfl | rfl | rfl | rfl | rfl | rfl | rfl | rfl | rfl | rfl : i = 0 ∨ i = 1 ∨ i = 2 ∨ i = 3 ∨ i = 4 ∨ i = 5 ∨ i = 6 ∨ i = 7 ∨ i = 8 ∨ i = 9 := by omega
    · refine wpOp_plain rfl rfl ?_
      go_simp
      exact ⟨⟨by simp [hsz.out], hx.out⟩, upd z 3 (.pointer (some ⟨w.heap.size, 0, none⟩)), (by unfold Hid; simp [upd]), hz.next apx hsz.out 0 (by decide) _ (fun _ h => Option.some.inj h), hp2.keep (by decide), hp7.keep (by decide), hp8.keep (by decide), hp9.keep (by decide)⟩
    · have e0 : z 3 = .pointer (some ⟨w.heap.size, 0, none⟩) := hz 0 _ (hw 0 (by kernel_rfl)) rfl
      have hcr : wx.rangeAt w.heap.size 0 (h.map (Value.int .u8)) := fun j v hv => (hx.out.cell (p := ⟨w.heap.size, 0 + j, none⟩) Hlt.out).trans (CR.out j v hv)
      refine wpOp_plain rfl rfl (wp_load_mid 32 (.tmp 3) rfl w.heap.size 0 e0 (h.map (Value.int .u8)) _ hcr Try.underlying32 rfl HI.out ?_)
      go_simp
      exact ⟨⟨by simp [hsz.out], hx.out⟩, upd z 4 (.agg (u8s h)), (by unfold Hid; simp [upd, e0, u8s]), hz.next apx hsz.out 1 (by decide) _ (fun _ h => Option.some.inj h), hp2.keep (by decide), hp7.keep (by decide), hp8.keep (by decide), hp9.keep (by decide)⟩
    · have e1 : z 4 = .agg (u8s h) := hz 1 _ (hw 1 (by kernel_rfl)) rfl
      refine wpOp_plain rfl rfl ?_
      go_simp
      go_at_call 30
      refine (rhash h Hh.out _).mono ?_
      rintro e w' ⟨vr, rfl, own, low⟩
      exact ⟨⟨by simp [hsz.out], hx.out.trans (low.mono hx.out.size)⟩, upd z 5 (vr), (by unfold Hid; simp [upd, e1]), hz.next apx hsz.out 2 (by decide) _ (fun _ h => by cases h), Whu.done (own.base hx.out.size), (hp7.keep (by decide)).map (fun h => h.later low), (hp8.keep (by decide)).map (fun h => h.later low), (hp9.keep (by decide)).map (fun h => h.later low)⟩
    · refine wpOp_plain rfl rfl ?_
      go_simp
      exact ⟨⟨by simp [hsz.out], hx.out⟩, upd z 6 (.pointer (some ⟨w.heap.size, 32, none⟩)), (by unfold Hid; simp [upd]), hz.next apx hsz.out 3 (by decide) _ (fun _ h => Option.some.inj h), hp2.keep (by decide), hp7.keep (by decide), hp8.keep (by decide), hp9.keep (by decide)⟩
    · have e3 : z 6 = .pointer (some ⟨w.heap.size, 32, none⟩) := hz 3 _ (hw 3 (by kernel_rfl)) rfl
      have cl : wx.cell? ⟨w.heap.size, 32, none⟩ = some (.int .i64 n) := (hx.out.cell (p := ⟨w.heap.size, 32, none⟩) (World.block_lt_of_cell? _ _ CC.out)).trans CC.out
      refine wpOp_plain rfl rfl ?_
      go_simp
      exact ⟨⟨by simp [hsz.out], hx.out⟩, upd z 7 (.int .i64 n), (by unfold Hid; simp [upd, e3]), hz.next apx hsz.out 4 (by decide) _ (fun _ h => Option.some.inj h), hp2.keep (by decide), hp7.keep (by decide), hp8.keep (by decide), hp9.keep (by decide)⟩
    · have e4 : z 7 = .int .i64 n := hz 4 _ (hw 4 (by kernel_rfl)) rfl
      refine wpOp_plain rfl rfl ?_
      go_simp
      exact ⟨⟨by simp [hsz.out], hx.out⟩, upd z 8 (.int .u64 a), (by unfold Hid; simp [upd, e4, ha1.out]), hz.next apx hsz.out 5 (by decide) _ (fun _ h => Option.some.inj h), hp2.keep (by decide), hp7.keep (by decide), hp8.keep (by decide), hp9.keep (by decide)⟩
    · have e5 : z 8 = .int .u64 a := hz 5 _ (hw 5 (by kernel_rfl)) rfl
      refine wpOp_plain rfl rfl ?_
      go_simp
      exact ⟨⟨by simp [hsz.out], hx.out⟩, upd z 9 (.int .u64 (uN (n + 2) : Nat)), (by unfold Hid; simp [upd, e5, hb1.out]), hz.next apx hsz.out 6 (by decide) _ (fun _ h => Option.some.inj h), hp2.keep (by decide), hp7.keep (by decide), hp8.keep (by decide), hp9.keep (by decide)⟩
    · have e6 : z 9 = .int .u64 (uN (n + 2) : Nat) := hz 6 _ (hw 6 (by kernel_rfl)) rfl
      refine wpOp_plain rfl rfl ?_
      go_simp
      go_at_call 26
      refine (rnum (uN (n + 2)) (uN_lt _) _).mono ?_
      rintro e w' ⟨vr, rfl, own, low⟩
      exact ⟨⟨by simp [hsz.out], hx.out.trans (low.mono hx.out.size)⟩, upd z 10 (vr), (by unfold Hid; simp [upd, e6]), hz.next apx hsz.out 7 (by decide) _ (fun _ h => by cases h), (hp2.keep (by decide)).map (fun h => h.later low), Whu.done (own.sl), (hp8.keep (by decide)).map (fun h => h.later low), (hp9.keep (by decide)).map (fun h => h.later low)⟩
    · have p2 := hp2.get (hw 2 (by kernel_rfl)) hu
      have p7 := hp7.get (hw 7 (by kernel_rfl)) hu
      refine wpOp_plain rfl rfl (wp_app (.tmp 5) (.tmp 10) rfl w2.heap.size (z 5) h.length h rfl p2 (z 10) (encN (uN (n + 2))) rfl p7 (encN_pos _) (by have := Hh.out; have := encN_le (uN (n + 2)); omega) hx.out.size ?_)
      intro vr w' own gr
      have low2 := Lib.hid (hx.out.grown gr hx.out.size (fun k hk => (p2.lt k hk).1))
      go_simp
      exact ⟨⟨by simp [hsz.out], low2.out⟩, upd z 11 (vr), (by unfold Hid; simp [upd]), hz.next apx hsz.out 8 (by decide) _ (fun _ h => by cases h), Whu.past (by rw [hsz.out]; decide), Whu.past (by rw [hsz.out]; decide), Whn.done (by have h9 := own; rw [← List.length_append] at h9; exact h9), Whn.never (by decide) (fun hl => hcl 9 8 hl (by kernel_rfl)) hu⟩
    · have p8 := hp8.get (hw 8 (by kernel_rfl))
      refine wpOp_plain rfl rfl ?_
      go_simp
      exact ⟨⟨by simp [hsz.out], hx.out⟩, upd z 2 (z 11), (by unfold Hid; simp [upd]), hz.next apx hsz.out 9 (by decide) _ (fun _ h => by cases h), hp2.keep (by decide), hp7.keep (by decide), hp8.keep (by decide), Whn.done (p8)⟩
  · exact ⟨⟨rfl, (Below.refl _ _).drew⟩, fun xx => (#[.agg (vtxC h n), .pointer (some ⟨w.heap.size, 0, none⟩), .slice none 0 0, undef, undef, undef, undef, undef, undef, undef, undef, undef] : Array Value).getD xx undef, rfl, Holding.start, Whu.none (by decide), Whu.none (by decide), Whn.none (by decide), Whn.none (by decide)⟩
end Go.Proofs.Ytigfcmnknijobaa.Cod
