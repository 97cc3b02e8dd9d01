/- DERIVED. Texts of ours, merged: XRefSealStream XSealBuckets. -/
import Derived.Test.YtgkmbamoffolgaaDoorMseal22
import Derived.Test.YtgkmbamoffolgaaDoorMseal25
import Derived.Test.YtgkmbamoffolgaaDoorMseal17
/- DERIVED. The document's answer of layer 11: Stream (mkrstream.py writes this text). -/
namespace Go.Proofs.YtgkmbamoffolgaaDoor.Seal
open Go.RowKit
/-- a new row of one value. -/
def OneS (sl : Value) (v : Value) (w : World) : Prop := ∃ g, v = .slice (some ⟨g, 0, none⟩) 1 1 ∧ w.cell? ⟨g, 0, none⟩ = some sl
theorem OneS.later {sl v : Value} {w w' : World} (h : OneS sl v w) (hb : Below w.heap.size w w') : OneS sl v w' := by
  obtain ⟨g, e, hc⟩ := h
  exact ⟨g, e, (hb.cell (p := ⟨g, 0, none⟩) (World.block_lt_of_cell? _ _ hc)).trans hc⟩
theorem rkey_at {k C KK : List Int} {A : Option Addr} {n c g : Nat} {w : World} (hKK : KK = keyL k encName C) (hk : k.length = 32) (hb : InB k) (hC : C.length = n) (hCb : InB C) (hn : n ≤ 1000) (hB : Byt w A c C) (hg : w.cell? ⟨g, 0, none⟩ = some (.slice A n c)) :
    Calls Tryd.prog 42 #[.agg (u8s k), .string { data := #[101, 110, 99, 114, 121, 112, 116] }, .slice (some ⟨g, 0, none⟩) 1 1] w fun e w' => e = .returned (.agg (u8s KK)) ∧ Below w.heap.size w w' := by
  subst hKK
  exact rkey_call k C encName _ rfl A n c g w hk hb hC hCb hn (by decide) hB hg
theorem rstream_at {K N L : List Int} {A : Option Addr} {m c : Nat} {w : World} (hK : K.length = 32) (bK : InB K) (hN : N.length = 12) (bN : InB N) (hl : L.length = m) (hs : m ≤ 20000) (hB : Byt w A c L) :
    Calls Tryd.prog 41 #[.agg (u8s K), .int .u32 1, .agg (u8s N), .slice A m c] w fun e w' => ∃ v, e = .returned v ∧ TuB (Cha.streamL K 1 N L) v w' ∧ Below w.heap.size w w' := by
  have hc : (1 : Int) + (Cha.nbl m : Nat) ≤ 4294967296 := by unfold Cha.nbl; omega
  refine (Cha.rstream_ok K N L 1 A m c hK hN bK bN hl (by omega) (by decide) (by decide) hc w hB).mono ?_
  rintro e w' ⟨A', c', rfl, hb, low⟩
  exact ⟨_, rfl, ⟨A', c', by rw [Cha.streamL_length, hl], hb⟩, low⟩
theorem rnum4 (n : Nat) (hn : n < 18446744073709551616) (w : World) : Calls Tryd.prog 27 #[.int .u64 (n : Int), .int .i64 4] w fun e w' => ∃ v, e = .returned v ∧ OwnB w.heap.size (numL n 4) v w' ∧ Below w.heap.size w w' := rnumber_any n 4 (by decide) hn w
theorem rnum8 (n : Nat) (hn : n < 18446744073709551616) (w : World) : Calls Tryd.prog 27 #[.int .u64 (n : Int), .int .i64 8] w fun e w' => ∃ v, e = .returned v ∧ OwnB w.heap.size (numL n 8) v w' ∧ Below w.heap.size w w' := rnumber_any n 8 (by decide) hn w
theorem info12b : (Tryd.prog.info? 67).map (·.size) = some 12 := by kernel_rfl
/-- what the loop has copied. -/
theorem copy_step {N : List Int} {i : Nat} (hN : N.length = 12) (h : i < 12) : (N.take i ++ zeros (12 - i)).set i (N.getD i 0) = N.take (i + 1) ++ zeros (12 - (i + 1)) := by
  have hl : (N.take i).length = i := by rw [List.length_take]; omega
  obtain ⟨m, hm⟩ : ∃ m, 12 - i = m + 1 := ⟨12 - i - 1, by omega⟩
  rw [hm, show 12 - (i + 1) = m by omega, zeros, List.replicate_succ, List.set_append_right _ _ (by omega), hl, Nat.sub_self, List.set_cons_zero, ← take_more (by omega), List.append_assoc]
  rfl
set_option maxRecDepth 100000 in
set_option maxHeartbeats 4000000 in
theorem rstreamP_any (k C L : List Int) (pos ep : Nat) (A A2 : Option Addr) (n c m c2 : Nat) (w : World) (hk : k.length = 32) (hb : InB k) (hC : C.length = n) (hCb : InB C) (hn : n ≤ 1000) (hL : L.length = m) (hm : m ≤ 20000) (hp : pos < 18446744073709551616 ∧ ep < 4294967296) (hB1 : Byt w A c C) (hB2 : Byt w A2 c2 L) :
    Calls Tryd.prog 28 #[.agg (u8s k), .slice A n c, .int .u64 (pos : Nat), .int .u32 (ep : Nat), .slice A2 m c2] w fun e w' => ∃ v, e = .returned v ∧ SlB (bodyL k C pos ep L) v w' ∧ Below w.heap.size w w' := by
  obtain ⟨KK, hKK⟩ : ∃ KK, KK = keyL k encName C := ⟨_, rfl⟩
  obtain ⟨NN, hNN⟩ : ∃ NN, NN = nonceL pos ep := ⟨_, rfl⟩
  have e : bodyL k C pos ep L = Cha.streamL KK 1 NN L := by rw [hKK, hNN]; rfl
  rw [e]
  have HKe := Lib.hid hKK
  have HNe : Hid (numL ep 4 ++ numL pos 8 = NN) := hNN.symm
  have HKN : Hid (KK.length = 32 ∧ InB KK ∧ NN.length = 12 ∧ InB NN) := ⟨by rw [hKK]; exact keyL_length _ _ _, by rw [hKK]; exact keyL_in _ _ _, by rw [hNN]; exact nonceL_length _ _, by rw [hNN]; exact nonceL_in _ _⟩
  have Hk : Hid (k.length = 32 ∧ InB k) := ⟨hk, hb⟩
  have HCC : Hid (C.length = n ∧ InB C ∧ n ≤ 1000) := ⟨hC, hCb, hn⟩
  have HL2 : Hid (L.length = m ∧ m ≤ 20000) := ⟨hL, hm⟩
  have HpE := Lib.hid hp
  have HB1 := Lib.hid hB1
  have HB2 := Lib.hid hB2
  have HsK0 : Hid ((Tryd.prog.info? 23).map (·.size) = some (u8s k).size) := by show _ = _; rw [u8s_size, hk]; exact infoH
  have HsN : Hid ((Tryd.prog.info? 67).map (·.size) = some (u8s NN).size) := by show _ = _; rw [u8s_size, HKN.out.2.2.1]; exact info12b
  have hlow0 := below_two w (.cells (u8s k) 23) (.cells (u8s (zeros 12)) 67)
  have hK0 := (two_new w (.cells (u8s k) 23) (.cells (u8s (zeros 12)) 67)).1
  have hN0 := (two_new w (.cells (u8s k) 23) (.cells (u8s (zeros 12)) 67)).2
  have ez : u8s (zeros 12) = #[.int .u8 0, .int .u8 0, .int .u8 0, .int .u8 0, .int .u8 0, .int .u8 0, .int .u8 0, .int .u8 0, .int .u8 0, .int .u8 0, .int .u8 0, .int .u8 0] := rfl
  rw [ez] at hlow0 hK0 hN0
  have HL0 := Lib.hid hlow0
  have HK0 := Lib.hid hK0
  have HN0 := Lib.hid hN0
  clear hKK hNN e hk hb hC hCb hL hB1 hB2 hp hn hm hlow0 hK0 hN0 ez
  go_enter Tryd.func28, Tryd.ntmps28
  go_upto_region 2 with (fail)
  generalize World.alloc _ _ = w1 at HL0 HK0 HN0 ⊢
  have heI : (ep : Int) < 4294967296 := by have := HpE.out.2; omega
  have hwe : IntKind.u64.wrap (ep : Int) = ep := by simp [IntKind.wrap, IntKind.bits, IntKind.signed]; omega
  go_upto_region 3 with (first
    | (go_at_call 27; with_reducible refine (rnum4 ep (by have := HpE.out.2; omega) _).mono ?_; rintro e w2 ⟨v2, rfl, ho2, hb2⟩; have Ho2 := Lib.hid ho2; have Hb2 := Lib.hid hb2; clear ho2 hb2))
  go_at_call 27
  with_reducible refine (rnum8 pos HpE.out.1 _).mono ?_
  rintro e w3 ⟨v3, rfl, ho3, hb3⟩
  obtain ⟨A3, c3, rfl, b3⟩ := ho3.sl
  rw [numL_length]
  have B3 := Lib.hid b3
  have Ho3 := Lib.hid (Ho2.out.later hb3)
  have Hb3 := Lib.hid (Hb2.out.trans (hb3.mono Hb2.out.size))
  clear ho3 hb3 b3 heI hwe
  go_upto_region 4 with (at_builtin; refine wpList_append_any rfl (.tmp 18) (.tmp 20) rfl w1.heap.size _ (numL ep 4).length (numL ep 4) rfl Ho3.out A3 8 c3 (numL pos 8) rfl (numL_length pos 8) B3.out (by rw [numL_length]; omega) Hb3.out.size ?_; intro v4 w4 own4 low4; have h4 : OwnB w1.heap.size NN v4 w4 := HNe.out ▸ own_app rfl (numL_length pos 8) own4; unfold OwnB at h4; rw [HKN.out.2.2.1] at h4; obtain ⟨g4, c4, rfl, hc4, hg4, hrow4⟩ := own_rowK (k := .u8) (n := 12) h4 HKN.out.2.2.1 (by decide); have HG4 := Lib.hid hg4; have HR4 := Lib.hid hrow4; have Hb4 := Lib.hid (low4 _ _ Hb3.out (Nat.le_refl _)); clear own4 low4 h4 hrow4 hg4)
  have hK4 := (Hb4.out.block _ (Array.getElem?_eq_some_iff.1 HK0.out).1).trans HK0.out
  have hN4 := (Hb4.out.block _ (Array.getElem?_eq_some_iff.1 HN0.out).1).trans HN0.out
  have hs1 : w.heap.size + 1 < w1.heap.size := (Array.getElem?_eq_some_iff.1 HN0.out).1
  have HL4 := Lib.hid (HL0.out.trans (Hb4.out.mono HL0.out.size))
  have HK4 := Lib.hid hK4
  have HN4 := Lib.hid hN4
  clear hK4 hN4 Hb4 HK0 HN0 HL0 Ho2 Hb2 Ho3 Hb3 B3
  go_loopw [13] (fun x wr => ∃ i : Nat, i ≤ 12 ∧ x = .int .i64 i ∧ Hid (wr.heap[w.heap.size + 1]? = some (.cells (u8s (NN.take i ++ zeros (12 - i))) 67 (0, 0))) ∧ Hid (Chg [w.heap.size + 1] w4 wr)) (fun x _ => 12 - (intOf x).toNat)
  case atStart => exact ⟨0, Nat.zero_le _, rfl, HN4.out, Chg.refl _ _⟩
  case round =>
    obtain ⟨i, hi, rfl, hr, hch⟩ := hrel
    by_cases hlt : i < 12
    · have hltI : (i : Int) < 12 := by omega
      have hlen : (NN.take i ++ zeros (12 - i)).length = 12 := by rw [List.length_append, List.length_take, HKN.out.2.2.1, zeros, List.length_replicate]; omega
      have hc := (World.cell?_of_block (a := ⟨g4, i, none⟩) (hch.out.block g4 HR4.out.1 (by have := HG4.out; simp; omega))).trans (HR4.out.2 i (by rw [HKN.out.2.2.1]; exact hlt))
      obtain ⟨y, hy⟩ : ∃ y, y = NN.getD i 0 := ⟨_, rfl⟩
      have hst := copy_step HKN.out.2.2.1 hlt
      rw [← hy] at hc hst
      have hc2 := row8_cell hr.out i (by rw [hlen]; exact hlt)
      have hf2 := free_row hr.out i
      have hr2 := row8_set hr.out i y
      rw [hst] at hr2
      have HR2 := Lib.hid hr2
      have Hc2 := Lib.hid (hch.out.setCell (p := ⟨w.heap.size + 1, i, none⟩) (by simp) (.int .u8 y))
      clear hst hr2 hy hlen
      go_wp2
      exact ⟨⟨i + 1, by omega, rfl, HR2.out, Hc2.out⟩, by simp [intOf]; omega⟩
    · obtain rfl : i = 12 := by omega
      have hr12 := hr.out
      rw [List.take_of_length_le (by rw [HKN.out.2.2.1]; exact Nat.le_refl _), Nat.sub_self, zeros, List.replicate_zero, List.append_nil] at hr12
      have HN7 := Lib.hid hr12
      have HK7 := Lib.hid ((hch.out.block _ (Array.getElem?_eq_some_iff.1 HK4.out).1 (by simp)).trans HK4.out)
      have HLw := Lib.hid (hch.out.below HL4.out HL4.out.size (fun q hq => by simp at hq; omega))
      have HB17 := Lib.hid (HB1.out.below HLw.out (Nat.le_refl _))
      have HB27 := Lib.hid (HB2.out.below HLw.out (Nat.le_refl _))
      have hltI : ¬ ((12 : Nat) : Int) < 12 := by omega
      clear hr12 hr hch HK4 HN4 HL4 HB1 HB2 hlt hi HR4 HG4
      go_upto_region 7 with (fail)
      have apx : apartB [33, 34, 35, 36, 37, 38, 39, 32, 40, 41, 14, 15] = true := by decide
      refine wp_region_any (by kernel_rfl) ?_
      change wpAny _ _ _ _ _ _ _ (World.drew _)
      refine wpAny_inv (fun ll aa wx => Hid (ll.size = 12 ∧ Below wr.heap.size wr wx) ∧ ∃ (z : Nat → Value), Hid (aa = ⟨#[.agg (u8s k), .slice A n c, .int .u64 (pos : Nat), .int .u32 (ep : Nat), .slice A2 m c2, .pointer (some ⟨w.heap.size, 0, none⟩), undef, undef, undef, undef, .slice none 0 0, .pointer (some ⟨w.heap.size + 1, 0, none⟩), .slice (some ⟨g4, 0, none⟩) 12 c4, .int .i64 12, z 14, z 15, .int .u32 (ep : Nat), .int .u64 (ep : Nat), v2, .int .u64 (pos : Nat), .slice A3 8 c3, .slice (some ⟨g4, 0, none⟩) 12 c4, .int .i64 12, .bool false, u24, u25, u26, u27, u28, u29, u30, u31, z 32, z 33, z 34, z 35, z 36, z 37, z 38, z 39, z 40, z 41, undef], []⟩) ∧ Holding [33, 34, 35, 36, 37, 38, 39, 32, 40, 41, 14, 15] [some (.agg (u8s k)), some (.slice A n c), none, some (.agg (u8s KK)), some (.agg (u8s NN)), some (.slice A2 m c2), none, none, none, some (.int .i64 0), none, some (.int .i64 0)] ll z ∧ Whn ll 2 (OneS (.slice A n c)) (z 35) wx ∧ Whn ll 6 (TuB (Cha.streamL KK 1 NN L)) (z 39) wx ∧ Whn ll 7 (TuB (Cha.streamL KK 1 NN L)) (z 32) wx ∧ Whn ll 8 (SlB (Cha.streamL KK 1 NN L)) (z 40) wx ∧ Whn ll 10 (SlB (Cha.streamL KK 1 NN L)) (z 14) wx) ?_ (by kernel_rfl) ?_ ?_ _ _ _ _ (unlisted_none _) ?_
      · rintro ll aa wx ⟨hI, _⟩
        exact hI.out.1
      · rintro ll aa wx ⟨hI, z, ha, hz, hp2, hp6, hp7, hp8, hp10⟩ hall
        have hx := Lib.hid hI.out.2
        have e0 : z 33 = .agg (u8s k) := hz 0 _ (hall 0 (by decide)) rfl
        have e1 : z 34 = .slice A n c := hz 1 _ (hall 1 (by decide)) rfl
        have e3 : z 36 = .agg (u8s KK) := hz 3 _ (hall 3 (by decide)) rfl
        have e4 : z 37 = .agg (u8s NN) := hz 4 _ (hall 4 (by decide)) rfl
        have e5 : z 38 = .slice A2 m c2 := hz 5 _ (hall 5 (by decide)) rfl
        have e9 : z 41 = .int .i64 0 := hz 9 _ (hall 9 (by decide)) rfl
        have e11 : z 15 = .int .i64 0 := hz 11 _ (hall 11 (by decide)) rfl
        have p2 := hp2.get (hall 2 (by decide))
        have p6 := hp6.get (hall 6 (by decide))
        have p7 := hp7.get (hall 7 (by decide))
        have p8 := hp8.get (hall 8 (by decide))
        have p10 := hp10.get (hall 10 (by decide))
        clear hall hz hI hp2 hp6 hp7 hp8 hp10
        obtain rfl := ha.out
        clear ha
        clear apx
        obtain ⟨A9, c9, eS, b9⟩ := p10
        have HX := Lib.hid hx.out
        have B9 := Lib.hid b9
        clear e0 e1 e3 e4 e5 e9 e11 hx b9 p2 p6 p7 p8
        go_wp2
        go_ret
        exact ⟨_, rfl, ⟨A9, c9, rfl, B9.out⟩, HLw.out.trans (HX.out.mono HLw.out.size)⟩
      · rintro ll aa wx i ⟨hI, z, ha, hz, hp2, hp6, hp7, hp8, hp10⟩ hi hu hw
        obtain rfl := ha.out
        have hsz := Lib.hid hI.out.1
        have hx := Lib.hid hI.out.2
        clear ha hI
        have hin : i < 12 := hi
        obtain rfl | rfl | rfl | rfl | rfl | rfl | rfl | rfl | rfl | rfl | rfl | rfl : i = 0 ∨ i = 1 ∨ i = 2 ∨ i = 3 ∨ i = 4 ∨ i = 5 ∨ i = 6 ∨ i = 7 ∨ i = 8 ∨ i = 9 ∨ i = 10 ∨ i = 11 := by omega
        · have cl := (hx.out.block _ (Array.getElem?_eq_some_iff.1 HK7.out).1).trans HK7.out
          refine wpOp_plain rfl rfl (wp_load_row 23 (.tmp 5) rfl (w.heap.size) rfl 23 (u8s k) (0, 0) _ cl Tryd.underlying23 rfl HsK0.out ?_)
          go_simp
          exact ⟨⟨by simp [hsz.out], hx.out⟩, upd z 33 (.agg (u8s k)), (by unfold Hid; simp [upd]), hz.next apx hsz.out 0 (by decide) _ (fun _ h => Option.some.inj h), hp2.keep (by decide), hp6.keep (by decide), hp7.keep (by decide), hp8.keep (by decide), hp10.keep (by decide)⟩
        · refine wpOp_plain rfl rfl ?_
          go_simp
          exact ⟨⟨by simp [hsz.out], hx.out⟩, upd z 34 (.slice A n c), (by unfold Hid; simp [upd]), hz.next apx hsz.out 1 (by decide) _ (fun _ h => Option.some.inj h), hp2.keep (by decide), hp6.keep (by decide), hp7.keep (by decide), hp8.keep (by decide), hp10.keep (by decide)⟩
        · have e1 : z 34 = .slice A n c := hz 1 _ (hw 1 (by kernel_rfl)) rfl
          refine wpOp_plain rfl rfl ?_
          go_simp
          have lown := Below.alloc (Below.refl wx.heap.size wx) (Nat.le_refl _) (.cells #[.slice A n c] 24)
          exact ⟨⟨by simp [hsz.out], hx.out.trans (lown.mono hx.out.size)⟩, upd z 35 (.slice (some ⟨wx.heap.size, 0, none⟩) 1 1), (by unfold Hid; simp [upd, e1]), hz.next apx hsz.out 2 (by decide) _ (fun _ h => by cases h), Whn.done (⟨wx.heap.size, rfl, cell_row (Go.heap_alloc_new wx _) 0⟩), (hp6.keep (by decide)).map (fun h => h.later lown), (hp7.keep (by decide)).map (fun h => h.later lown), (hp8.keep (by decide)).map (fun h => h.later lown), (hp10.keep (by decide)).map (fun h => h.later lown)⟩
        · have e0 : z 33 = .agg (u8s k) := hz 0 _ (hw 0 (by kernel_rfl)) rfl
          have p2 := hp2.get (hw 2 (by kernel_rfl))
          obtain ⟨g9, e9, h9⟩ := p2
          refine wpOp_plain rfl rfl ?_
          simp only [e9]
          go_simp
          go_at_call 42
          refine (rkey_at HKe.out Hk.out.1 Hk.out.2 HCC.out.1 HCC.out.2.1 HCC.out.2.2 (HB17.out.below hx.out (Nat.le_refl _)) h9).mono ?_
          rintro e w8 ⟨rfl, low⟩
          exact ⟨⟨by simp [hsz.out], hx.out.trans (low.mono hx.out.size)⟩, upd z 36 (.agg (u8s KK)), (by unfold Hid; simp [upd, e0, e9]), hz.next apx hsz.out 3 (by decide) _ (fun _ h => Option.some.inj h), (hp2.keep (by decide)).map (fun h => h.later low), (hp6.keep (by decide)).map (fun h => h.later low), (hp7.keep (by decide)).map (fun h => h.later low), (hp8.keep (by decide)).map (fun h => h.later low), (hp10.keep (by decide)).map (fun h => h.later low)⟩
        · have cl := (hx.out.block _ (Array.getElem?_eq_some_iff.1 HN7.out).1).trans HN7.out
          refine wpOp_plain rfl rfl (wp_load_row 67 (.tmp 11) rfl (w.heap.size + 1) rfl 67 (u8s NN) (0, 0) _ cl Tryd.underlying67 rfl HsN.out ?_)
          go_simp
          exact ⟨⟨by simp [hsz.out], hx.out⟩, upd z 37 (.agg (u8s NN)), (by unfold Hid; simp [upd]), hz.next apx hsz.out 4 (by decide) _ (fun _ h => Option.some.inj h), hp2.keep (by decide), hp6.keep (by decide), hp7.keep (by decide), hp8.keep (by decide), hp10.keep (by decide)⟩
        · refine wpOp_plain rfl rfl ?_
          go_simp
          exact ⟨⟨by simp [hsz.out], hx.out⟩, upd z 38 (.slice A2 m c2), (by unfold Hid; simp [upd]), hz.next apx hsz.out 5 (by decide) _ (fun _ h => Option.some.inj h), hp2.keep (by decide), hp6.keep (by decide), hp7.keep (by decide), hp8.keep (by decide), hp10.keep (by decide)⟩
        · have e3 : z 36 = .agg (u8s KK) := hz 3 _ (hw 3 (by kernel_rfl)) rfl
          have e4 : z 37 = .agg (u8s NN) := hz 4 _ (hw 4 (by kernel_rfl)) rfl
          have e5 : z 38 = .slice A2 m c2 := hz 5 _ (hw 5 (by kernel_rfl)) rfl
          refine wpOp_plain rfl rfl ?_
          go_simp
          go_at_call 41
          refine (rstream_at HKN.out.1 HKN.out.2.1 HKN.out.2.2.1 HKN.out.2.2.2 HL2.out.1 HL2.out.2 (HB27.out.below hx.out (Nat.le_refl _))).mono ?_
          rintro e w8 ⟨vr, rfl, hsb, low⟩
          exact ⟨⟨by simp [hsz.out], hx.out.trans (low.mono hx.out.size)⟩, upd z 39 (vr), (by unfold Hid; simp [upd, e3, e4, e5]), hz.next apx hsz.out 6 (by decide) _ (fun _ h => by cases h), (hp2.keep (by decide)).map (fun h => h.later low), Whn.done (hsb), (hp7.keep (by decide)).map (fun h => h.later low), (hp8.keep (by decide)).map (fun h => h.later low), (hp10.keep (by decide)).map (fun h => h.later low)⟩
        · have p6 := hp6.get (hw 6 (by kernel_rfl))
          obtain ⟨A9, c9, e9, b9⟩ := p6
          refine wpOp_plain rfl rfl ?_
          go_simp
          exact ⟨⟨by simp [hsz.out], hx.out⟩, upd z 32 (.tuple #[.slice A9 (Cha.streamL KK 1 NN L).length c9, .int .i64 0]), (by unfold Hid; simp [upd, e9]), hz.next apx hsz.out 7 (by decide) _ (fun _ h => by cases h), hp2.keep (by decide), hp6.keep (by decide), Whn.done (⟨A9, c9, rfl, b9⟩), hp8.keep (by decide), hp10.keep (by decide)⟩
        · have p7 := hp7.get (hw 7 (by kernel_rfl))
          obtain ⟨A9, c9, e9, b9⟩ := p7
          refine wpOp_plain rfl rfl ?_
          go_simp
          exact ⟨⟨by simp [hsz.out], hx.out⟩, upd z 40 (.slice A9 (Cha.streamL KK 1 NN L).length c9), (by unfold Hid; simp [upd, e9]), hz.next apx hsz.out 8 (by decide) _ (fun _ h => by cases h), hp2.keep (by decide), hp6.keep (by decide), hp7.keep (by decide), Whn.done (⟨A9, c9, rfl, b9⟩), hp10.keep (by decide)⟩
        · have p7 := hp7.get (hw 7 (by kernel_rfl))
          obtain ⟨A9, c9, e9, b9⟩ := p7
          refine wpOp_plain rfl rfl ?_
          go_simp
          exact ⟨⟨by simp [hsz.out], hx.out⟩, upd z 41 (.int .i64 0), (by unfold Hid; simp [upd, e9]), hz.next apx hsz.out 9 (by decide) _ (fun _ h => Option.some.inj h), hp2.keep (by decide), hp6.keep (by decide), hp7.keep (by decide), hp8.keep (by decide), hp10.keep (by decide)⟩
        · have p8 := hp8.get (hw 8 (by kernel_rfl))
          obtain ⟨A9, c9, e9, b9⟩ := p8
          refine wpOp_plain rfl rfl ?_
          go_simp
          exact ⟨⟨by simp [hsz.out], hx.out⟩, upd z 14 (.slice A9 (Cha.streamL KK 1 NN L).length c9), (by unfold Hid; simp [upd, e9]), hz.next apx hsz.out 10 (by decide) _ (fun _ h => by cases h), hp2.keep (by decide), hp6.keep (by decide), hp7.keep (by decide), hp8.keep (by decide), Whn.done (⟨A9, c9, rfl, b9⟩)⟩
        · have e9 : z 41 = .int .i64 0 := hz 9 _ (hw 9 (by kernel_rfl)) rfl
          refine wpOp_plain rfl rfl ?_
          go_simp
          exact ⟨⟨by simp [hsz.out], hx.out⟩, upd z 15 (.int .i64 0), (by unfold Hid; simp [upd, e9]), hz.next apx hsz.out 11 (by decide) _ (fun _ h => Option.some.inj h), hp2.keep (by decide), hp6.keep (by decide), hp7.keep (by decide), hp8.keep (by decide), hp10.keep (by decide)⟩
      · exact ⟨⟨rfl, (Below.refl _ _).drew⟩, fun xx => (#[.agg (u8s k), .slice A n c, .int .u64 (pos : Nat), .int .u32 (ep : Nat), .slice A2 m c2, .pointer (some ⟨w.heap.size, 0, none⟩), undef, undef, undef, undef, .slice none 0 0, .pointer (some ⟨w.heap.size + 1, 0, none⟩), .slice (some ⟨g4, 0, none⟩) 12 c4, .int .i64 12, undef, undef, .int .u32 (ep : Nat), .int .u64 (ep : Nat), v2, .int .u64 (pos : Nat), .slice A3 8 c3, .slice (some ⟨g4, 0, none⟩) 12 c4, .int .i64 12, .bool false, u24, u25, u26, u27, u28, u29, u30, u31, undef, undef, undef, undef, undef, undef, undef, undef, undef, undef, undef] : Array Value).getD xx undef, (by rfl), Holding.start, Whn.none (by decide), Whn.none (by decide), Whn.none (by decide), Whn.none (by decide), Whn.none (by decide)⟩
end Go.Proofs.YtgkmbamoffolgaaDoor.Seal
/- DERIVED. The walk of SealBuckets. -/
namespace Go.Proofs.YtgkmbamoffolgaaDoor.Seal
open Go.RowKit
set_option maxRecDepth 100000 in
theorem rbucket_any (n : Int) (w : World) : Calls Tryd.prog 14 #[.int .i64 n] w fun e w' => e = .returned (.int .i64 (bktI n)) ∧ w = w' := by
  by_cases h0 : n < 0
  · have e : Hid (0 = bktI n) := by unfold Hid bktI; rw [if_pos (Or.inl h0)]
    go_enter Tryd.func14, Tryd.ntmps14
    go_wp2
    go_ret
    exact ⟨ret_i64 e.out, rfl⟩
  by_cases h1 : 131068 < n
  · have e : Hid (0 = bktI n) := by unfold Hid bktI; rw [if_pos (Or.inr h1)]
    go_enter Tryd.func14, Tryd.ntmps14
    go_wp2
    go_ret
    exact ⟨ret_i64 e.out, rfl⟩
  obtain ⟨m, rfl⟩ : ∃ m : Nat, n = m := ⟨n.toNat, by omega⟩
  have hm : m ≤ 131068 := by omega
  have E : Hid (((bkt m : Nat) : Int) = bktI m) := by unfold Hid bktI; rw [if_neg (by omega), Int.toNat_natCast]
  have h1' : ¬ (131068 < (m : Int)) := by omega
  go_enter Tryd.func14, Tryd.ntmps14
  go_upto_region 4 with (fail)
  go_loopw [3] (fun v wr => ∃ b : Nat, v = .int .i64 b ∧ Hid (BkI m b) ∧ wr = w) (fun v _ => 131072 - (intOf v).toNat)
  case atStart => exact ⟨64, rfl, BkI.start m, rfl⟩
  case round =>
    obtain ⟨b, rfl, hb, rfl⟩ := hrel
    have hle := hb.out.le
    have hps := hb.out.pos
    have hmI : (m : Int) ≤ 131068 := by omega
    have hbI : (b : Int) ≤ 131072 := by omega
    by_cases hlt : b < m + 4
    · have hltI : (b : Int) < (m : Int) + 4 := by omega
      have Hn := Lib.hid (hb.out.next hlt hm)
      have hn2 := Hn.out.le
      have hn2I : 2 * (b : Int) ≤ 131072 := by omega
      go_wp2
      refine ⟨⟨2 * b, by go_num, Hn.out, trivial⟩, by simp [intOf]; omega⟩
    · have hltI : ¬ (b : Int) < (m : Int) + 4 := by omega
      have He := Lib.hid (hb.out.end hlt)
      go_wp2
      go_ret
      exact ⟨ret_i64 (by rw [He.out, E.out]), rfl⟩
theorem buckets_walk (n : Int) (w : World) (hL : SLaid w) : Calls Tryd.prog 5 #[.int .i64 n] w fun e w' => e = .returned (.bool true) ∧ Below w.heap.size w w' := by
  obtain ⟨z, hz⟩ : ∃ z, z = bktI n := ⟨_, rfl⟩
  have h1 : Hid (∀ w, Calls Tryd.prog 13 #[.int .i64 n] w fun e w' => e = .returned (.int .i64 z) ∧ w = w') := fun w => by rw [hz]; exact bucket_any n w
  have h2 : Hid (∀ w, Calls Tryd.prog 14 #[.int .i64 n] w fun e w' => e = .returned (.int .i64 z) ∧ w = w') := fun w => by rw [hz]; exact rbucket_any n w
  have HL := Lib.hid hL
  clear hz hL
  go_enter Tryd.func5, Tryd.ntmps5
  go_wp2_with (first
    | (go_at_call 13; refine (h1.out _).mono ?_; rintro e w' ⟨rfl, rfl⟩)
    | (go_at_call 14; refine (h2.out _).mono ?_; rintro e w' ⟨rfl, rfl⟩)
    | (go_at_call 17; refine (most_any _).mono ?_; rintro e w' ⟨rfl, rfl⟩)
    | (go_at_call 10; refine (awake_any _ HL.out).mono ?_; rintro e w2 ⟨rfl, hb⟩; have Hb := Lib.hid hb; clear hb))
  go_ret
  exact ⟨rfl, Hb.out⟩
end Go.Proofs.YtgkmbamoffolgaaDoor.Seal
