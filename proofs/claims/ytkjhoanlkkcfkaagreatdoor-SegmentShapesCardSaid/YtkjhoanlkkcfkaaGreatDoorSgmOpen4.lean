/- DERIVED. The contract of segment.Open (mkopen2.py writes this text out of open.txt). -/
import Derived.Test.YtkjhoanlkkcfkaaGreatDoorSgmClo
namespace Go.Proofs.YtkjhoanlkkcfkaaGreatDoor.Sgm
open Go.RowKit Dsk Slt Epo
/-- the world of a region with one call, p, that may change the blocks X, and one store, q. -/
structure RSp (T0 : TypeId) (g : Nat) (R : Array Value) (p q : Nat) (X : List Nat) (W : World) (ll : Array Bool) (wx : World) : Prop where
  st : RSt T0 g R q X W ll wx
  low : ll.getD p false = false → ll.getD q false = false → Below W.heap.size W wx
section
variable {T0 : TypeId} {g p q : Nat} {R : Array Value} {X : List Nat} {W wx w' : World} {ll : Array Bool}
theorem RSp.start {n : Nat} (h : W.heap[g]? = some (.cells R T0 (0, 0))) : RSp T0 g R p q X W (Array.replicate n false) W.drew := ⟨RSt.start h, fun _ _ => (Below.refl _ _).drew⟩
theorem RSp.same {i : Nat} (h : RSp T0 g R p q X W ll wx) (hi : i ≠ p) (hj : i ≠ q) : RSp T0 g R p q X W (ll.setIfInBounds i true) wx := ⟨h.st.same hj, by rw [getD_set_ne false hi, getD_set_ne false hj]; exact h.low⟩
theorem RSp.callX (h : RSp T0 g R p q X W ll wx) (hs : p < ll.size) (hj : p ≠ q) (hgX : g ∉ X) (hb : Chg X wx w') : RSp T0 g R p q X W (ll.setIfInBounds p true) w' := ⟨h.st.callX hj hgX hb, fun a => by simp [hs] at a⟩
theorem RSp.store {o : Nat} {z : Value} (h : RSp T0 g R p q X W ll wx) (hs : q < ll.size) : RSp T0 g R p q X W (ll.setIfInBounds q true) (wx.setCell ⟨g, o, none⟩ z) := ⟨h.st.store hs, fun _ a => by simp [hs] at a⟩
end
def DkW (K : DK) (D : DS) (_v : Value) (w : World) : Prop := Dsk w K D
theorem DkW.later {K : DK} {D : DS} {v : Value} {w w' : World} (h : DkW K D v w) (hb : Below w.heap.size w w') : DkW K D v w' := Dsk.later h hb
section
variable {w0 w : World} {K : DK} {bd bs bc gS : Nat} {key : List Int} {A : Option Addr} {c : Nat} {C : List Int} {D : DS}
set_option maxRecDepth 100000 in
set_option maxHeartbeats 2000000 in
theorem open4_any {lg : Option Addr} {gC v ep : Nat} {tv : Value} (h : OB w0 w K bd bs bc gS lg (some ⟨gC, 0, none⟩) key A c C ep tv D) (hct : Ct w K gC ⟨0, 1024, v⟩) (hgC : gC ≠ gS ∧ w0.heap.size ≤ gC ∧ gC ≠ bd ∧ gC ≠ bs ∧ gC ≠ bc ∧ ∀ a, A = some a → a.block ≠ gC) (hv : v ≤ 1024) (h9 : 9 ≤ D.secs) (ho : D.off = false) (hw : D.writes ≤ 1152921504606846976) (hk : key.length = 32) :
    Calls Tryz.prog 49 #[.pointer (some ⟨bc, 0, none⟩), .pointer (some ⟨bs, 0, none⟩)] w fun ee w' => ee = .returned (.int .i64 (nxtE D v)) ∧ OB w0 w' K bd bs bc gS lg (some ⟨gC, 0, none⟩) key A c C (nxtP D v) tv (nxtD D v) ∧ Chg (gS :: gC :: K.bl) w w' := by
  have H := Lib.hid h
  obtain ⟨R0, hR0⟩ : ∃ R0, R0 = rowG none K lg key (.slice A C.length c) ep tv false := ⟨_, rfl⟩
  have hrow := h.r
  rw [← hR0] at hrow
  have Hrow := Lib.hid hrow
  obtain ⟨P, hP⟩ : ∃ P, P = nxtP D v := ⟨_, rfl⟩
  obtain ⟨x, hx⟩ : ∃ x, x = nxtE D v := ⟨_, rfl⟩
  obtain ⟨D', hD'⟩ : ∃ D', D' = nxtD D v := ⟨_, rfl⟩
  have hset : R0.setIfInBounds 36 (.int .u32 (P : Nat)) = rowG none K lg key (.slice A C.length c) P tv false := by rw [hR0]; exact rowG_set36 hk P
  have HSet := Lib.hid hset
  have H36 : Hid (R0[36]? = some (.int .u32 (ep : Nat))) := by show _ = _; rw [hR0]; exact (rowG_at hk).2.2.2.2.1
  have hkn := h.kn
  have hgK : gC ∉ K.bl := fun hm => by have := h.kin _ hm; have := hgC.2.1; omega
  have hl : 1024 ≤ D.data.length := by have := h.dsk.ok.whole128; omega
  have Hop : Hid (∀ W, Below w.heap.size w W → Calls Tryz.prog 50 #[.pointer (some ⟨gC, 0, none⟩)] W fun e w' => e = .returned (.tuple #[.int .u32 (P : Nat), .int .i64 x]) ∧ Dsk w' K D' ∧ Chg (gC :: K.bl) W w') := fun W hW => by
    rw [hP, hx, hD']; exact nextEpoch_any (h.dsk.later hW) (hct.later hW) hgK hv hl ho hw
  rw [← hP, ← hx, ← hD']
  have Hlt := Lib.hid h.lt
  have Hne := Lib.hid h.ne
  have Hkn := Lib.hid hkn
  have HgC := Lib.hid hgC
  have HX : Hid (gS ∉ gC :: K.bl) := by
    intro hm
    rcases List.mem_cons.1 hm with e | hm
    · exact hgC.1 e.symm
    · exact hkn.2.2.2 hm
  have Hs := Lib.hid h.s
  have Hc := Lib.hid h.cc
  have Hbox : Hid (∀ b, w0.heap.size ≤ b → b ≠ gS → b ≠ gC → b ∉ gS :: gC :: K.bl) := fun b h1 h2 h3 hm => by
    rcases List.mem_cons.1 hm with e | hm
    · exact h2 e
    rcases List.mem_cons.1 hm with e | hm
    · exact h3 e
    · have := h.kin _ hm; omega
  have Hbase := Lib.hid h.base
  clear hR0 hrow hset h hct hgC hv h9 ho hw hk hkn hgK hl hP hx hD'
  go_enter Tryz.func49, Tryz.ntmps49
  go_upto_region 1 with (fail)
  have apx : apartB [4, 5, 6, 3, 7, 8, 9, 10, 1008, 2] = true := by decide
  refine wp_region_any (by kernel_rfl) ?_
  change wpAny _ _ _ _ _ _ _ (World.drew _)
  refine wpAny_inv2 (fun ll aa wx => Hid (ll.size = 10 ∧ RSp 92 gS R0 2 8 (gC :: K.bl) w ll wx) ∧ ∃ (z : Nat → Value), Hid (aa = ⟨#[.pointer (some ⟨bc, 0, none⟩), .pointer (some ⟨bs, 0, none⟩), z 2, z 3, z 4, z 5, z 6, z 7, z 8, z 9, z 10, undef], []⟩) ∧ Holding [4, 5, 6, 3, 7, 8, 9, 10, 1008, 2] [some (.pointer (some ⟨gS, 0, none⟩)), some (.pointer (some ⟨gC, 0, none⟩)), some (.tuple #[.int .u32 (P : Nat), .int .i64 x]), some (.tuple #[.int .u32 (P : Nat), .int .i64 x]), some (.int .u32 (P : Nat)), some (.int .i64 x), some (.pointer (some ⟨gS, 0, none⟩)), some (.pointer (some ⟨gS, 36, none⟩)), none, some (.int .i64 x)] ll z ∧ Whn ll 2 (DkW K D') (z 6) wx ∧ Whn ll 8 (RowAt 92 gS (rowG none K lg key (.slice A C.length c) P tv false)) (z 1008) wx) ?_ (by kernel_rfl) ?_ ?_ _ rfl _ _ ?_
  · rintro ll aa wx ⟨hI, _⟩
    exact hI.out.1
  · rintro ll aa wx ⟨hI, z, ha, hz, hp2, hp8⟩ hall
    have hx := Lib.hid hI.out.2
    have e0 : z 4 = .pointer (some ⟨gS, 0, none⟩) := hz 0 _ (hall 0 (by decide)) rfl
    have e1 : z 5 = .pointer (some ⟨gC, 0, none⟩) := hz 1 _ (hall 1 (by decide)) rfl
    have e2 : z 6 = .tuple #[.int .u32 (P : Nat), .int .i64 x] := hz 2 _ (hall 2 (by decide)) rfl
    have e3 : z 3 = .tuple #[.int .u32 (P : Nat), .int .i64 x] := hz 3 _ (hall 3 (by decide)) rfl
    have e4 : z 7 = .int .u32 (P : Nat) := hz 4 _ (hall 4 (by decide)) rfl
    have e5 : z 8 = .int .i64 x := hz 5 _ (hall 5 (by decide)) rfl
    have e6 : z 9 = .pointer (some ⟨gS, 0, none⟩) := hz 6 _ (hall 6 (by decide)) rfl
    have e7 : z 10 = .pointer (some ⟨gS, 36, none⟩) := hz 7 _ (hall 7 (by decide)) rfl
    have e9 : z 2 = .int .i64 x := hz 9 _ (hall 9 (by decide)) rfl
    have p2 := hp2.get (hall 2 (by decide))
    have p8 := hp8.get (hall 8 (by decide))
    clear hall hz hI hp2 hp8
    obtain rfl := ha.out
    clear ha
    clear apx
    have HX2 := Lib.hid hx.out.st.chg
    have HL := Lib.hid p8
    have HD2 := Lib.hid p2
    simp only [e9]
    clear e0 e1 e2 e3 e4 e5 e6 e7 e9 hx p2 p8
    go_wp2
    go_ret
    refine ⟨rfl, H.out.setR HX2.out HD2.out (fun q hq => ?_) HL.out, HX2.out⟩
    rcases List.mem_cons.1 hq with rfl | hq
    · exact .inr (.inr ⟨HgC.out.2.1, HgC.out.2.2.1, HgC.out.2.2.2.1, HgC.out.2.2.2.2.1, HgC.out.1, HgC.out.2.2.2.2.2⟩)
    · exact .inl hq
  · rintro ll aa wx i ⟨hI, z, ha, hz, hp2, hp8⟩ hcl hi hu hw
    obtain rfl := ha.out
    have hsz := Lib.hid hI.out.1
    have hx := Lib.hid hI.out.2
    clear ha hI
    have hin : i < 10 := hi
    obtain rfl | rfl | rfl | rfl | rfl | rfl | rfl | rfl | rfl | rfl : i = 0 ∨ i = 1 ∨ i = 2 ∨ i = 3 ∨ i = 4 ∨ i = 5 ∨ i = 6 ∨ i = 7 ∨ i = 8 ∨ i = 9 := by omega
    · have cl : wx.cell? ⟨bs, 0, none⟩ = some (.pointer (some ⟨gS, 0, none⟩)) := cell_row (hx.out.st.chg.at Hs.out (Hbox.out _ Hbase.out.2.1 Hne.out.2.2.2.1 (fun e => HgC.out.2.2.2.1 e.symm))) 0
      refine wpOp_plain rfl rfl ?_
      go_simp
      exact ⟨⟨by simp [hsz.out], hx.out.same (by decide) (by decide)⟩, upd z 4 (.pointer (some ⟨gS, 0, none⟩)), (by unfold Hid; simp [upd]), hz.next apx hsz.out 0 (by decide) _ (fun _ h => Option.some.inj h), hp2.keep (by decide), hp8.keep (by decide)⟩
    · have cl : wx.cell? ⟨bc, 0, none⟩ = some (.pointer (some ⟨gC, 0, none⟩)) := cell_row (hx.out.st.chg.at Hc.out (Hbox.out _ Hbase.out.2.2.1 Hne.out.2.2.2.2 (fun e => HgC.out.2.2.2.2.1 e.symm))) 0
      refine wpOp_plain rfl rfl ?_
      go_simp
      exact ⟨⟨by simp [hsz.out], hx.out.same (by decide) (by decide)⟩, upd z 5 (.pointer (some ⟨gC, 0, none⟩)), (by unfold Hid; simp [upd]), hz.next apx hsz.out 1 (by decide) _ (fun _ h => Option.some.inj h), hp2.keep (by decide), hp8.keep (by decide)⟩
    · have e1 : z 5 = .pointer (some ⟨gC, 0, none⟩) := hz 1 _ (hw 1 (by kernel_rfl)) rfl
      refine wpOp_plain rfl rfl ?_
      go_simp
      go_at_call 50
      refine (Hop.out wx (hx.out.low hu (not_listed (fun hl => hcl 3 2 (hcl 4 3 (hcl 8 4 hl (by kernel_rfl)) (by kernel_rfl)) (by kernel_rfl)) hu))).mono ?_
      rintro e w' ⟨rfl, hd, hch⟩
      exact ⟨⟨by simp [hsz.out], hx.out.callX (by rw [hsz.out]; decide) (by decide) HX.out hch⟩, upd z 6 (.tuple #[.int .u32 (P : Nat), .int .i64 x]), (by unfold Hid; simp [upd, e1]), hz.next apx hsz.out 2 (by decide) _ (fun _ h => Option.some.inj h), Whn.done (hd), Whn.never (by decide) (fun hl => hcl 8 2 hl (by kernel_rfl)) hu⟩
    · have e2 : z 6 = .tuple #[.int .u32 (P : Nat), .int .i64 x] := hz 2 _ (hw 2 (by kernel_rfl)) rfl
      refine wpOp_plain rfl rfl ?_
      go_simp
      exact ⟨⟨by simp [hsz.out], hx.out.same (by decide) (by decide)⟩, upd z 3 (.tuple #[.int .u32 (P : Nat), .int .i64 x]), (by unfold Hid; simp [upd, e2]), hz.next apx hsz.out 3 (by decide) _ (fun _ h => Option.some.inj h), hp2.keep (by decide), hp8.keep (by decide)⟩
    · have e3 : z 3 = .tuple #[.int .u32 (P : Nat), .int .i64 x] := hz 3 _ (hw 3 (by kernel_rfl)) rfl
      refine wpOp_plain rfl rfl ?_
      go_simp
      exact ⟨⟨by simp [hsz.out], hx.out.same (by decide) (by decide)⟩, upd z 7 (.int .u32 (P : Nat)), (by unfold Hid; simp [upd, e3]), hz.next apx hsz.out 4 (by decide) _ (fun _ h => Option.some.inj h), hp2.keep (by decide), hp8.keep (by decide)⟩
    · have e3 : z 3 = .tuple #[.int .u32 (P : Nat), .int .i64 x] := hz 3 _ (hw 3 (by kernel_rfl)) rfl
      refine wpOp_plain rfl rfl ?_
      go_simp
      exact ⟨⟨by simp [hsz.out], hx.out.same (by decide) (by decide)⟩, upd z 8 (.int .i64 x), (by unfold Hid; simp [upd, e3]), hz.next apx hsz.out 5 (by decide) _ (fun _ h => Option.some.inj h), hp2.keep (by decide), hp8.keep (by decide)⟩
    · have e0 : z 4 = .pointer (some ⟨gS, 0, none⟩) := hz 0 _ (hw 0 (by kernel_rfl)) rfl
      refine wpOp_plain rfl rfl ?_
      go_simp
      exact ⟨⟨by simp [hsz.out], hx.out.same (by decide) (by decide)⟩, upd z 9 (.pointer (some ⟨gS, 0, none⟩)), (by unfold Hid; simp [upd, e0]), hz.next apx hsz.out 6 (by decide) _ (fun _ h => Option.some.inj h), hp2.keep (by decide), hp8.keep (by decide)⟩
    · have e6 : z 9 = .pointer (some ⟨gS, 0, none⟩) := hz 6 _ (hw 6 (by kernel_rfl)) rfl
      refine wpOp_plain rfl rfl ?_
      go_simp
      exact ⟨⟨by simp [hsz.out], hx.out.same (by decide) (by decide)⟩, upd z 10 (.pointer (some ⟨gS, 36, none⟩)), (by unfold Hid; simp [upd, e6]), hz.next apx hsz.out 7 (by decide) _ (fun _ h => Option.some.inj h), hp2.keep (by decide), hp8.keep (by decide)⟩
    · have e4 : z 7 = .int .u32 (P : Nat) := hz 4 _ (hw 4 (by kernel_rfl)) rfl
      have e7 : z 10 = .pointer (some ⟨gS, 36, none⟩) := hz 7 _ (hw 7 (by kernel_rfl)) rfl
      have crow := hx.out.st.row hu
      have cz : wx.cell? ⟨gS, 36, none⟩ = some (.int .u32 (ep : Nat)) := (cell_row crow 36).trans H36.out
      have fz : wx.frozen? ⟨gS, 36, none⟩ = false := free_row crow 36
      refine wpOp_plain rfl rfl ?_
      go_simp
      exact ⟨⟨by simp [hsz.out], hx.out.store (by rw [hsz.out]; decide)⟩, upd z 1008 (undef), (by unfold Hid; simp [upd, e4, e7]), hz.next apx hsz.out 8 (by decide) _ (fun _ h => by cases h), (hp2.keep (by decide)).map (fun h => Dsk.chg h ((Chg.refl [gS] _).setCell (by simp) _) (by simp; exact fun e => Hkn.out.2.2.2 (by rw [← e]; simp [DK.bl])) (by simp; exact fun e => Hkn.out.2.2.2 (by rw [← e]; simp [DK.bl]))), Whn.done ((show RowAt _ _ _ _ _ from by unfold RowAt; rw [← HSet.out]; exact heap_setCell_same _ _ _ _ _ _ crow))⟩
    · have e5 : z 8 = .int .i64 x := hz 5 _ (hw 5 (by kernel_rfl)) rfl
      refine wpOp_plain rfl rfl ?_
      go_simp
      exact ⟨⟨by simp [hsz.out], hx.out.same (by decide) (by decide)⟩, upd z 2 (.int .i64 x), (by unfold Hid; simp [upd, e5]), hz.next apx hsz.out 9 (by decide) _ (fun _ h => Option.some.inj h), hp2.keep (by decide), hp8.keep (by decide)⟩
  · exact ⟨⟨rfl, RSp.start Hrow.out⟩, fun xx => (#[.pointer (some ⟨bc, 0, none⟩), .pointer (some ⟨bs, 0, none⟩), .int .i64 0, undef, undef, undef, undef, undef, undef, undef, undef, undef] : Array Value).getD xx undef, rfl, Holding.start, Whn.none (by decide), Whn.none (by decide)⟩
end
end Go.Proofs.YtkjhoanlkkcfkaaGreatDoor.Sgm
