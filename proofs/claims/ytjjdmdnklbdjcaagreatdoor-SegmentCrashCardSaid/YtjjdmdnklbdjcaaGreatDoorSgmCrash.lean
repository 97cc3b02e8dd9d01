/- DERIVED. The walk of SegmentCrash. -/
import Derived.Test.YtjjdmdnklbdjcaaGreatDoorSgmCc
import Derived.BigQuiet
namespace Go.Proofs.YtjjdmdnklbdjcaaGreatDoor.Sgm
open Go.RowKit Dsk Slt Epo
noncomputable def loadM (v : Value) : Sem Value := Instr.loadAt 39 v
theorem loadAtM (v : Value) : Instr.loadAt 39 v = loadM v := rfl
theorem loadM_eq {w : World} {b o : Nat} {m : List Int} (hm : m.length = 16) (h : w.rangeAt b o (vals m)) : (loadM (.pointer (some ⟨b, o, none⟩))).run Tryz.prog w = .ok (.agg (vals m).toArray) w := by
  unfold loadM
  exact run_loadAt_mid (P := Tryz.prog) w b o 39 (vals m) _ h Tryz.underlying39 rfl (by rw [vals_length, hm]; exact info16)
attribute [irreducible] loadM
attribute [local go_sem ↓ high] loadAtH loadAtB loadAtW loadAtM
theorem box_two (w : World) (key : List Int) (s : ByteArray) (lv : Int) (cp sc : Nat) : Bx ((w.alloc (.cells (u8s key) 24)).alloc (.cells #[.string s, .int .i64 lv, .int .u64 (cp : Nat), .int .u8 (sc : Nat)] 29)) w.heap.size (w.heap.size + 1) key s lv cp sc := by
  obtain ⟨t1, t2⟩ := two_new w (.cells (u8s key) 24) (.cells #[.string s, .int .i64 lv, .int .u64 (cp : Nat), .int .u8 (sc : Nat)] 29)
  exact ⟨t1, t2⟩
theorem c_begins {w0 wr : World} {K : DK} {J : LK} {G : GK} {D : DS} {S : LS} {V : GV} {v : Value} {qs : List Tp} (h : CW w0 wr K J G D S V v qs) (A A2 : Option Addr) (n m c c2 : Nat) (L M : List (List Int)) (hn : L.length = n) (hm : M.length = m) (h1 : TxAt wr A L) (h2 : TxAt wr A2 M) (hn1 : n ≤ 1000) (hm1 : m ≤ c2 ∧ m ≤ 1000) (e : n ≤ m ∧ L = M.take n) :
    Calls Tryz.prog 21 #[.slice A n c, .slice A2 m c2] wr fun e w' => e = .returned (.bool true) ∧ CW w0 w' K J G D S V v qs ∧ Below wr.heap.size wr w' := by
  refine (begins_any A A2 n m c c2 L M hn hm h1 h2 hm1.1 (by omega) (by omega)).mono ?_
  rintro ee w' ⟨rfl, hb⟩
  rw [decide_eq_true e]
  exact ⟨rfl, h.later hb, hb⟩
def CuP (w2 : World) (K : DK) (J : LK) (G : GK) (S : LS) (V : GV) (u : Value) (qs : List Tp) (i n : Nat) (key C : List Int) (mb : Tp) (_v : Value) (w' : World) : Prop := ∃ D', CW w2 w' K J G D' S V u qs ∧ CI (i + 1) n key C D' S V qs mb
set_option maxRecDepth 100000 in
set_option maxHeartbeats 8000000 in
theorem crash_walk (A : Option Addr) (k c : Nat) (xs : List Ac) (key : List Int) (s : ByteArray) (lv : Int) (cp sc : Nat) (hk : key.length = 32) (hkb : InB key) (hsc : sc < 256) (hss : s.size ≤ 9223372036854775807) (w : World) (hL : Seal.SLaid w) (hX : Acts w A c xs) (hok : ∀ x ∈ xs, x.Ok ∧ Byt w x.A x.cap x.L) (hmx : xs.length ≤ 9223372036854775807) (hkn : xs.length = k) :
    Calls Tryz.prog 4 #[.slice A k c, .agg (u8s key), .agg #[.string s, .int .i64 lv, .int .u64 (cp : Nat), .int .u8 (sc : Nat)]] w fun e w' => e = .returned (.bool true) ∧ Below w.heap.size w w' := by
  obtain ⟨w2, hw2⟩ : ∃ w2, w2 = (w.alloc (.cells (u8s key) 24)).alloc (.cells #[.string s, .int .i64 lv, .int .u64 (cp : Nat), .int .u8 (sc : Nat)] 29) := ⟨_, rfl⟩
  have hb2 : Below w.heap.size w w2 := by rw [hw2]; exact ((Below.refl _ _).alloc (Nat.le_refl _) _).alloc (by rw [World.size_alloc]; omega) _
  have hsz2 : w2.heap.size = w.heap.size + 2 := by rw [hw2, World.size_alloc, World.size_alloc]
  have hbx : Bx w2 w.heap.size (w.heap.size + 1) key s lv cp sc := by rw [hw2]; exact box_two w key s lv cp sc
  have HB2 := Lib.hid hb2
  have Hsz := Lib.hid hsz2
  have HX2 : Hid (Acts w2 A c xs) := hX.below hb2 (Nat.le_refl _)
  have Hok : Hid (∀ x ∈ xs, x.Ok ∧ Byt w2 x.A x.cap x.L) := fun x hx => ⟨(hok x hx).1, (hok x hx).2.below hb2 (Nat.le_refl _)⟩
  have HL2 := Lib.hid (hL.later hb2)
  have Hbx := Lib.hid hbx
  have Hk : Hid (key.length = 32 ∧ InB key) := ⟨hk, hkb⟩
  have Hkn := Lib.hid hkn
  have Hsc := Lib.hid hsc
  have Hw2 := Lib.hid hw2
  have HsK : Hid ((Tryz.prog.info? 24).map (·.size) = some (u8s key).size) := by show _ = _; rw [u8s_size, hk]; exact Seal.infoH
  have Hfew : Hid (∀ W, Below w2.heap.size w2 W → Calls Tryz.prog 8 #[.slice A k c] W fun e w' => e = .returned (.bool (fewB xs)) ∧ W = w') := fun W hW => by
    rw [← hkn]
    exact few_any A c xs (hX.below (hb2.trans (hW.mono hb2.size)) (Nat.le_refl _)) hmx (fun x hx => (hok x hx).1.len)
  have Hwk : Hid (∀ W, Below w2.heap.size w2 W → Calls Tryz.prog 9 #[] W fun e w' => e = .returned (.bool true) ∧ Below W.heap.size W w') := fun W hW => works_any W ((hL.later hb2).later hW)
  clear hL hX hok hmx hkn hk hkb hsc hb2 hsz2 hbx hw2
  have hsK := HsK.out
  by_cases hf : fewB xs = true
  rotate_left
  · have hff : fewB xs = false := by simpa using hf
    rw [hff] at Hfew
    clear hff hf
    go_enter Tryz.func4, Tryz.ntmps4
    go_upto_region 1 with (fail)
    rw [← Hw2.out]
    go_wp2_with (first
      | (go_at_call 8; refine (Hfew.out w2 (Below.refl _ _)).mono ?_; rintro e w' ⟨rfl, rfl⟩)
      | (go_at_call 9; refine (Hwk.out w2 (Below.refl _ _)).mono ?_; rintro e w3 ⟨rfl, hb3⟩; have Hb3 := Lib.hid hb3; clear hb3))
    go_ret
    exact ⟨rfl, HB2.out.trans (Hb3.out.mono HB2.out.size)⟩
  · rw [hf] at Hfew
    have hxs : xs.length ≤ 20 ∧ ∀ x ∈ xs, x.L.length ≤ 3000 := by unfold fewB at hf; simpa using hf
    have Hxs := Lib.hid hxs
    clear hf hxs
    obtain ⟨_, f2, _, f4, _⟩ := Hbx.out.facts Hk.out.1
    by_cases hs4 : 40 < s.size
    · have hI : (40 : Int) < (s.size : Int) := by omega
      go_enter Tryz.func4, Tryz.ntmps4
      go_upto_region 1 with (fail)
      rw [← Hw2.out]
      go_wp2_with (first
        | (go_at_call 8; refine (Hfew.out w2 (Below.refl _ _)).mono ?_; rintro e w' ⟨rfl, rfl⟩)
        | (go_at_call 9; refine (Hwk.out w2 (Below.refl _ _)).mono ?_; rintro e w3 ⟨rfl, hb3⟩; have Hb3 := Lib.hid hb3; clear hb3))
      go_ret
      exact ⟨rfl, HB2.out.trans (Hb3.out.mono HB2.out.size)⟩
    · have hI : ¬ (40 : Int) < (s.size : Int) := by omega
      go_enter Tryz.func4, Tryz.ntmps4
      go_upto_region 1 with (fail)
      rw [← Hw2.out]
      go_upto_region 3 with (go_at_call 8; refine (Hfew.out w2 (Below.refl _ _)).mono ?_; rintro e w' ⟨rfl, rfl⟩)
      obtain ⟨n, hn⟩ : ∃ n : Nat, n = 9 + sc % 64 := ⟨_, rfl⟩
      have HnI : Hid (9 + (sc : Int) % 64 = (n : Int)) := by show _ = _; omega
      have Hn9 : Hid (9 ≤ n ∧ n ≤ 72) := ⟨by omega, by omega⟩
      have Hs100 : Hid (s.size ≤ 100) := by show _ ≤ _; omega
      clear hn hs4 hI
      go_upto_region 6 with (go_at_call 10; rw [HnI.out]; refine (sd_new n w2 HL2.out (by have := Hn9.out; omega) (by have := Hn9.out; omega)).mono ?_; rintro e w3 ⟨K, rfl, hq3⟩; have Q3 := Lib.hid hq3; clear hq3)
      have Hbk : Hid (w.heap.size < w2.heap.size ∧ w.heap.size + 1 < w2.heap.size) := by have := Hsz.out; exact ⟨by omega, by omega⟩
      have Hfac : Hid (∀ W, Below w2.heap.size w2 W → (loadH (.pointer (some ⟨w.heap.size, 0, none⟩))).run Tryz.prog W = .ok (.agg (u8s key)) W ∧ W.cell? ⟨w.heap.size + 1, 0, none⟩ = some (.string s) ∧ (loadB (.pointer (some ⟨w.heap.size + 1, 1, none⟩))).run Tryz.prog W = .ok (.agg #[.int .i64 lv, .int .u64 (cp : Nat)]) W ∧ W.cell? ⟨w.heap.size + 1, 3, none⟩ = some (.int .u8 (sc : Nat)) ∧ (loadW (.pointer (some ⟨w.heap.size + 1, 0, none⟩))).run Tryz.prog W = .ok (.agg #[.string s, .int .i64 lv, .int .u64 (cp : Nat), .int .u8 (sc : Nat)]) W) := fun W hW => (Hbx.out.below hW Hbk.out.1 Hbk.out.2).facts Hk.out.1
      have Hop : Hid (Calls Tryz.prog 14 #[.pointer (some ⟨K.g, 0, none⟩), .agg (u8s key), .string s, .agg #[.int .i64 lv, .int .u64 (cp : Nat)]] w3 fun e w' => ∃ J G D' S, e = .returned (.tuple #[.pointer (some ⟨G.g, 0, none⟩), .int .i64 0]) ∧ CW w2 w' K J G D' S ⟨key, ctxL s lv cp, 1, [], false⟩ (.slice none 0 0) [] ∧ CI 0 n key (ctxL s lv cp) D' S ⟨key, ctxL s lv cp, 1, [], false⟩ [] ⟨none, 0, []⟩) :=
        (sd_open Q3.out Hk.out.1 Hk.out.2 s Hs100.out lv cp (new_good n Hn9.out.1 key (ctxL s lv cp)) (by decide) rfl rfl (by show (0 : Int) ≤ _; decide)).mono fun e w' ⟨J, G, D', S, he, h1, h2, h3, h4, h5, _⟩ => ⟨J, G, D', S, he, ⟨h1, World.ownsRow_nil _ _ _ _, (fun _ h => by cases h), (fun _ h => by cases h)⟩, CI.start Hn9.out.1 h2 h4 (h5.trans (newD_secsN n))⟩
      clear f2 f4
      obtain ⟨k1, k2, k3, _, _⟩ := Hfac.out _ Q3.out.low
      go_upto_region 9 with (go_at_call 14; refine Hop.out.mono ?_; rintro e w4 ⟨J0, G0, D0, S0, rfl, hq4, hi4⟩; have Q4 := Lib.hid hq4; have I4 := Lib.hid hi4; clear hq4 hi4)
      clear k1 k2 k3 Hop Q3
      go_upto_region 10 with (go_at_call 15; refine (c_epoch Q4.out).mono ?_; rintro e w' ⟨rfl, rfl⟩)
      go_upto_region 14 with (fail)
      go_loopw [9, 11, 12, 13, 14, 15] (fun v9 v11 v12 v13 v14 v15 wr => ∃ (i : Nat) (J : LK) (G : GK) (V : GV) (mb : Tp) (mm ep : Nat) (b : Bool), i ≤ k ∧ v15 = .int .i64 i ∧ v9 = .pointer (some ⟨G.g, 0, none⟩) ∧ v11 = .int .i64 ep ∧ v13 = .slice mb.A mm mb.c ∧ v14 = .bool b ∧ ∃ (D : DS) (S : LS) (qs : List Tp), Hid (CW w2 wr K J G D S V v12 qs ∧ CI i n key (ctxL s lv cp) D S V qs mb ∧ V.ep = ep ∧ V.lost = b ∧ (Byt w2 mb.A mb.c mb.M ∧ InB mb.M) ∧ mb.M.length = mm)) (fun _ _ _ _ _ v _ => k - (intOf v).toNat)
      case atStart => exact ⟨0, J0, G0, _, ⟨none, 0, []⟩, 0, 1, false, Nat.zero_le _, rfl, rfl, rfl, rfl, rfl, _, _, [], Q4.out, I4.out, rfl, rfl, ⟨⟨Nat.le_refl _, fun _ => rfl, fun h => absurd h (Nat.lt_irrefl 0)⟩, inB_of (by decide)⟩, rfl⟩
      case round =>
        obtain ⟨i, J, G, V, mb, mm, ep, b, hi, rfl, rfl, rfl, rfl, rfl, D, S, qs, hr⟩ := hrel
        clear Q4 I4
        have hk20 : k ≤ 20 := by have := Hxs.out.1; have := Hkn.out; omega
        by_cases hlt : i < k
        · have hltI : (i : Int) < (k : Int) := by omega
          obtain ⟨b0, off, x, m, rfl, hm, hm3, hcf, hox, hB⟩ := act_at HX2.out Hok.out Hxs.out.2 i k Hkn.out hlt
          obtain ⟨c0, c1, c2, c3⟩ := hcf _ hr.out.1.low
          obtain ⟨t, e1, e2, e3⟩ : ∃ t : Tp, t.A = x.A ∧ t.c = x.cap ∧ t.M = x.L := ⟨⟨x.A, x.cap, x.L⟩, rfl, rfl, rfl⟩
          have hin := hox.inb
          rw [← e1, ← e2] at hcf c1 hB
          rw [← e3] at hm hB hin
          have Hm := Lib.hid hm
          have Hcf := Lib.hid hcf
          have Hox := Lib.hid hox
          have HBx : Hid (Byt w2 t.A t.c t.M ∧ InB t.M) := ⟨hB, hin⟩
          clear hm hcf hB hox hin e1 e2 e3
          obtain ⟨z, hz⟩ : ∃ z, z = x.what := ⟨_, rfl⟩
          rw [← hz] at c0
          clear hz
          by_cases h0 : z = 0
          · subst h0
            have hep := hr.out.2.2.1
            have hlo := hr.out.2.2.2.1
            have happ := c_append hr.out.1 hr.out.2.1 (by omega) t HBx.out.1 HBx.out.2 m Hm.out hm3
            have Hb := Lib.hid hr.out.2.2.2.2
            have hqn := hr.out.2.1.qn.1
            have Hqn : Hid (qs.length ≤ 1000) := by show _ ≤ _; omega
            rcases hr.out.2.1.app (t := t) HBx.out.2 (by have := Hm.out; omega) (by omega) with ⟨e, e1, e2, hg⟩ | ⟨e, e1, e2, hg⟩ | ⟨e, e1, e2, hg⟩ | ⟨e, e1, e2, hg⟩
            · rw [e] at happ
              have Happ := Lib.hid happ
              have He := Lib.hid (And.intro e1 e2)
              have Hg := Lib.hid hg
              have Hep := Lib.hid hep
              have hbf : b = false := by rw [← hlo]; exact e1
              subst hbf
              clear happ e e1 e2 hg hep hlo
              go_upto_region 20 with (go_at_call 16; refine Happ.out.mono ?_; rintro e w3 ⟨rfl, J3, G3, hG3, hw3⟩; have W3 := Lib.hid hw3; have HG3 := Lib.hid hG3; clear hw3 hG3)
              clear c0 c1 c2 c3
              obtain ⟨_, c1, _, _⟩ := Hcf.out _ W3.out.low
              go_wp2_with (at_builtin; refine wpList_app_cw rfl (.tmp 75) (.tmp 81) rfl W3.out t HBx.out m Hm.out rfl rfl Hqn.out ?_; intro v9 w9 hw9 _; have W9 := Lib.hid hw9; clear hw9)
              refine ⟨⟨i + 1, J3, G3, _, mb, mm, ep, false, by omega, by go_num, by rw [HG3.out], rfl, rfl, rfl, _, _, (qs ++ [t]), W9.out, Hg.out, (appG_ep _ _ _ _).trans Hep.out, He.out.2, Hb.out⟩, by simp [intOf]; omega⟩
            · rw [e] at happ
              have Happ := Lib.hid happ
              have He := Lib.hid (And.intro e1 e2)
              have Hg := Lib.hid hg
              have Hep := Lib.hid hep
              have hbf : b = false := by rw [← hlo]; exact e1
              subst hbf
              clear happ e e1 e2 hg hep hlo
              go_wp2_with (go_at_call 16; refine Happ.out.mono ?_; rintro e w3 ⟨rfl, J3, G3, hG3, hw3⟩; have W3 := Lib.hid hw3; have HG3 := Lib.hid hG3; clear hw3 hG3)
              refine ⟨⟨i + 1, J3, G3, _, mb, mm, ep, false, by omega, by go_num, by rw [HG3.out], rfl, rfl, rfl, _, _, qs, W3.out, Hg.out, (appG_ep _ _ _ _).trans Hep.out, He.out.2, Hb.out⟩, by simp [intOf]; omega⟩
            · rw [e] at happ
              have Happ := Lib.hid happ
              have He := Lib.hid (And.intro e1 e2)
              have Hg := Lib.hid hg
              have Hep := Lib.hid hep
              have hbf : b = false := by rw [← hlo]; exact e1
              subst hbf
              clear happ e e1 e2 hg hep hlo
              go_upto_region 22 with (go_at_call 16; refine Happ.out.mono ?_; rintro e w3 ⟨rfl, J3, G3, hG3, hw3⟩; have W3 := Lib.hid hw3; have HG3 := Lib.hid hG3; clear hw3 hG3)
              clear c0 c1 c2 c3
              obtain ⟨_, c1, _, _⟩ := Hcf.out _ W3.out.low
              go_wp2
              refine ⟨⟨i + 1, J3, G3, _, t, m, ep, true, by omega, by go_num, by rw [HG3.out], rfl, rfl, rfl, _, _, qs, W3.out, Hg.out, (appG_ep _ _ _ _).trans Hep.out, He.out.2, HBx.out, Hm.out⟩, by simp [intOf]; omega⟩
            · rw [e] at happ
              have Happ := Lib.hid happ
              have He := Lib.hid (And.intro e1 e2)
              have Hg := Lib.hid hg
              have Hep := Lib.hid hep
              have hbf : b = true := by rw [← hlo]; exact e1
              subst hbf
              clear happ e e1 e2 hg hep hlo
              go_wp2_with (go_at_call 16; refine Happ.out.mono ?_; rintro e w3 ⟨rfl, J3, G3, hG3, hw3⟩; have W3 := Lib.hid hw3; have HG3 := Lib.hid hG3; clear hw3 hG3)
              refine ⟨⟨i + 1, J3, G3, _, mb, mm, ep, true, by omega, by go_num, by rw [HG3.out], rfl, rfl, rfl, _, _, qs, W3.out, Hg.out, (appG_ep _ _ _ _).trans Hep.out, He.out.2, Hb.out⟩, by simp [intOf]; omega⟩
          · by_cases h1 : z = 1
            · subst h1
              obtain ⟨y, hy⟩ : ∃ y, y = x.whole := ⟨_, rfl⟩
              have hyb : 0 ≤ y ∧ y ≤ 255 := by rw [hy]; exact Hox.out.whole
              obtain ⟨hy0, hy1⟩ := hyb
              rw [← hy] at c2
              have Hc2 := Lib.hid c2
              have Hc3 := Lib.hid c3
              have Hcut : Hid (∀ W, Below wr.heap.size wr W → Calls Tryz.prog 17 #[.pointer (some ⟨K.g, 0, none⟩), .int .i64 (y % 21), .agg (vals x.mask).toArray] W fun e w' => (∃ E, e = .returned (.int .i64 E)) ∧ ∃ D', CW w2 w' K J G D' S V u12 qs ∧ CI (i + 1) n key (ctxL s lv cp) D' S V qs mb) := fun W hW => c_cut (hr.out.1.later hW) hr.out.2.1 (y % 21) x.mask (by omega) Hox.out.mlen Hox.out.minb
              have Hrest := Lib.hid hr.out.2.2
              clear hy c3 c2 c1
              go_upto_region 27 with (fail)
              have htm : y.tmod 21 = y % 21 := Int.tmod_eq_emod_of_nonneg hy0
              have hwr21 : IntKind.i64.wrap (y % 21) = y % 21 := by rw [IntKind.wrap_i64]; omega
              clear c0 hr
              have apx : apartB [110, 111, 112, 113, 114, 115, 116, 117, 118, 119, 120, 121, 122, 123] = true := by decide
              refine wp_region_any (by kernel_rfl) ?_
              change wpAny _ _ _ _ _ _ _ (World.drew _)
              refine wpAny_inv2 (fun ll aa wx => Hid (ll.size = 14 ∧ RC 13 wr ll wx) ∧ ∃ (z : Nat → Value), Hid (aa = ⟨#[Value.slice (some { block := b0, off := off }) k c, Value.agg (u8s key), Value.agg #[Value.string s, Value.int IntKind.i64 lv, Value.int IntKind.u64 ((cp : Nat) : Int), Value.int IntKind.u8 (sc : Nat)], undef, Value.pointer (some { block := w.heap.size, off := 0 }), Value.pointer (some { block := w.heap.size + 1, off := 0 }), u6, Value.pointer (some { block := K.g, off := 0 }), u8, Value.pointer (some { block := G.g, off := 0 }), Value.int IntKind.i64 0, Value.int IntKind.i64 ((ep : Nat) : Int), u12, Value.slice mb.A mm mb.c, Value.bool b, Value.int IntKind.i64 ((i : Nat) : Int), u16, undef, Value.slice (some { block := b0, off := off }) k c, Value.bool true, Value.bool false, Value.bool false, Value.pointer (some { block := w.heap.size + 1, off := 0 }), Value.string s, Value.int IntKind.i64 ((s.size : Nat) : Int), Value.bool (decide (40 < ((s.size : Nat) : Int))), Value.bool (decide (40 < ((s.size : Nat) : Int))), undef, Value.tuple #[Value.pointer (some { block := K.g, off := 0 }), Value.int IntKind.i64 0], Value.pointer (some { block := w.heap.size + 1, off := 3 }), Value.int IntKind.u8 (sc : Nat), Value.int IntKind.u8 (((sc : Nat) : Int) % 64), Value.int IntKind.i64 (((sc : Nat) : Int) % 64), Value.int IntKind.i64 ((n : Nat) : Int), Value.tuple #[Value.pointer (some { block := K.g, off := 0 }), Value.int IntKind.i64 0], Value.pointer (some { block := K.g, off := 0 }), Value.int IntKind.i64 0, Value.int IntKind.i64 0, Value.bool false, Value.tuple #[Value.pointer (some { block := G0.g, off := 0 }), Value.int IntKind.i64 0], Value.pointer (some { block := K.g, off := 0 }), Value.agg (u8s key), Value.pointer (some { block := w.heap.size + 1, off := 0 }), Value.string s, Value.pointer (some { block := w.heap.size + 1, off := 1 }), Value.agg #[Value.int IntKind.i64 lv, Value.int IntKind.u64 ((cp : Nat) : Int)], Value.tuple #[Value.pointer (some { block := G0.g, off := 0 }), Value.int IntKind.i64 0], Value.pointer (some { block := G0.g, off := 0 }), Value.int IntKind.i64 0, Value.int IntKind.i64 0, Value.bool false, Value.pointer (some { block := G0.g, off := 0 }), Value.int IntKind.i64 1, Value.int IntKind.i64 ((i : Nat) : Int), Value.slice (some { block := b0, off := off }) k c, Value.int IntKind.i64 ((k : Nat) : Int), Value.bool true, u57, u58, Value.slice (some { block := b0, off := off }) k c, Value.int IntKind.i64 ((i : Nat) : Int), Value.pointer (some { block := b0, off := off + i * 20 }), Value.pointer (some { block := b0, off := off + i * 20 }), Value.int IntKind.u8 1, Value.bool false, Value.bool false, u66, u67, u68, u69, u70, u71, u72, u73, u74, u75, u76, u77, u78, u79, u80, u81, u82, u83, u84, u85, u86, u87, u88, u89, u90, u91, u92, u93, u94, u95, u96, u97, u98, u99, u100, u101, u102, u103, u104, u105, u106, u107, Value.bool true, Value.bool true, z 110, z 111, z 112, z 113, z 114, z 115, z 116, z 117, z 118, z 119, z 120, z 121, z 122, z 123, u124, u125, u126, u127, u128, u129, u130, u131, u132, u133, u134, u135, u136, u137, u138, u139, u140, u141, u142, u143, u144, u145, u146, u147, u148, u149, u150, u151, u152, u153, u154, u155, u156, u157, u158, u159, u160, u161, undef, undef, undef, undef, undef, undef, undef, undef, undef, undef, undef, undef, undef, undef, undef, undef, undef, undef, undef, undef, undef, undef, undef, undef, undef, undef, undef, undef, undef, undef, undef], []⟩) ∧ Holding [110, 111, 112, 113, 114, 115, 116, 117, 118, 119, 120, 121, 122, 123] [some (.pointer (some ⟨K.g, 0, none⟩)), some (.slice (some ⟨b0, off, none⟩) k c), some (.int .i64 i), some (.pointer (some ⟨b0, off + i * 20, none⟩)), some (.pointer (some ⟨b0, off + i * 20 + 2, none⟩)), some (.int .u8 y), some (.int .u8 (y % 21)), some (.int .i64 (y % 21)), some (.slice (some ⟨b0, off, none⟩) k c), some (.int .i64 i), some (.pointer (some ⟨b0, off + i * 20, none⟩)), some (.pointer (some ⟨b0, off + i * 20 + 3, none⟩)), some (.agg (vals x.mask).toArray), none] ll z ∧ Whn ll 13 (CuP w2 K J G S V u12 qs i n key (ctxL s lv cp) mb) (z 123) wx) ?_ (by kernel_rfl) ?_ ?_ _ rfl _ _ ?_
              · rintro ll aa wx ⟨hI, _⟩
                exact hI.out.1
              · rintro ll aa wx ⟨hI, z, ha, hz, hp13⟩ hall
                have hx := Lib.hid hI.out.2
                have e0 : z 110 = .pointer (some ⟨K.g, 0, none⟩) := hz 0 _ (hall 0 (by decide)) rfl
                have e1 : z 111 = .slice (some ⟨b0, off, none⟩) k c := hz 1 _ (hall 1 (by decide)) rfl
                have e2 : z 112 = .int .i64 i := hz 2 _ (hall 2 (by decide)) rfl
                have e3 : z 113 = .pointer (some ⟨b0, off + i * 20, none⟩) := hz 3 _ (hall 3 (by decide)) rfl
                have e4 : z 114 = .pointer (some ⟨b0, off + i * 20 + 2, none⟩) := hz 4 _ (hall 4 (by decide)) rfl
                have e5 : z 115 = .int .u8 y := hz 5 _ (hall 5 (by decide)) rfl
                have e6 : z 116 = .int .u8 (y % 21) := hz 6 _ (hall 6 (by decide)) rfl
                have e7 : z 117 = .int .i64 (y % 21) := hz 7 _ (hall 7 (by decide)) rfl
                have e8 : z 118 = .slice (some ⟨b0, off, none⟩) k c := hz 8 _ (hall 8 (by decide)) rfl
                have e9 : z 119 = .int .i64 i := hz 9 _ (hall 9 (by decide)) rfl
                have e10 : z 120 = .pointer (some ⟨b0, off + i * 20, none⟩) := hz 10 _ (hall 10 (by decide)) rfl
                have e11 : z 121 = .pointer (some ⟨b0, off + i * 20 + 3, none⟩) := hz 11 _ (hall 11 (by decide)) rfl
                have e12 : z 122 = .agg (vals x.mask).toArray := hz 12 _ (hall 12 (by decide)) rfl
                have p13 := hp13.get (hall 13 (by decide))
                clear hall hz hI hp13
                obtain rfl := ha.out
                clear ha
                clear apx
                obtain ⟨D4, hw4, hg4⟩ := p13
                have W4 := Lib.hid hw4
                have G4 := Lib.hid hg4
                clear e0 e1 e2 e3 e4 e5 e6 e7 e8 e9 e10 e11 e12 hx hw4 hg4
                go_wp2
                refine ⟨⟨i + 1, J, G, V, mb, mm, ep, b, by omega, by go_num, rfl, rfl, rfl, rfl, D4, S, qs, W4.out, G4.out, Hrest.out⟩, by simp [intOf]; omega⟩
              · rintro ll aa wx i ⟨hI, z, ha, hz, hp13⟩ hcl hi hu hw
                obtain rfl := ha.out
                have hsz := Lib.hid hI.out.1
                have hx := Lib.hid hI.out.2
                clear ha hI
                have hin : i < 14 := hi
                obtain rfl | rfl | rfl | rfl | rfl | rfl | rfl | rfl | rfl | rfl | rfl | rfl | rfl | rfl : i = 0 ∨ i = 1 ∨ i = 2 ∨ i = 3 ∨ i = 4 ∨ i = 5 ∨ i = 6 ∨ i = 7 ∨ i = 8 ∨ i = 9 ∨ i = 10 ∨ i = 11 ∨ i = 12 ∨ i = 13 := by omega
                · refine wpOp_plain rfl rfl ?_
                  go_simp
                  exact ⟨⟨by simp [hsz.out], hx.out.same (by decide)⟩, upd z 110 (.pointer (some ⟨K.g, 0, none⟩)), (by unfold Hid; simp [upd]), hz.next apx hsz.out 0 (by decide) _ (fun _ h => Option.some.inj h), hp13.keep (by decide)⟩
                · refine wpOp_plain rfl rfl ?_
                  go_simp
                  exact ⟨⟨by simp [hsz.out], hx.out.same (by decide)⟩, upd z 111 (.slice (some ⟨b0, off, none⟩) k c), (by unfold Hid; simp [upd]), hz.next apx hsz.out 1 (by decide) _ (fun _ h => Option.some.inj h), hp13.keep (by decide)⟩
                · refine wpOp_plain rfl rfl ?_
                  go_simp
                  exact ⟨⟨by simp [hsz.out], hx.out.same (by decide)⟩, upd z 112 (.int .i64 i), (by unfold Hid; simp [upd]), hz.next apx hsz.out 2 (by decide) _ (fun _ h => Option.some.inj h), hp13.keep (by decide)⟩
                · have e1 : z 111 = .slice (some ⟨b0, off, none⟩) k c := hz 1 _ (hw 1 (by kernel_rfl)) rfl
                  have e2 : z 112 = .int .i64 i := hz 2 _ (hw 2 (by kernel_rfl)) rfl
                  refine wpOp_plain rfl rfl ?_
                  go_simp
                  exact ⟨⟨by simp [hsz.out], hx.out.same (by decide)⟩, upd z 113 (.pointer (some ⟨b0, off + i * 20, none⟩)), (by unfold Hid; simp [upd, e1, e2]), hz.next apx hsz.out 3 (by decide) _ (fun _ h => Option.some.inj h), hp13.keep (by decide)⟩
                · have e3 : z 113 = .pointer (some ⟨b0, off + i * 20, none⟩) := hz 3 _ (hw 3 (by kernel_rfl)) rfl
                  refine wpOp_plain rfl rfl ?_
                  go_simp
                  exact ⟨⟨by simp [hsz.out], hx.out.same (by decide)⟩, upd z 114 (.pointer (some ⟨b0, off + i * 20 + 2, none⟩)), (by unfold Hid; simp [upd, e3]), hz.next apx hsz.out 4 (by decide) _ (fun _ h => Option.some.inj h), hp13.keep (by decide)⟩
                · have e4 : z 114 = .pointer (some ⟨b0, off + i * 20 + 2, none⟩) := hz 4 _ (hw 4 (by kernel_rfl)) rfl
                  have lw := hx.out.low (not_listed (fun hl => hcl 6 5 (hcl 7 6 (hcl 13 7 hl (by kernel_rfl)) (by kernel_rfl)) (by kernel_rfl)) hu)
                  have cl : wx.cell? ⟨b0, off + i * 20 + 2, none⟩ = some (.int .u8 y) := (lw.cell (p := ⟨b0, off + i * 20 + 2, none⟩) (World.block_lt_of_cell? _ _ Hc2.out)).trans Hc2.out
                  refine wpOp_plain rfl rfl ?_
                  go_simp
                  exact ⟨⟨by simp [hsz.out], hx.out.same (by decide)⟩, upd z 115 (.int .u8 y), (by unfold Hid; simp [upd, e4]), hz.next apx hsz.out 5 (by decide) _ (fun _ h => Option.some.inj h), hp13.keep (by decide)⟩
                · have e5 : z 115 = .int .u8 y := hz 5 _ (hw 5 (by kernel_rfl)) rfl
                  refine wpOp_plain rfl rfl ?_
                  go_simp
                  exact ⟨⟨by simp [hsz.out], hx.out.same (by decide)⟩, upd z 116 (.int .u8 (y % 21)), (by unfold Hid; simp [upd, e5]), hz.next apx hsz.out 6 (by decide) _ (fun _ h => Option.some.inj h), hp13.keep (by decide)⟩
                · have e6 : z 116 = .int .u8 (y % 21) := hz 6 _ (hw 6 (by kernel_rfl)) rfl
                  refine wpOp_plain rfl rfl ?_
                  go_simp
                  exact ⟨⟨by simp [hsz.out], hx.out.same (by decide)⟩, upd z 117 (.int .i64 (y % 21)), (by unfold Hid; simp [upd, e6]), hz.next apx hsz.out 7 (by decide) _ (fun _ h => Option.some.inj h), hp13.keep (by decide)⟩
                · refine wpOp_plain rfl rfl ?_
                  go_simp
                  exact ⟨⟨by simp [hsz.out], hx.out.same (by decide)⟩, upd z 118 (.slice (some ⟨b0, off, none⟩) k c), (by unfold Hid; simp [upd]), hz.next apx hsz.out 8 (by decide) _ (fun _ h => Option.some.inj h), hp13.keep (by decide)⟩
                · refine wpOp_plain rfl rfl ?_
                  go_simp
                  exact ⟨⟨by simp [hsz.out], hx.out.same (by decide)⟩, upd z 119 (.int .i64 i), (by unfold Hid; simp [upd]), hz.next apx hsz.out 9 (by decide) _ (fun _ h => Option.some.inj h), hp13.keep (by decide)⟩
                · have e8 : z 118 = .slice (some ⟨b0, off, none⟩) k c := hz 8 _ (hw 8 (by kernel_rfl)) rfl
                  have e9 : z 119 = .int .i64 i := hz 9 _ (hw 9 (by kernel_rfl)) rfl
                  refine wpOp_plain rfl rfl ?_
                  go_simp
                  exact ⟨⟨by simp [hsz.out], hx.out.same (by decide)⟩, upd z 120 (.pointer (some ⟨b0, off + i * 20, none⟩)), (by unfold Hid; simp [upd, e8, e9]), hz.next apx hsz.out 10 (by decide) _ (fun _ h => Option.some.inj h), hp13.keep (by decide)⟩
                · have e10 : z 120 = .pointer (some ⟨b0, off + i * 20, none⟩) := hz 10 _ (hw 10 (by kernel_rfl)) rfl
                  refine wpOp_plain rfl rfl ?_
                  go_simp
                  exact ⟨⟨by simp [hsz.out], hx.out.same (by decide)⟩, upd z 121 (.pointer (some ⟨b0, off + i * 20 + 3, none⟩)), (by unfold Hid; simp [upd, e10]), hz.next apx hsz.out 11 (by decide) _ (fun _ h => Option.some.inj h), hp13.keep (by decide)⟩
                · have e11 : z 121 = .pointer (some ⟨b0, off + i * 20 + 3, none⟩) := hz 11 _ (hw 11 (by kernel_rfl)) rfl
                  have lw := hx.out.low (not_listed (fun hl => hcl 13 12 hl (by kernel_rfl)) hu)
                  have lm := loadM_eq (w := wx) Hox.out.mlen (fun j v hv => (lw.cell (p := ⟨b0, off + i * 20 + 3 + j, none⟩) (World.block_lt_of_cell? _ _ (Hc3.out j v hv))).trans (Hc3.out j v hv))
                  refine wpOp_plain rfl rfl ?_
                  go_simp
                  exact ⟨⟨by simp [hsz.out], hx.out.same (by decide)⟩, upd z 122 (.agg (vals x.mask).toArray), (by unfold Hid; simp [upd, e11]), hz.next apx hsz.out 12 (by decide) _ (fun _ h => Option.some.inj h), hp13.keep (by decide)⟩
                · have e0 : z 110 = .pointer (some ⟨K.g, 0, none⟩) := hz 0 _ (hw 0 (by kernel_rfl)) rfl
                  have e7 : z 117 = .int .i64 (y % 21) := hz 7 _ (hw 7 (by kernel_rfl)) rfl
                  have e12 : z 122 = .agg (vals x.mask).toArray := hz 12 _ (hw 12 (by kernel_rfl)) rfl
                  refine wpOp_plain rfl rfl ?_
                  go_simp
                  go_at_call 17
                  refine (Hcut.out wx (hx.out.low hu)).mono ?_
                  rintro e w' ⟨⟨E, rfl⟩, hq⟩
                  exact ⟨⟨by simp [hsz.out], RC.done (by rw [hsz.out]; decide)⟩, upd z 123 (.int .i64 E), (by unfold Hid; simp [upd, e0, e7, e12]), hz.next apx hsz.out 13 (by decide) _ (fun _ h => by cases h), Whn.done (hq)⟩
              · exact ⟨⟨rfl, RC.start⟩, fun xx => (#[Value.slice (some { block := b0, off := off }) k c, Value.agg (u8s key), Value.agg #[Value.string s, Value.int IntKind.i64 lv, Value.int IntKind.u64 ((cp : Nat) : Int), Value.int IntKind.u8 (sc : Nat)], undef, Value.pointer (some { block := w.heap.size, off := 0 }), Value.pointer (some { block := w.heap.size + 1, off := 0 }), u6, Value.pointer (some { block := K.g, off := 0 }), u8, Value.pointer (some { block := G.g, off := 0 }), Value.int IntKind.i64 0, Value.int IntKind.i64 ((ep : Nat) : Int), u12, Value.slice mb.A mm mb.c, Value.bool b, Value.int IntKind.i64 ((i : Nat) : Int), u16, undef, Value.slice (some { block := b0, off := off }) k c, Value.bool true, Value.bool false, Value.bool false, Value.pointer (some { block := w.heap.size + 1, off := 0 }), Value.string s, Value.int IntKind.i64 ((s.size : Nat) : Int), Value.bool (decide (40 < ((s.size : Nat) : Int))), Value.bool (decide (40 < ((s.size : Nat) : Int))), undef, Value.tuple #[Value.pointer (some { block := K.g, off := 0 }), Value.int IntKind.i64 0], Value.pointer (some { block := w.heap.size + 1, off := 3 }), Value.int IntKind.u8 (sc : Nat), Value.int IntKind.u8 (((sc : Nat) : Int) % 64), Value.int IntKind.i64 (((sc : Nat) : Int) % 64), Value.int IntKind.i64 ((n : Nat) : Int), Value.tuple #[Value.pointer (some { block := K.g, off := 0 }), Value.int IntKind.i64 0], Value.pointer (some { block := K.g, off := 0 }), Value.int IntKind.i64 0, Value.int IntKind.i64 0, Value.bool false, Value.tuple #[Value.pointer (some { block := G0.g, off := 0 }), Value.int IntKind.i64 0], Value.pointer (some { block := K.g, off := 0 }), Value.agg (u8s key), Value.pointer (some { block := w.heap.size + 1, off := 0 }), Value.string s, Value.pointer (some { block := w.heap.size + 1, off := 1 }), Value.agg #[Value.int IntKind.i64 lv, Value.int IntKind.u64 ((cp : Nat) : Int)], Value.tuple #[Value.pointer (some { block := G0.g, off := 0 }), Value.int IntKind.i64 0], Value.pointer (some { block := G0.g, off := 0 }), Value.int IntKind.i64 0, Value.int IntKind.i64 0, Value.bool false, Value.pointer (some { block := G0.g, off := 0 }), Value.int IntKind.i64 1, Value.int IntKind.i64 ((i : Nat) : Int), Value.slice (some { block := b0, off := off }) k c, Value.int IntKind.i64 ((k : Nat) : Int), Value.bool true, u57, u58, Value.slice (some { block := b0, off := off }) k c, Value.int IntKind.i64 ((i : Nat) : Int), Value.pointer (some { block := b0, off := off + i * 20 }), Value.pointer (some { block := b0, off := off + i * 20 }), Value.int IntKind.u8 1, Value.bool false, Value.bool false, u66, u67, u68, u69, u70, u71, u72, u73, u74, u75, u76, u77, u78, u79, u80, u81, u82, u83, u84, u85, u86, u87, u88, u89, u90, u91, u92, u93, u94, u95, u96, u97, u98, u99, u100, u101, u102, u103, u104, u105, u106, u107, Value.bool true, Value.bool true, u110, u111, u112, u113, u114, u115, u116, u117, u118, u119, u120, u121, u122, u123, u124, u125, u126, u127, u128, u129, u130, u131, u132, u133, u134, u135, u136, u137, u138, u139, u140, u141, u142, u143, u144, u145, u146, u147, u148, u149, u150, u151, u152, u153, u154, u155, u156, u157, u158, u159, u160, u161, undef, undef, undef, undef, undef, undef, undef, undef, undef, undef, undef, undef, undef, undef, undef, undef, undef, undef, undef, undef, undef, undef, undef, undef, undef, undef, undef, undef, undef, undef, undef] : Array Value).getD xx undef, rfl, Holding.start, Whn.none (by decide)⟩
            · by_cases h2 : z = 2
              · subst h2
                obtain ⟨k1, _, _, _, k5⟩ := Hfac.out _ hr.out.1.low
                have Hro := Lib.hid (c_reopen (sc := sc) hr.out.1 hr.out.2.1 (by omega) Hk.out.1 Hk.out.2 Hs100.out)
                have Hb := Lib.hid hr.out.2.2.2.2
                have hqn := hr.out.2.1.qn.1
                have Hqn : Hid (qs.length ≤ 1000) := by show _ ≤ _; omega
                have Hep := Lib.hid hr.out.2.2.1
                have Hlo := Lib.hid hr.out.2.2.2.1
                clear hqn c1 c2 c3
                go_upto_region 32 with (go_at_call 18; refine Hro.out.mono ?_; rintro e w5 ⟨J5, G5, D5, S5, V5, rfl, hw5, hR5⟩; have W5 := Lib.hid hw5; have R5 := Lib.hid hR5; clear hw5 hR5)
                clear c0 hr k1 k5
                go_upto_region 33 with (go_at_call 19; refine (c_texts W5.out R5.out.tn).mono ?_; rintro e w6 ⟨g6, rfl, hr6, hw6, hb6⟩; have W6 := Lib.hid hw6; have T6 := Lib.hid hr6; clear hw6 hr6 hb6)
                obtain ⟨ts, hts⟩ : ∃ ts, ts = V5.T := ⟨_, rfl⟩
                have hib : ∀ t ∈ ts, InB t := fun t ht => by rw [hts] at ht; exact (W6.out.se.sg.inb t ht).1
                have Hib := Lib.hid hib
                have hsame := R5.out.same
                have Hci := Lib.hid R5.out.ci
                have htn := R5.out.tn
                rw [← hts] at T6 hsame Hci htn ⊢
                obtain ⟨p5, hp5⟩ : ∃ p5, p5 = V5.ep := ⟨_, rfl⟩
                have Hp5 : Hid (V5.ep = p5) := hp5.symm
                have hple : ¬ (p5 : Int) ≤ (ep : Int) := by have := R5.out.ep; have := Hep.out; omega
                have Hepo : Hid (∀ W v qs', CW w2 W K J5 G5 D5 S5 V5 v qs' → Calls Tryz.prog 15 #[.pointer (some ⟨G5.g, 0, none⟩)] W fun e w' => e = .returned (.int .i64 (p5 : Nat)) ∧ W = w') := fun W v qs' h => by rw [hp5]; exact c_epoch h
                have Hvlt : Hid (∀ q ∈ u12.ownBlock.toList, q < w5.heap.size) := fun q hq => (W5.out.own.lt q (by simpa using hq)).2
                obtain ⟨A7, c7, hv7, ht7⟩ := W6.out.tx
                subst hv7
                have Ht7 := Lib.hid ht7
                have hq1 : (qs.map (·.M)).length = qs.length := List.length_map _
                obtain ⟨q, hq⟩ : ∃ q, q = qs.length := ⟨_, rfl⟩
                rw [← hq] at hq1
                have Hq1 := Lib.hid hq1
                obtain ⟨n6, hn6⟩ : ∃ n6, n6 = ts.length := ⟨_, rfl⟩
                have hql := Hqn.out
                rw [← hq] at W6 hql Hvlt ⊢
                rw [← hn6] at T6 htn ⊢
                have Hn6 := Lib.hid hn6.symm
                clear ht7 hq1 hq hn6 hib hp5 hts Hro W5
                have hwr : IntKind.i64.wrap ((q : Int) + 1) = (q : Int) + 1 := by rw [IntKind.wrap_i64]; omega
                rcases hsame with e | ⟨el, e⟩
                · obtain rfl : n6 = q := by rw [← Hn6.out, e]; exact Hq1.out
                  have He := Lib.hid e
                  have hne : ((n6 : Int) == (n6 : Int) + 1) = false := by rw [beq_eq_false_iff_ne]; omega
                  have T6' : Hid (TxAt w6 (some ⟨g6, 0, none⟩) ts) := rows_tx (by rw [Hn6.out]; exact T6.out) Hib.out
                  clear e
                  cases b
                  all_goals
                    go_wp2_with (first
                      | (go_at_call 20; refine (c_same W6.out (some ⟨g6, 0, none⟩) A7 n6 n6 n6 c7 ts (qs.map (·.M)) Hn6.out Hq1.out T6'.out Ht7.out htn htn He.out).mono ?_; rintro e w7 ⟨rfl, hw7, hb7⟩; have W7 := Lib.hid hw7; clear hw7 hb7)
                      | (go_at_call 15; with_reducible refine (Hepo.out _ _ _ W7.out).mono ?_; rintro e w' ⟨rfl, rfl⟩))
                    refine ⟨⟨i + 1, J5, G5, V5, mb, mm, p5, false, by omega, by go_num, rfl, rfl, rfl, rfl, D5, S5, qs, W7.out, Hci.out qs mb He.out.symm, Hp5.out, R5.out.lost, Hb.out⟩, by simp [intOf]; omega⟩
                · obtain rfl : b = true := by rw [← Hlo.out]; exact el
                  have hnq : n6 = q + 1 := by rw [← Hn6.out, e, List.length_append, Hq1.out]; rfl
                  have hne : ((n6 : Int) == (q : Int) + 1) = true := by rw [beq_iff_eq]; omega
                  have He : Hid (ts = (qs ++ [mb]).map (·.M)) := by show _ = _; rw [e, List.map_append]; rfl
                  have hlen : (qs ++ [mb]).length = n6 := by
                    have h9 := Hq1.out
                    rw [List.length_map] at h9
                    rw [List.length_append, h9]
                    exact hnq.symm
                  have Hlen := Lib.hid hlen
                  clear e el hnq hlen
                  go_wp2_with (first
                    | (at_builtin; refine wpList_app_cw rfl (.tmp 146) (.tmp 148) rfl W6.out mb Hb.out.1 mm Hb.out.2 rfl rfl Hqn.out ?_; intro v9 w9 hw9 hch9; have R9 := Lib.hid (T6.out.chg hch9 Hvlt.out); obtain ⟨A9, c9, hv9, ht9⟩ := hw9.tx; rw [Hlen.out] at hv9; subst hv9; have W9 := Lib.hid hw9; have Ht9 := Lib.hid ht9; clear hw9 ht9 hch9)
                    | (go_at_call 20; refine (c_same W9.out (some ⟨g6, 0, none⟩) A9 n6 n6 n6 c9 ts ((qs ++ [mb]).map (·.M)) Hn6.out (by rw [List.length_map]; exact Hlen.out) (rows_tx (by rw [Hn6.out]; exact R9.out) Hib.out) Ht9.out htn htn He.out).mono ?_; rintro e w7 ⟨rfl, hw7, hb7⟩; have W7 := Lib.hid hw7; clear hw7 hb7)
                    | (go_at_call 15; with_reducible refine (Hepo.out _ _ _ W7.out).mono ?_; rintro e w' ⟨rfl, rfl⟩))
                  refine ⟨⟨i + 1, J5, G5, V5, mb, mm, p5, false, by omega, by go_num, rfl, rfl, rfl, rfl, D5, S5, qs ++ [mb], W7.out, Hci.out (qs ++ [mb]) mb He.out.symm, Hp5.out, R5.out.lost, Hb.out⟩, by simp [intOf]; omega⟩
              · have e0 : (z == 0) = false := by rw [beq_eq_false_iff_ne]; exact h0
                have e1 : (z == 1) = false := by rw [beq_eq_false_iff_ne]; exact h1
                have e2 : (z == 2) = false := by rw [beq_eq_false_iff_ne]; exact h2
                go_wp2
                refine ⟨⟨i + 1, J, G, V, mb, mm, ep, b, by omega, by go_num, rfl, rfl, rfl, rfl, D, S, qs, hr.out.1, hr.out.2.1.next, hr.out.2.2⟩, by simp [intOf]; omega⟩
        · have hltI : ¬ (i : Int) < (k : Int) := by omega
          obtain ⟨k1, _, _, _, k5⟩ := Hfac.out _ hr.out.1.low
          have Hro := Lib.hid (c_reopen (sc := sc) hr.out.1 hr.out.2.1 (by omega) Hk.out.1 Hk.out.2 Hs100.out)
          have hqn := hr.out.2.1.qn.1
          have Hqn : Hid (qs.length ≤ 1000) := by show _ ≤ _; omega
          have Hep := Lib.hid hr.out.2.2.1
          clear hqn
          go_upto_region 42 with (go_at_call 18; refine Hro.out.mono ?_; rintro e w5 ⟨J5, G5, D5, S5, V5, rfl, hw5, hR5⟩; have W5 := Lib.hid hw5; have R5 := Lib.hid hR5; clear hw5 hR5)
          clear hr k1 k5
          go_upto_region 43 with (go_at_call 19; refine (c_texts W5.out R5.out.tn).mono ?_; rintro e w6 ⟨g6, rfl, hr6, hw6, hb6⟩; have W6 := Lib.hid hw6; have T6 := Lib.hid hr6; clear hw6 hr6 hb6)
          obtain ⟨ts, hts⟩ : ∃ ts, ts = V5.T := ⟨_, rfl⟩
          have hib : ∀ t ∈ ts, InB t := fun t ht => by rw [hts] at ht; exact (W6.out.se.sg.inb t ht).1
          have hsame := R5.out.same
          have htn := R5.out.tn
          rw [← hts] at T6 hsame htn ⊢
          obtain ⟨p5, hp5⟩ : ∃ p5, p5 = V5.ep := ⟨_, rfl⟩
          have hple : (ep : Int) < (p5 : Int) := by have := R5.out.ep; have := Hep.out; omega
          have Hepo : Hid (∀ W v qs', CW w2 W K J5 G5 D5 S5 V5 v qs' → Calls Tryz.prog 15 #[.pointer (some ⟨G5.g, 0, none⟩)] W fun e w' => e = .returned (.int .i64 (p5 : Nat)) ∧ W = w') := fun W v qs' h => by rw [hp5]; exact c_epoch h
          obtain ⟨A7, c7, hv7, ht7⟩ := W6.out.tx
          subst hv7
          have Ht7 := Lib.hid ht7
          have hq1 : (qs.map (·.M)).length = qs.length := List.length_map _
          obtain ⟨q, hq⟩ : ∃ q, q = qs.length := ⟨_, rfl⟩
          rw [← hq] at hq1
          have Hq1 := Lib.hid hq1
          obtain ⟨n6, hn6⟩ : ∃ n6, n6 = ts.length := ⟨_, rfl⟩
          have hql := Hqn.out
          rw [← hq] at W6 hql ⊢
          rw [← hn6] at T6 htn ⊢
          have hn6' := hn6.symm
          have Hn6 := Lib.hid hn6'
          have T6' : Hid (TxAt w6 (some ⟨g6, 0, none⟩) ts) := rows_tx (by rw [Hn6.out]; exact T6.out) hib
          have hbg : q ≤ n6 ∧ n6 ≤ q + 1 ∧ qs.map (·.M) = ts.take q := by
            rcases hsame with e | ⟨_, e⟩
            · have h1 : n6 = q := by rw [← hn6', e]; exact hq1
              exact ⟨by omega, by omega, by rw [e, ← hq1, List.take_length]⟩
            · have h1 : n6 = q + 1 := by rw [← hn6', e, List.length_append, hq1]; rfl
              exact ⟨by omega, by omega, by rw [e, ← hq1, List.take_left]⟩
          have Hbg : Hid (q ≤ n6 ∧ qs.map (·.M) = ts.take q) := ⟨hbg.1, hbg.2.2⟩
          have hle2 : (n6 : Int) ≤ (q : Int) + 1 := by have := hbg.2.1; omega
          have hwr : IntKind.i64.wrap ((q : Int) + 1) = (q : Int) + 1 := by rw [IntKind.wrap_i64]; omega
          clear ht7 hq1 hq hn6 hn6' hib hp5 hts Hro W5 hbg hsame
          go_wp2_with (first
            | (go_at_call 21; refine (c_begins W6.out A7 (some ⟨g6, 0, none⟩) q n6 c7 n6 (qs.map (·.M)) ts Hq1.out Hn6.out Ht7.out T6'.out hql ⟨Nat.le_refl _, htn⟩ Hbg.out).mono ?_; rintro e w7 ⟨rfl, hw7, hb7⟩; have W7 := Lib.hid hw7; clear hw7 hb7)
            | (go_at_call 15; with_reducible refine (Hepo.out _ _ _ W7.out).mono ?_; rintro e w' ⟨rfl, rfl⟩)
            | (go_at_call 9; refine (Hwk.out _ W7.out.low).mono ?_; rintro e w8 ⟨rfl, hb8⟩; have L8 := Lib.hid (W7.out.low.trans (hb8.mono W7.out.low.size)); clear hb8))
          go_ret
          exact ⟨rfl, HB2.out.trans (L8.out.mono HB2.out.size)⟩
end Go.Proofs.YtjjdmdnklbdjcaaGreatDoor.Sgm
