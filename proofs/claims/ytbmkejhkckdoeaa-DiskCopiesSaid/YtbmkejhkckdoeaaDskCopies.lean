/- DERIVED. The walk of DiskCopies (mkcopies.py writes this text out of copies.txt). -/
import Derived.Test.YtbmkejhkckdoeaaDskActs
import Derived.Test.YtbmkejhkckdoeaaStr
import Derived.Test.YtbmkejhkckdoeaaSlUntil
import Derived.Deep.CutRange
import Derived.Deep.CutBlock
namespace Go.Proofs.Ytbmkejhkckdoeaa.Dsk
open Go.RowKit
theorem bytes_sl {w : World} {K : DK} {D : DS} (h : Dsk w K D) (n : Nat) (hn : D.data.length = n) (h0 : 0 < n) : Calls Try.prog 9 #[.pointer (some ⟨K.g, 0, none⟩)] w fun e w' => ∃ g c, e = .returned (.slice (some ⟨g, 0, none⟩) n c) ∧ w.heap.size ≤ g ∧ Byt w' (some ⟨g, 0, none⟩) c D.data ∧ Below w.heap.size w w' := by
  refine (bytes_any h).mono ?_
  rintro e w' ⟨v, rfl, ho, hb⟩
  rw [hn] at ho
  obtain ⟨g, sp, rfl, hg, hh⟩ := own_shape ho hn h0
  exact ⟨g, _, rfl, hg, ⟨by omega, (fun h => by cases h), fun _ => ⟨g, 0, rfl, (Array.getElem?_eq_some_iff.1 hh).1, fun j hj => by rw [Nat.zero_add]; exact body_cell (K := ⟨0, g, sp⟩) hh j hj⟩⟩, hb⟩
theorem new_12 (w : World) : Calls Try.prog 6 #[.int .i64 12] w fun e w' => ∃ K : DK, e = .returned (.tuple #[.pointer (some ⟨K.g, 0, none⟩), .int .i64 0]) ∧ Dsk w' K (newD 12) ∧ Below w.heap.size w w' ∧ w.heap.size ≤ K.g ∧ w.heap.size ≤ K.h := new_ok 12 w (by decide) (by decide)
theorem n12_secs : (newD 12).secs = 12 := by kernel_rfl
theorem copy_ptr {w : World} {K : DK} {D : DS} (h : Dsk w K D) : Calls Try.prog 16 #[.pointer (some ⟨K.g, 0, none⟩)] w fun e w' => ∃ K' : DK, e = .returned (.pointer (some ⟨K'.g, 0, none⟩)) ∧ Dsk w' K' D ∧ Below w.heap.size w w' ∧ w.heap.size ≤ K'.g ∧ w.heap.size ≤ K'.h := copy_any h
theorem off_ptr {w : World} {K : DK} {D : DS} (h : Dsk w K D) : Calls Try.prog 12 #[.pointer (some ⟨K.g, 0, none⟩)] w fun e w' => e = .returned (.bool D.off) ∧ w = w' := off_any h
theorem writes_ptr {w : World} {K : DK} {D : DS} (h : Dsk w K D) : Calls Try.prog 15 #[.pointer (some ⟨K.g, 0, none⟩)] w fun e w' => e = .returned (.int .i64 D.writes) ∧ w = w' := writes_any h
/-- what a loop of acts keeps. -/
structure CI (w : World) (K : DK) (M i : Nat) (wr : World) (D : DS) : Prop where
  dsk : Dsk wr K D
  secs : D.secs = 12
  wrs : D.writes ≤ M + 8 * i
  low : Below w.heap.size w wr
theorem CI.act {w wr w' : World} {K : DK} {M i : Nat} {D : DS} (h : CI w K M i wr D) (hq : ActQ D K wr w') (hg : w.heap.size ≤ K.g) (hh : w.heap.size ≤ K.h) : ∃ D', CI w K M (i + 1) w' D' := by
  obtain ⟨D', hd, hs, hw⟩ := hq.ex
  exact ⟨D', hd, hs.trans h.secs, by have := h.wrs; omega, hq.chg.below h.low h.low.size (fun k hk => by simp [DK.bl] at hk; omega)⟩
theorem acts_at {w wr : World} {A : Option Addr} {c : Nat} {xs : List Av} (h : Acts w A c xs) (hb : Below w.heap.size w wr) (i : Nat) (hi : i < xs.length) : ∃ b off x, A = some ⟨b, off, none⟩ ∧ xs[i]? = some x ∧ wr.rangeAt b (off + i * 21) x.c.toList := by
  obtain ⟨b, off, hA, _, hc⟩ := (h.below hb (Nat.le_refl _)).2.2 (by omega)
  exact ⟨b, off, xs[i], hA, List.getElem?_eq_getElem hi, hc i _ (List.getElem?_eq_getElem hi)⟩
theorem bytes_sb {w : World} {K : DK} {D : DS} (h : Dsk w K D) : Calls Try.prog 9 #[.pointer (some ⟨K.g, 0, none⟩)] w fun e w' => ∃ v, e = .returned v ∧ SlB D.data v w' ∧ Below w.heap.size w w' := by
  refine (bytes_any h).mono ?_
  rintro e w' ⟨v, rfl, ho, hb⟩
  exact ⟨v, rfl, own_sl ho rfl, hb⟩
theorem restart_ptr {w : World} {K : DK} {D : DS} (h : Dsk w K D) : Calls Try.prog 17 #[.pointer (some ⟨K.g, 0, none⟩)] w fun e w' => e = .returned (.int .i64 0) ∧ Dsk w' K (restD D) ∧ Chg K.bl w w' := restart_any h
def z128 : List Int := List.replicate 128 0
theorem mk_z128 (w : World) : (Instr.makeSlice 22 (.int .i64 128) (.int .i64 128)).run Try.prog w = .ok (.slice (some ⟨w.heap.size, 0, none⟩) 128 128) (w.alloc (.cells (u8s z128) 5)) := mk_any 128 (by decide) w
theorem z128_len : (z128.set 5 9).length = 128 := by simp [z128]
theorem z128_set : InB (z128.set 5 9) := by
  intro j
  rw [List.getD_eq_getElem?_getD, List.getElem?_set]
  by_cases e : 5 = j
  · subst e; simp [z128]
  · rw [if_neg e, z128, List.getElem?_replicate]; split <;> simp
theorem r_read {w : World} {K : DK} {D : DS} (h : Dsk w K (restD D)) (hs : D.secs = 12) (hl : D.data.length = 1536) : Calls Try.prog 18 #[.pointer (some ⟨K.g, 0, none⟩), .int .i64 0, .int .i64 12] w fun e w' => ∃ A c, e = .returned (.tuple #[.slice A 1536 c, .int .i64 0]) ∧ (Byt w' A c D.data ∧ ∀ a, A = some a → a.block ∉ K.bl) ∧ Below w.heap.size w w' := by
  have hs' : (restD D).secs = 12 := hs
  have hd : ((restD D).data.drop (0 * 128)).take (12 * 128) = D.data := by
    show (D.data.drop 0).take 1536 = D.data
    rw [List.drop_zero, List.take_of_length_le (by omega)]
  refine (read_own h 0 12 (by omega) rfl).mono ?_
  rintro e w' ⟨v, rfl, hb, ho⟩
  rw [hd] at ho
  obtain ⟨g, sp, rfl, hg, hh⟩ := own_shape ho hl (by decide)
  refine ⟨_, _, rfl, ⟨⟨by omega, (fun h => by cases h), fun _ => ⟨g, 0, rfl, (Array.getElem?_eq_some_iff.1 hh).1, fun j hj => by rw [Nat.zero_add]; exact body_cell (K := ⟨0, g, sp⟩) hh j hj⟩⟩, fun a e hm => ?_⟩, hb⟩
  cases e
  have := h.glt
  have := h.hlt
  simp [DK.bl] at hm; omega
theorem r_write {w : World} {K : DK} {D : DS} {g : Nat} {b : List Int} (h : Dsk w K (restD D)) (hs : D.secs = 12) (hw : D.writes ≤ 1000) (hr : w.heap[g]? = some (.cells (u8s b) 5 (0, 0))) (hl : b.length = 128) (hi : InB b) (hg : g ∉ K.bl) :
    Calls Try.prog 11 #[.pointer (some ⟨K.g, 0, none⟩), .int .i64 11, .slice (some ⟨g, 0, none⟩) 128 128] w fun e w' => e = .returned (.int .i64 0) ∧ Chg K.bl w w' := by
  have hs' : (restD D).secs = 12 := hs
  have hdue : (restD D).due = false := rfl
  have he : (runD (restD D) 11 b 0 1).2 = 0 := by
    have : (stepD (restD D) (11 + 0) (secL b 0)).off = false := by
      unfold stepD; rw [if_neg (by rw [hdue]; decide)]; rfl
    rw [run_on this]; rfl
  refine (write_ok h 11 1 128 (by omega) rfl (some ⟨g, 0, none⟩) 128 b (by decide) hl hi ⟨by omega, (fun h => by cases h), fun _ => ⟨g, 0, rfl, (Array.getElem?_eq_some_iff.1 hr).1, fun j hj => by rw [Nat.zero_add]; exact row8_cell hr j hj⟩⟩ (fun a ha => by cases ha; exact hg) (by show D.writes ≤ _; omega)).mono ?_
  rintro e w' ⟨rfl, _, hc⟩
  rw [he]
  exact ⟨rfl, hc⟩
/-- the world of the law's last look: the disk as it was until the restart comes. -/
structure RA (K : DK) (D : DS) (W : World) (ll : Array Bool) (wx : World) : Prop where
  chg : Chg K.bl W wx
  bef : ll.getD 20 false = false → Dsk wx K D
  aft : ll.getD 20 false = true → Dsk wx K (restD D)
theorem RA.start {K : DK} {D : DS} {W : World} (h : Dsk W K D) {n : Nat} : RA K D W (Array.replicate n false) W.drew :=
  ⟨Chg.of_below (Below.refl _ _).drew, fun _ => h.later (Below.refl _ _).drew, fun hl => by
    have : (Array.replicate n false).getD 20 false = false := by
      by_cases hn : 20 < n <;> simp [Array.getD_eq_getD_getElem?, hn]
    rw [this] at hl; cases hl⟩
theorem RA.same {K : DK} {D : DS} {W wx : World} {ll : Array Bool} {i : Nat} (h : RA K D W ll wx) (hi : i ≠ 20) : RA K D W (ll.setIfInBounds i true) wx :=
  ⟨h.chg, by rw [getD_set_ne false hi]; exact h.bef, by rw [getD_set_ne false hi]; exact h.aft⟩
theorem RA.call {K : DK} {D : DS} {W wx w' : World} {ll : Array Bool} {i : Nat} (h : RA K D W ll wx) (hi : i ≠ 20) (hb : Below wx.heap.size wx w') : RA K D W (ll.setIfInBounds i true) w' :=
  ⟨h.chg.trans (Chg.of_below hb), by rw [getD_set_ne false hi]; exact fun hl => (h.bef hl).later hb, by rw [getD_set_ne false hi]; exact fun hl => (h.aft hl).later hb⟩
theorem RA.done {K : DK} {D : DS} {W wx w' : World} {ll : Array Bool} (h : RA K D W ll wx) (hs : 20 < ll.size) (hd : Dsk w' K (restD D)) (hc : Chg K.bl wx w') : RA K D W (ll.setIfInBounds 20 true) w' :=
  ⟨h.chg.trans hc, fun hl => by simp [hs] at hl, fun _ => hd⟩
set_option maxRecDepth 100000 in
set_option maxHeartbeats 8000000 in
theorem copies_walk (A1 A2 : Option Addr) (n1 c1 n2 c2 : Nat) (xs ys : List Av) (h1 : xs.length = n1) (h2 : ys.length = n2) (m1 : n1 ≤ 9223372036854775807) (m2 : n2 ≤ 9223372036854775807) (w : World) (ok1 : ∀ x ∈ xs, x.Ok ∧ Byt w x.A x.cap x.L) (ok2 : ∀ x ∈ ys, x.Ok ∧ Byt w x.A x.cap x.L) (B1 : Acts w A1 c1 xs) (B2 : Acts w A2 c2 ys) :
    Calls Try.prog 4 #[.slice A1 n1 c1, .slice A2 n2 c2] w fun e w' => e = .returned (.bool true) ∧ Below w.heap.size w w' := by
  have HB1 := Lib.hid B1
  have HB2 := Lib.hid B2
  have HL1 := Lib.hid h1
  have HL2 := Lib.hid h2
  have HO1 := Lib.hid ok1
  have HO2 := Lib.hid ok2
  have hc1 : n1 ≤ c1 := by rw [← h1]; exact B1.1
  have hc2 : n2 ≤ c2 := by rw [← h2]; exact B2.1
  have HN1 : Hid (0 < n1 → ∃ b off, A1 = some ⟨b, off, none⟩) := fun h => by obtain ⟨b, off, e, _⟩ := B1.2.2 (by omega); exact ⟨b, off, e⟩
  have HN2 : Hid (0 < n2 → ∃ b off, A2 = some ⟨b, off, none⟩) := fun h => by obtain ⟨b, off, e, _⟩ := B2.2.2 (by omega); exact ⟨b, off, e⟩
  clear B1 B2 h1 h2 ok1 ok2
  go_enter Try.func4, Try.ntmps4
  go_upto_block 0 with (go_at_call 6; refine (new_12 w).mono ?_; rintro e w3 ⟨K, rfl, hd3, hb3, hg3, hh3⟩; have Hd3 := Lib.hid hd3; have Hb3 := Lib.hid hb3; have Hg3 := Lib.hid hg3; have Hh3 := Lib.hid hh3; clear hd3 hb3 hg3 hh3)
  have hi0 : CI w K 0 0 w3 (newD 12) := ⟨Hd3.out, n12_secs, by simp [newD], Hb3.out⟩
  have H0 := Lib.hid hi0
  clear hi0
  go_cut [7] from 23 to 38 (fun _ wx => ∃ i D, i ≤ 15 ∧ CI w K 0 i wx D)
  case first =>
    go_wp2
    go_loopw [7] (fun v wr => ∃ i : Nat, i ≤ 15 ∧ v = .int .i64 i ∧ ∃ D, CI w K 0 i wr D) (fun v _ => 15 - (intOf v).toNat)
    case atStart => exact ⟨0, Nat.zero_le _, rfl, _, H0.out⟩
    case round =>
      obtain ⟨i, hi, rfl, D, hinv⟩ := hrel
      clear H0
      by_cases hl1 : i < n1
      · by_cases hl2 : i < 15
        · obtain ⟨b, off, x, e, hx, hr⟩ := acts_at HB1.out hinv.low i (by rw [HL1.out]; exact hl1)
          subst e
          have hox := HO1.out x (List.mem_of_getElem? hx)
          have hact := act_any hinv.dsk x hox.1 (hox.2.below hinv.low (Nat.le_refl _)) (by have := hinv.wrs; omega)
          have Hact := Lib.hid hact
          have Hr := Lib.hid hr
          have Hinv := Lib.hid hinv
          have HI : Hid ((Try.prog.info? 25).map (·.size) = some x.c.toList.length) := by show _ = _; rw [Array.length_toList, x.c_len hox.1.mlen]; exact infoAc
          have e1 : (i : Int) < n1 := by omega
          have e2 : (i : Int) < 15 := by omega
          clear hinv hr hact hox hx hl1 hl2
          go_wp2_with (first
            | (refine wpList_load_mid rfl 25 (.tmp 36) rfl b (off + i * 21) (by rfl) x.c.toList _ Hr.out Try.underlying25 rfl HI.out ?_)
            | (go_at_call 14; refine Hact.out.mono ?_; rintro e w4 ⟨rfl, hq4⟩; have Q4 := Lib.hid (Hinv.out.act hq4 Hg3.out Hh3.out); clear hq4))
          go_roundw
          case rel => exact ⟨i + 1, by omega, by go_num, Q4.out⟩
          case measure => simp [intOf]; omega
        · have e2 : ¬ (i : Int) < 15 := by omega
          go_wp2
          go_meet
          exact ⟨i, D, hi, hinv⟩
      · have e2 : ¬ (i : Int) < n1 := by omega
        go_wp2
        go_meet
        exact ⟨i, D, hi, hinv⟩
  case rest =>
    obtain ⟨i, D, hi15, hinv⟩ := hcut
    have Hinv := Lib.hid hinv
    have hlen : D.data.length = 1536 := by have := hinv.dsk.ok.whole128; rw [hinv.secs] at this; exact this
    have Hlen := Lib.hid hlen
    clear hinv hlen H0
    go_upto_region 10 with (first
      | (go_at_call 9; refine (bytes_sl Hinv.out.dsk 1536 Hlen.out (by decide)).mono ?_; rintro e w5 ⟨gw, cw, rfl, hgw, hb5, hl5⟩; have Hgw := Lib.hid hgw; have Hb5 := Lib.hid hb5; have Hl5 := Lib.hid hl5; have Hd5 := Lib.hid (Hinv.out.dsk.later hl5); clear hgw hb5 hl5)
      | (go_at_call 12; refine (off_ptr Hd5.out).mono ?_; rintro e w' ⟨rfl, rfl⟩)
      | (go_at_call 15; refine (writes_ptr Hd5.out).mono ?_; rintro e w' ⟨rfl, rfl⟩)
      | (go_at_call 16; refine (copy_ptr Hd5.out).mono ?_; rintro e w6 ⟨C, rfl, hd6, hb6, hg6, hh6⟩; have Hd6 := Lib.hid hd6; have Hb6 := Lib.hid hb6; have Hg6 := Lib.hid hg6; have Hh6 := Lib.hid hh6; clear hd6 hb6 hg6 hh6))
    have hb6w := Hb5.out.below Hb6.out (Nat.le_refl _)
    have Hb6w := Lib.hid hb6w
    clear hb6w
    go_cut [68] from 47 to 68 (fun s68 wx => s68 = .bool false ∧ Below w6.heap.size w6 wx)
    case first =>
      have apx : apartB [47, 48, 49, 50, 51, 52, 53, 54, 55, 56, 57, 58, 59, 60, 61, 62, 63, 64, 65, 66, 67, 68] = true := by decide
      refine wp_region_any (by kernel_rfl) ?_
      change wpAny _ _ _ _ _ _ _ (World.drew _)
      refine wpAny_inv (fun ll aa wx => Hid (ll.size = 22 ∧ Below w6.heap.size w6 wx) ∧ ∃ (z : Nat → Value), Hid (aa = ⟨#[.slice A1 n1 c1, .slice A2 n2 c2, undef, undef, .bool false, .pointer (some ⟨K.g, 0, none⟩), .int .i64 0, u7, .slice (some ⟨gw, 0, none⟩) 1536 cw, .bool D.off, .int .i64 D.writes, .pointer (some ⟨C.g, 0, none⟩), undef, undef, undef, undef, undef, .tuple #[.pointer (some ⟨K.g, 0, none⟩), .int .i64 0], .tuple #[.pointer (some ⟨K.g, 0, none⟩), .int .i64 0], .pointer (some ⟨K.g, 0, none⟩), .int .i64 0, .int .i64 0, .bool false, u23, u24, u25, u26, u27, u28, u29, u30, u31, u32, u33, u34, u35, u36, u37, u38, .pointer (some ⟨K.g, 0, none⟩), .slice (some ⟨gw, 0, none⟩) 1536 cw, .pointer (some ⟨K.g, 0, none⟩), .bool D.off, .pointer (some ⟨K.g, 0, none⟩), .int .i64 D.writes, .pointer (some ⟨K.g, 0, none⟩), .pointer (some ⟨C.g, 0, none⟩), z 47, z 48, z 49, z 50, z 51, z 52, z 53, z 54, z 55, z 56, z 57, z 58, z 59, z 60, z 61, z 62, z 63, z 64, z 65, z 66, z 67, z 68, undef, undef, undef, undef, undef, undef, undef, undef, undef, undef, undef, undef, undef, undef, undef, undef, undef, undef, undef, undef, undef, undef, undef, undef, undef, undef, undef, undef, undef, undef, undef, undef, undef, undef, undef, undef, undef, undef, undef, undef, undef, undef, undef, undef, undef, undef, undef, undef, undef, undef, undef, undef, undef, undef, undef, undef, undef, undef, undef, undef, undef, undef, undef, undef, undef, undef], []⟩) ∧ Holding [47, 48, 49, 50, 51, 52, 53, 54, 55, 56, 57, 58, 59, 60, 61, 62, 63, 64, 65, 66, 67, 68] [some (.pointer (some ⟨C.g, 0, none⟩)), some (.bool false), some (.bool false), some (.pointer (some ⟨C.g, 0, none⟩)), none, some (.string (strOfNums D.data)), some (.slice (some ⟨gw, 0, none⟩) 1536 cw), some (.string (strOfNums D.data)), some (.bool false), some (.bool false), some (.bool false), some (.pointer (some ⟨C.g, 0, none⟩)), some (.bool D.off), some (.bool D.off), some (.bool false), some (.bool false), some (.bool false), some (.pointer (some ⟨C.g, 0, none⟩)), some (.int .i64 D.writes), some (.int .i64 D.writes), some (.bool false), some (.bool false)] ll z ∧ Whn ll 4 (SlB D.data) (z 51) wx) ?_ (by kernel_rfl) ?_ ?_ _ _ _ _ (unlisted_none _) ?_
      · rintro ll aa wx ⟨hI, _⟩
        exact hI.out.1
      · rintro ll aa wx ⟨hI, z, ha, hz, hp4⟩ hall
        have hx := Lib.hid hI.out.2
        have e0 : z 47 = .pointer (some ⟨C.g, 0, none⟩) := hz 0 _ (hall 0 (by decide)) rfl
        have e1 : z 48 = .bool false := hz 1 _ (hall 1 (by decide)) rfl
        have e2 : z 49 = .bool false := hz 2 _ (hall 2 (by decide)) rfl
        have e3 : z 50 = .pointer (some ⟨C.g, 0, none⟩) := hz 3 _ (hall 3 (by decide)) rfl
        have e5 : z 52 = .string (strOfNums D.data) := hz 5 _ (hall 5 (by decide)) rfl
        have e6 : z 53 = .slice (some ⟨gw, 0, none⟩) 1536 cw := hz 6 _ (hall 6 (by decide)) rfl
        have e7 : z 54 = .string (strOfNums D.data) := hz 7 _ (hall 7 (by decide)) rfl
        have e8 : z 55 = .bool false := hz 8 _ (hall 8 (by decide)) rfl
        have e9 : z 56 = .bool false := hz 9 _ (hall 9 (by decide)) rfl
        have e10 : z 57 = .bool false := hz 10 _ (hall 10 (by decide)) rfl
        have e11 : z 58 = .pointer (some ⟨C.g, 0, none⟩) := hz 11 _ (hall 11 (by decide)) rfl
        have e12 : z 59 = .bool D.off := hz 12 _ (hall 12 (by decide)) rfl
        have e13 : z 60 = .bool D.off := hz 13 _ (hall 13 (by decide)) rfl
        have e14 : z 61 = .bool false := hz 14 _ (hall 14 (by decide)) rfl
        have e15 : z 62 = .bool false := hz 15 _ (hall 15 (by decide)) rfl
        have e16 : z 63 = .bool false := hz 16 _ (hall 16 (by decide)) rfl
        have e17 : z 64 = .pointer (some ⟨C.g, 0, none⟩) := hz 17 _ (hall 17 (by decide)) rfl
        have e18 : z 65 = .int .i64 D.writes := hz 18 _ (hall 18 (by decide)) rfl
        have e19 : z 66 = .int .i64 D.writes := hz 19 _ (hall 19 (by decide)) rfl
        have e20 : z 67 = .bool false := hz 20 _ (hall 20 (by decide)) rfl
        have e21 : z 68 = .bool false := hz 21 _ (hall 21 (by decide)) rfl
        have p4 := hp4.get (hall 4 (by decide))
        clear hall hz hI hp4
        obtain rfl := ha.out
        clear ha
        clear apx
        have E := Lib.hid e21
        have HX := Lib.hid hx.out
        clear e0 e1 e2 e3 e5 e6 e7 e8 e9 e10 e11 e12 e13 e14 e15 e16 e17 e18 e19 e20 e21 hx p4
        dsimp only
        go_wp2
        go_meet
        exact ⟨E.out, HX.out⟩
      · rintro ll aa wx i ⟨hI, z, ha, hz, hp4⟩ hi hu hw
        obtain rfl := ha.out
        have hsz := Lib.hid hI.out.1
        have hx := Lib.hid hI.out.2
        clear ha hI
        have hin : i < 22 := hi
        obtain rfl | rfl | rfl | rfl | rfl | rfl | rfl | rfl | rfl | rfl | rfl | rfl | rfl | rfl | rfl | rfl | rfl | rfl | rfl | rfl | rfl | rfl : i = 0 ∨ i = 1 ∨ i = 2 ∨ i = 3 ∨ i = 4 ∨ i = 5 ∨ i = 6 ∨ i = 7 ∨ i = 8 ∨ i = 9 ∨ i = 10 ∨ i = 11 ∨ i = 12 ∨ i = 13 ∨ i = 14 ∨ i = 15 ∨ i = 16 ∨ i = 17 ∨ i = 18 ∨ i = 19 ∨ i = 20 ∨ i = 21 := by omega
        · refine wpOp_plain rfl rfl ?_
          go_simp
          exact ⟨⟨by simp [hsz.out], hx.out⟩, upd z 47 (.pointer (some ⟨C.g, 0, none⟩)), (by unfold Hid; simp [upd]), hz.next apx hsz.out 0 (by decide) _ (fun _ h => Option.some.inj h), hp4.keep (by decide)⟩
        · have e0 : z 47 = .pointer (some ⟨C.g, 0, none⟩) := hz 0 _ (hw 0 (by kernel_rfl)) rfl
          refine wpOp_plain rfl rfl ?_
          go_simp
          exact ⟨⟨by simp [hsz.out], hx.out⟩, upd z 48 (.bool false), (by unfold Hid; simp [upd, e0]), hz.next apx hsz.out 1 (by decide) _ (fun _ h => Option.some.inj h), hp4.keep (by decide)⟩
        · have e1 : z 48 = .bool false := hz 1 _ (hw 1 (by kernel_rfl)) rfl
          refine wpOp_plain rfl rfl ?_
          go_simp
          exact ⟨⟨by simp [hsz.out], hx.out⟩, upd z 49 (.bool false), (by unfold Hid; simp [upd, e1]), hz.next apx hsz.out 2 (by decide) _ (fun _ h => Option.some.inj h), hp4.keep (by decide)⟩
        · have e2 : z 49 = .bool false := hz 2 _ (hw 2 (by kernel_rfl)) rfl
          refine wpOp_want rfl (by simp [Region.wanted, yielded, e2]) ?_
          go_simp
          exact ⟨⟨by simp [hsz.out], hx.out⟩, upd z 50 (.pointer (some ⟨C.g, 0, none⟩)), (by unfold Hid; simp [upd, e2]), hz.next apx hsz.out 3 (by decide) _ (fun _ h => Option.some.inj h), hp4.keep (by decide)⟩
        · have e2 : z 49 = .bool false := hz 2 _ (hw 2 (by kernel_rfl)) rfl
          have e3 : z 50 = .pointer (some ⟨C.g, 0, none⟩) := hz 3 _ (hw 3 (by kernel_rfl)) rfl
          refine wpOp_want rfl (by simp [Region.wanted, yielded, e2]) ?_
          go_simp
          go_at_call 9
          refine (bytes_sb (Hd6.out.later hx.out)).mono ?_
          rintro e w8 ⟨vr, rfl, hsb, low⟩
          exact ⟨⟨by simp [hsz.out], hx.out.trans (low.mono hx.out.size)⟩, upd z 51 (vr), (by unfold Hid; simp [upd, e2, e3]), hz.next apx hsz.out 4 (by decide) _ (fun _ h => by cases h), Whn.done (hsb)⟩
        · have e2 : z 49 = .bool false := hz 2 _ (hw 2 (by kernel_rfl)) rfl
          have p4 := hp4.get (hw 4 (by kernel_rfl))
          obtain ⟨A9, c9, hv9, hB9⟩ := p4
          have kc := Str.conv_any hB9 rfl
          refine wpOp_want rfl (by simp [Region.wanted, yielded, e2]) ?_
          simp only [hv9]
          go_simp
          exact ⟨⟨by simp [hsz.out], hx.out⟩, upd z 52 (.string (strOfNums D.data)), (by unfold Hid; simp [upd, e2, hv9]), hz.next apx hsz.out 5 (by decide) _ (fun _ h => Option.some.inj h), hp4.keep (by decide)⟩
        · have e2 : z 49 = .bool false := hz 2 _ (hw 2 (by kernel_rfl)) rfl
          refine wpOp_want rfl (by simp [Region.wanted, yielded, e2]) ?_
          go_simp
          exact ⟨⟨by simp [hsz.out], hx.out⟩, upd z 53 (.slice (some ⟨gw, 0, none⟩) 1536 cw), (by unfold Hid; simp [upd, e2]), hz.next apx hsz.out 6 (by decide) _ (fun _ h => Option.some.inj h), hp4.keep (by decide)⟩
        · have e2 : z 49 = .bool false := hz 2 _ (hw 2 (by kernel_rfl)) rfl
          have e6 : z 53 = .slice (some ⟨gw, 0, none⟩) 1536 cw := hz 6 _ (hw 6 (by kernel_rfl)) rfl
          have kc := Str.conv_any (Hb6w.out.below hx.out (Nat.le_refl _)) Hlen.out
          refine wpOp_want rfl (by simp [Region.wanted, yielded, e2]) ?_
          go_simp
          exact ⟨⟨by simp [hsz.out], hx.out⟩, upd z 54 (.string (strOfNums D.data)), (by unfold Hid; simp [upd, e2, e6]), hz.next apx hsz.out 7 (by decide) _ (fun _ h => Option.some.inj h), hp4.keep (by decide)⟩
        · have e2 : z 49 = .bool false := hz 2 _ (hw 2 (by kernel_rfl)) rfl
          have e5 : z 52 = .string (strOfNums D.data) := hz 5 _ (hw 5 (by kernel_rfl)) rfl
          have e7 : z 54 = .string (strOfNums D.data) := hz 7 _ (hw 7 (by kernel_rfl)) rfl
          refine wpOp_want rfl (by simp [Region.wanted, yielded, e2]) ?_
          go_simp
          exact ⟨⟨by simp [hsz.out], hx.out⟩, upd z 55 (.bool false), (by unfold Hid; simp [upd, e2, e5, e7]), hz.next apx hsz.out 8 (by decide) _ (fun _ h => Option.some.inj h), hp4.keep (by decide)⟩
        · have e2 : z 49 = .bool false := hz 2 _ (hw 2 (by kernel_rfl)) rfl
          have e8 : z 55 = .bool false := hz 8 _ (hw 8 (by kernel_rfl)) rfl
          refine wpOp_plain rfl rfl ?_
          go_simp
          exact ⟨⟨by simp [hsz.out], hx.out⟩, upd z 56 (.bool false), (by unfold Hid; simp [upd, e2, e8]), hz.next apx hsz.out 9 (by decide) _ (fun _ h => Option.some.inj h), hp4.keep (by decide)⟩
        · have e9 : z 56 = .bool false := hz 9 _ (hw 9 (by kernel_rfl)) rfl
          refine wpOp_plain rfl rfl ?_
          go_simp
          exact ⟨⟨by simp [hsz.out], hx.out⟩, upd z 57 (.bool false), (by unfold Hid; simp [upd, e9]), hz.next apx hsz.out 10 (by decide) _ (fun _ h => Option.some.inj h), hp4.keep (by decide)⟩
        · have e10 : z 57 = .bool false := hz 10 _ (hw 10 (by kernel_rfl)) rfl
          refine wpOp_want rfl (by simp [Region.wanted, yielded, e10]) ?_
          go_simp
          exact ⟨⟨by simp [hsz.out], hx.out⟩, upd z 58 (.pointer (some ⟨C.g, 0, none⟩)), (by unfold Hid; simp [upd, e10]), hz.next apx hsz.out 11 (by decide) _ (fun _ h => Option.some.inj h), hp4.keep (by decide)⟩
        · have e10 : z 57 = .bool false := hz 10 _ (hw 10 (by kernel_rfl)) rfl
          have e11 : z 58 = .pointer (some ⟨C.g, 0, none⟩) := hz 11 _ (hw 11 (by kernel_rfl)) rfl
          refine wpOp_want rfl (by simp [Region.wanted, yielded, e10]) ?_
          go_simp
          go_at_call 12
          refine (off_ptr (Hd6.out.later hx.out)).mono ?_
          rintro e w8 ⟨rfl, rfl⟩
          exact ⟨⟨by simp [hsz.out], hx.out.trans ((Below.refl _ _).mono hx.out.size)⟩, upd z 59 (.bool D.off), (by unfold Hid; simp [upd, e10, e11]), hz.next apx hsz.out 12 (by decide) _ (fun _ h => Option.some.inj h), (hp4.keep (by decide)).map (fun h => h.later (Below.refl _ _))⟩
        · have e10 : z 57 = .bool false := hz 10 _ (hw 10 (by kernel_rfl)) rfl
          refine wpOp_want rfl (by simp [Region.wanted, yielded, e10]) ?_
          go_simp
          exact ⟨⟨by simp [hsz.out], hx.out⟩, upd z 60 (.bool D.off), (by unfold Hid; simp [upd, e10]), hz.next apx hsz.out 13 (by decide) _ (fun _ h => Option.some.inj h), hp4.keep (by decide)⟩
        · have e10 : z 57 = .bool false := hz 10 _ (hw 10 (by kernel_rfl)) rfl
          have e12 : z 59 = .bool D.off := hz 12 _ (hw 12 (by kernel_rfl)) rfl
          have e13 : z 60 = .bool D.off := hz 13 _ (hw 13 (by kernel_rfl)) rfl
          refine wpOp_want rfl (by simp [Region.wanted, yielded, e10]) ?_
          go_simp
          exact ⟨⟨by simp [hsz.out], hx.out⟩, upd z 61 (.bool false), (by unfold Hid; simp [upd, e10, e12, e13]), hz.next apx hsz.out 14 (by decide) _ (fun _ h => Option.some.inj h), hp4.keep (by decide)⟩
        · have e10 : z 57 = .bool false := hz 10 _ (hw 10 (by kernel_rfl)) rfl
          have e14 : z 61 = .bool false := hz 14 _ (hw 14 (by kernel_rfl)) rfl
          refine wpOp_plain rfl rfl ?_
          go_simp
          exact ⟨⟨by simp [hsz.out], hx.out⟩, upd z 62 (.bool false), (by unfold Hid; simp [upd, e10, e14]), hz.next apx hsz.out 15 (by decide) _ (fun _ h => Option.some.inj h), hp4.keep (by decide)⟩
        · have e15 : z 62 = .bool false := hz 15 _ (hw 15 (by kernel_rfl)) rfl
          refine wpOp_plain rfl rfl ?_
          go_simp
          exact ⟨⟨by simp [hsz.out], hx.out⟩, upd z 63 (.bool false), (by unfold Hid; simp [upd, e15]), hz.next apx hsz.out 16 (by decide) _ (fun _ h => Option.some.inj h), hp4.keep (by decide)⟩
        · have e16 : z 63 = .bool false := hz 16 _ (hw 16 (by kernel_rfl)) rfl
          refine wpOp_want rfl (by simp [Region.wanted, yielded, e16]) ?_
          go_simp
          exact ⟨⟨by simp [hsz.out], hx.out⟩, upd z 64 (.pointer (some ⟨C.g, 0, none⟩)), (by unfold Hid; simp [upd, e16]), hz.next apx hsz.out 17 (by decide) _ (fun _ h => Option.some.inj h), hp4.keep (by decide)⟩
        · have e16 : z 63 = .bool false := hz 16 _ (hw 16 (by kernel_rfl)) rfl
          have e17 : z 64 = .pointer (some ⟨C.g, 0, none⟩) := hz 17 _ (hw 17 (by kernel_rfl)) rfl
          refine wpOp_want rfl (by simp [Region.wanted, yielded, e16]) ?_
          go_simp
          go_at_call 15
          refine (writes_ptr (Hd6.out.later hx.out)).mono ?_
          rintro e w8 ⟨rfl, rfl⟩
          exact ⟨⟨by simp [hsz.out], hx.out.trans ((Below.refl _ _).mono hx.out.size)⟩, upd z 65 (.int .i64 D.writes), (by unfold Hid; simp [upd, e16, e17]), hz.next apx hsz.out 18 (by decide) _ (fun _ h => Option.some.inj h), (hp4.keep (by decide)).map (fun h => h.later (Below.refl _ _))⟩
        · have e16 : z 63 = .bool false := hz 16 _ (hw 16 (by kernel_rfl)) rfl
          refine wpOp_want rfl (by simp [Region.wanted, yielded, e16]) ?_
          go_simp
          exact ⟨⟨by simp [hsz.out], hx.out⟩, upd z 66 (.int .i64 D.writes), (by unfold Hid; simp [upd, e16]), hz.next apx hsz.out 19 (by decide) _ (fun _ h => Option.some.inj h), hp4.keep (by decide)⟩
        · have e16 : z 63 = .bool false := hz 16 _ (hw 16 (by kernel_rfl)) rfl
          have e18 : z 65 = .int .i64 D.writes := hz 18 _ (hw 18 (by kernel_rfl)) rfl
          have e19 : z 66 = .int .i64 D.writes := hz 19 _ (hw 19 (by kernel_rfl)) rfl
          refine wpOp_want rfl (by simp [Region.wanted, yielded, e16]) ?_
          go_simp
          exact ⟨⟨by simp [hsz.out], hx.out⟩, upd z 67 (.bool false), (by unfold Hid; simp [upd, e16, e18, e19]), hz.next apx hsz.out 20 (by decide) _ (fun _ h => Option.some.inj h), hp4.keep (by decide)⟩
        · have e16 : z 63 = .bool false := hz 16 _ (hw 16 (by kernel_rfl)) rfl
          have e20 : z 67 = .bool false := hz 20 _ (hw 20 (by kernel_rfl)) rfl
          refine wpOp_plain rfl rfl ?_
          go_simp
          exact ⟨⟨by simp [hsz.out], hx.out⟩, upd z 68 (.bool false), (by unfold Hid; simp [upd, e16, e20]), hz.next apx hsz.out 21 (by decide) _ (fun _ h => Option.some.inj h), hp4.keep (by decide)⟩
      · exact ⟨⟨rfl, (Below.refl _ _).drew⟩, fun xx => (#[.slice A1 n1 c1, .slice A2 n2 c2, undef, undef, .bool false, .pointer (some ⟨K.g, 0, none⟩), .int .i64 0, u7, .slice (some ⟨gw, 0, none⟩) 1536 cw, .bool D.off, .int .i64 D.writes, .pointer (some ⟨C.g, 0, none⟩), undef, undef, undef, undef, undef, .tuple #[.pointer (some ⟨K.g, 0, none⟩), .int .i64 0], .tuple #[.pointer (some ⟨K.g, 0, none⟩), .int .i64 0], .pointer (some ⟨K.g, 0, none⟩), .int .i64 0, .int .i64 0, .bool false, u23, u24, u25, u26, u27, u28, u29, u30, u31, u32, u33, u34, u35, u36, u37, u38, .pointer (some ⟨K.g, 0, none⟩), .slice (some ⟨gw, 0, none⟩) 1536 cw, .pointer (some ⟨K.g, 0, none⟩), .bool D.off, .pointer (some ⟨K.g, 0, none⟩), .int .i64 D.writes, .pointer (some ⟨K.g, 0, none⟩), .pointer (some ⟨C.g, 0, none⟩), undef, undef, undef, undef, undef, undef, undef, undef, undef, undef, undef, undef, undef, undef, undef, undef, undef, undef, undef, undef, undef, undef, undef, undef, undef, undef, undef, undef, undef, undef, undef, undef, undef, undef, undef, undef, undef, undef, undef, undef, undef, undef, undef, undef, undef, undef, undef, undef, undef, undef, undef, undef, undef, undef, undef, undef, undef, undef, undef, undef, undef, undef, undef, undef, undef, undef, undef, undef, undef, undef, undef, undef, undef, undef, undef, undef, undef, undef, undef, undef, undef, undef, undef, undef, undef, undef, undef, undef] : Array Value).getD xx undef, (by rfl), Holding.start, Whn.none (by decide)⟩
    case rest =>
      obtain ⟨rfl, hb7⟩ := hcut
      have hd7 := Hd5.out.later (Hb6.out.trans (hb7.mono Hb6.out.size))
      have hC7 := Hd6.out.later hb7
      have hbw7 := Hb6w.out.below hb7 (Nat.le_refl _)
      have hlow5 := Hinv.out.low.trans (Hl5.out.mono Hinv.out.low.size)
      have hlow7 := hlow5.trans ((Hb6.out.trans (hb7.mono Hb6.out.size)).mono hlow5.size)
      have hgC : w.heap.size ≤ C.g := Nat.le_trans hlow5.size Hg6.out
      have hhC : w.heap.size ≤ C.h := Nat.le_trans hlow5.size Hh6.out
      have hKC : K.g ∉ C.bl ∧ K.h ∉ C.bl ∧ gw ∉ C.bl := by
        have := Hd5.out.glt
        have := Hd5.out.hlt
        obtain ⟨g', o', e, hg', _⟩ := Hb5.out.2.2 (by rw [Hlen.out]; decide)
        cases e
        have := Hg6.out
        have := Hh6.out
        simp [DK.bl]; omega
      have hi0 : CI w C D.writes.toNat 0 wc D := ⟨hC7, Hinv.out.secs, by have := Hinv.out.dsk.ok.wr; simp; omega, hlow7⟩
      have H0 : Hid (CI w C D.writes.toNat 0 wc D ∧ Chg C.bl wc wc) := ⟨hi0, Chg.refl _ _⟩
      have hM : D.writes.toNat ≤ 120 := by have := Hinv.out.wrs; omega
      have HM := Lib.hid hM
      have HgC := Lib.hid hgC
      have HhC := Lib.hid hhC
      have HKC := Lib.hid hKC
      have Hd7a := Lib.hid hd7
      have Hbw7 := Lib.hid hbw7
      have Hsecs := Lib.hid Hinv.out.secs
      have Hwrs : Hid (D.writes ≤ 1000) := by show _ ≤ _; have := Hinv.out.wrs; omega
      have HgwK : Hid (∀ a : Addr, some (⟨gw, 0, none⟩ : Addr) = some a → a.block ∉ K.bl) := fun a e hm => by
        cases e
        have h1 := Hgw.out
        have h2 := Hinv.out.dsk.glt
        have h3 := Hinv.out.dsk.hlt
        simp [DK.bl] at hm; omega
      obtain ⟨M, hMM⟩ : ∃ M, M = D.writes.toNat := ⟨_, rfl⟩
      rw [← hMM] at H0 HM
      clear hb7 hd7 hC7 hbw7 hlow5 hlow7 hgC hhC hKC hi0 hM hMM Hinv Hb5 Hl5 Hd5 Hd6 Hb6 Hg6 Hh6 Hb6w Hd3 Hb3
      go_upto_block 2 with (fail)
      go_cut [12] from 69 to 84 (fun _ wx => ∃ i E, i ≤ 15 ∧ CI w C M i wx E ∧ Chg C.bl wc wx)
      case first =>
        go_wp2
        go_loopw [12] (fun v wr => ∃ i : Nat, i ≤ 15 ∧ v = .int .i64 i ∧ ∃ E, CI w C M i wr E ∧ Chg C.bl wc wr) (fun v _ => 15 - (intOf v).toNat)
        case atStart => exact ⟨0, Nat.zero_le _, rfl, _, H0.out⟩
        case round =>
          obtain ⟨i, hi, rfl, E, hinv, hch⟩ := hrel
          clear H0
          by_cases hl1 : i < n2
          · by_cases hl2 : i < 15
            · obtain ⟨b, off, x, e, hx, hr⟩ := acts_at HB2.out hinv.low i (by rw [HL2.out]; exact hl1)
              subst e
              have hox := HO2.out x (List.mem_of_getElem? hx)
              have hact := act_any hinv.dsk x hox.1 (hox.2.below hinv.low (Nat.le_refl _)) (by have := hinv.wrs; have := HM.out; omega)
              have Hact := Lib.hid hact
              have Hr := Lib.hid hr
              have Hinv := Lib.hid hinv
              have Hch := Lib.hid hch
              have HI : Hid ((Try.prog.info? 25).map (·.size) = some x.c.toList.length) := by show _ = _; rw [Array.length_toList, x.c_len hox.1.mlen]; exact infoAc
              have e1 : (i : Int) < n2 := by omega
              have e2 : (i : Int) < 15 := by omega
              clear hinv hr hact hox hx hl1 hl2 hch
              go_wp2_with (first
                | (refine wpList_load_mid rfl 25 (.tmp 82) rfl b (off + i * 21) (by rfl) x.c.toList _ Hr.out Try.underlying25 rfl HI.out ?_)
                | (go_at_call 14; refine Hact.out.mono ?_; rintro e w4 ⟨rfl, hq4⟩; have Q4 := Lib.hid (Hinv.out.act hq4 HgC.out HhC.out); have Ch4 := Lib.hid (Hch.out.trans hq4.chg); clear hq4))
              go_roundw
              case rel => exact ⟨i + 1, by omega, by go_num, (by obtain ⟨E', h⟩ := Q4.out; exact ⟨E', h, Ch4.out⟩)⟩
              case measure => simp [intOf]; omega
            · have e2 : ¬ (i : Int) < 15 := by omega
              go_wp2
              go_meet
              exact ⟨i, E, hi, hinv, hch⟩
          · have e2 : ¬ (i : Int) < n2 := by omega
            go_wp2
            go_meet
            exact ⟨i, E, hi, hinv, hch⟩
      case rest =>
        obtain ⟨i2, E, _, hinv, hch⟩ := hcut
        have hd8 := Hd7a.out.chg hch HKC.out.1 HKC.out.2.1
        have hbw8 := Hbw7.out.chg hch (fun a e => by cases e; exact HKC.out.2.2)
        have Hd7 := Lib.hid hd8
        have Hbw := Lib.hid hbw8
        have Low7 := Lib.hid hinv.low
        clear hinv hch hd8 hbw8 H0 HB1 HB2 HO1 HO2 HL1 HL2 HN1 HN2 HM HgC HhC HKC Hd7a Hbw7
        rename World => w7
        go_upto_region 16 with (fail)
        go_cut [107] from 85 to 107 (fun s107 wx => s107 = .bool false ∧ Dsk wx K (restD D) ∧ Chg K.bl w7 wx)
        case first =>
          have apx : apartB [85, 86, 87, 88, 89, 90, 91, 92, 93, 94, 95, 96, 97, 98, 99, 100, 101, 102, 103, 104, 105, 106, 107] = true := by decide
          refine wp_region_any (by kernel_rfl) ?_
          change wpAny _ _ _ _ _ _ _ (World.drew _)
          refine wpAny_inv2 (fun ll aa wx => Hid (ll.size = 23 ∧ RA K D w7 ll wx) ∧ ∃ (z : Nat → Value), Hid (aa = ⟨#[.slice A1 n1 c1, .slice A2 n2 c2, undef, undef, .bool false, .pointer (some ⟨K.g, 0, none⟩), .int .i64 0, u7, .slice (some ⟨gw, 0, none⟩) 1536 cw, .bool D.off, .int .i64 D.writes, .pointer (some ⟨C.g, 0, none⟩), u12, undef, undef, undef, undef, .tuple #[.pointer (some ⟨K.g, 0, none⟩), .int .i64 0], .tuple #[.pointer (some ⟨K.g, 0, none⟩), .int .i64 0], .pointer (some ⟨K.g, 0, none⟩), .int .i64 0, .int .i64 0, .bool false, u23, u24, u25, u26, u27, u28, u29, u30, u31, u32, u33, u34, u35, u36, u37, u38, .pointer (some ⟨K.g, 0, none⟩), .slice (some ⟨gw, 0, none⟩) 1536 cw, .pointer (some ⟨K.g, 0, none⟩), .bool D.off, .pointer (some ⟨K.g, 0, none⟩), .int .i64 D.writes, .pointer (some ⟨K.g, 0, none⟩), .pointer (some ⟨C.g, 0, none⟩), u47, u48, u49, u50, u51, u52, u53, u54, u55, u56, u57, u58, u59, u60, u61, u62, u63, u64, u65, u66, u67, .bool false, u69, u70, u71, u72, u73, u74, u75, u76, u77, u78, u79, u80, u81, u82, u83, u84, z 85, z 86, z 87, z 88, z 89, z 90, z 91, z 92, z 93, z 94, z 95, z 96, z 97, z 98, z 99, z 100, z 101, z 102, z 103, z 104, z 105, z 106, z 107, undef, undef, undef, undef, undef, undef, undef, undef, undef, undef, undef, undef, undef, undef, undef, undef, undef, undef, undef, undef, undef, undef, undef, undef, undef, undef, undef], []⟩) ∧ Holding [85, 86, 87, 88, 89, 90, 91, 92, 93, 94, 95, 96, 97, 98, 99, 100, 101, 102, 103, 104, 105, 106, 107] [some (.pointer (some ⟨K.g, 0, none⟩)), none, some (.string (strOfNums D.data)), some (.slice (some ⟨gw, 0, none⟩) 1536 cw), some (.string (strOfNums D.data)), some (.bool false), some (.bool false), some (.pointer (some ⟨K.g, 0, none⟩)), some (.bool D.off), some (.bool D.off), some (.bool false), some (.bool false), some (.bool false), some (.pointer (some ⟨K.g, 0, none⟩)), some (.int .i64 D.writes), some (.int .i64 D.writes), some (.bool false), some (.bool false), some (.bool false), some (.pointer (some ⟨K.g, 0, none⟩)), some (.int .i64 0), some (.bool false), some (.bool false)] ll z ∧ Whu ll 1 2 (SlB D.data) (z 86) wx) ?_ (by kernel_rfl) ?_ ?_ _ rfl _ _ ?_
          · rintro ll aa wx ⟨hI, _⟩
            exact hI.out.1
          · rintro ll aa wx ⟨hI, z, ha, hz, hp1⟩ hall
            have hx := Lib.hid hI.out.2
            have e0 : z 85 = .pointer (some ⟨K.g, 0, none⟩) := hz 0 _ (hall 0 (by decide)) rfl
            have e2 : z 87 = .string (strOfNums D.data) := hz 2 _ (hall 2 (by decide)) rfl
            have e3 : z 88 = .slice (some ⟨gw, 0, none⟩) 1536 cw := hz 3 _ (hall 3 (by decide)) rfl
            have e4 : z 89 = .string (strOfNums D.data) := hz 4 _ (hall 4 (by decide)) rfl
            have e5 : z 90 = .bool false := hz 5 _ (hall 5 (by decide)) rfl
            have e6 : z 91 = .bool false := hz 6 _ (hall 6 (by decide)) rfl
            have e7 : z 92 = .pointer (some ⟨K.g, 0, none⟩) := hz 7 _ (hall 7 (by decide)) rfl
            have e8 : z 93 = .bool D.off := hz 8 _ (hall 8 (by decide)) rfl
            have e9 : z 94 = .bool D.off := hz 9 _ (hall 9 (by decide)) rfl
            have e10 : z 95 = .bool false := hz 10 _ (hall 10 (by decide)) rfl
            have e11 : z 96 = .bool false := hz 11 _ (hall 11 (by decide)) rfl
            have e12 : z 97 = .bool false := hz 12 _ (hall 12 (by decide)) rfl
            have e13 : z 98 = .pointer (some ⟨K.g, 0, none⟩) := hz 13 _ (hall 13 (by decide)) rfl
            have e14 : z 99 = .int .i64 D.writes := hz 14 _ (hall 14 (by decide)) rfl
            have e15 : z 100 = .int .i64 D.writes := hz 15 _ (hall 15 (by decide)) rfl
            have e16 : z 101 = .bool false := hz 16 _ (hall 16 (by decide)) rfl
            have e17 : z 102 = .bool false := hz 17 _ (hall 17 (by decide)) rfl
            have e18 : z 103 = .bool false := hz 18 _ (hall 18 (by decide)) rfl
            have e19 : z 104 = .pointer (some ⟨K.g, 0, none⟩) := hz 19 _ (hall 19 (by decide)) rfl
            have e20 : z 105 = .int .i64 0 := hz 20 _ (hall 20 (by decide)) rfl
            have e21 : z 106 = .bool false := hz 21 _ (hall 21 (by decide)) rfl
            have e22 : z 107 = .bool false := hz 22 _ (hall 22 (by decide)) rfl
            have hall20 := hall 20 (by decide)
            clear hall hz hI hp1
            obtain rfl := ha.out
            clear ha
            clear apx
            have E := Lib.hid e22
            have HX := Lib.hid hx.out.chg
            have HR := Lib.hid (hx.out.aft (hall20))
            clear e0 e2 e3 e4 e5 e6 e7 e8 e9 e10 e11 e12 e13 e14 e15 e16 e17 e18 e19 e20 e21 e22 hx
            dsimp only
            go_wp2
            go_meet
            exact ⟨E.out, HR.out, HX.out⟩
          · rintro ll aa wx i ⟨hI, z, ha, hz, hp1⟩ hcl hi hu hw
            obtain rfl := ha.out
            have hsz := Lib.hid hI.out.1
            have hx := Lib.hid hI.out.2
            clear ha hI
            have hin : i < 23 := hi
            obtain rfl | rfl | rfl | rfl | rfl | rfl | rfl | rfl | rfl | rfl | rfl | rfl | rfl | rfl | rfl | rfl | rfl | rfl | rfl | rfl | rfl | rfl | rfl : i = 0 ∨ i = 1 ∨ i = 2 ∨ i = 3 ∨ i = 4 ∨ i = 5 ∨ i = 6 ∨ i = 7 ∨ i = 8 ∨ i = 9 ∨ i = 10 ∨ i = 11 ∨ i = 12 ∨ i = 13 ∨ i = 14 ∨ i = 15 ∨ i = 16 ∨ i = 17 ∨ i = 18 ∨ i = 19 ∨ i = 20 ∨ i = 21 ∨ i = 22 := by omega
            · refine wpOp_plain rfl rfl ?_
              go_simp
              exact ⟨⟨by simp [hsz.out], hx.out.same (by decide)⟩, upd z 85 (.pointer (some ⟨K.g, 0, none⟩)), (by unfold Hid; simp [upd]), hz.next apx hsz.out 0 (by decide) _ (fun _ h => Option.some.inj h), hp1.keep (by decide)⟩
            · have e0 : z 85 = .pointer (some ⟨K.g, 0, none⟩) := hz 0 _ (hw 0 (by kernel_rfl)) rfl
              have hnl : ll.getD 20 false = false := by
                cases hl : ll.getD 20 false
                · rfl
                · exact absurd (hcl 2 1 (hcl 5 2 (hcl 6 5 (hcl 11 6 (hcl 12 11 (hcl 17 12 (hcl 18 17 (hcl 20 18 (hl) (by kernel_rfl)) (by kernel_rfl)) (by kernel_rfl)) (by kernel_rfl)) (by kernel_rfl)) (by kernel_rfl)) (by kernel_rfl)) (by kernel_rfl)) (by rw [hu]; decide)
              have hdk := hx.out.bef hnl
              refine wpOp_plain rfl rfl ?_
              go_simp
              go_at_call 9
              refine (bytes_sb hdk).mono ?_
              rintro e w8 ⟨vr, rfl, hsb, low⟩
              exact ⟨⟨by simp [hsz.out], hx.out.call (by decide) low⟩, upd z 86 (vr), (by unfold Hid; simp [upd, e0]), hz.next apx hsz.out 1 (by decide) _ (fun _ h => by cases h), Whu.done (hsb)⟩
            · have p1 := hp1.get (hw 1 (by kernel_rfl)) hu
              obtain ⟨A9, c9, hv9, hB9⟩ := p1
              have kc := Str.conv_any hB9 rfl
              refine wpOp_plain rfl rfl ?_
              simp only [hv9]
              go_simp
              exact ⟨⟨by simp [hsz.out], hx.out.same (by decide)⟩, upd z 87 (.string (strOfNums D.data)), (by unfold Hid; simp [upd, hv9]), hz.next apx hsz.out 2 (by decide) _ (fun _ h => Option.some.inj h), Whu.past (by rw [hsz.out]; decide)⟩
            · refine wpOp_plain rfl rfl ?_
              go_simp
              exact ⟨⟨by simp [hsz.out], hx.out.same (by decide)⟩, upd z 88 (.slice (some ⟨gw, 0, none⟩) 1536 cw), (by unfold Hid; simp [upd]), hz.next apx hsz.out 3 (by decide) _ (fun _ h => Option.some.inj h), hp1.keep (by decide)⟩
            · have e3 : z 88 = .slice (some ⟨gw, 0, none⟩) 1536 cw := hz 3 _ (hw 3 (by kernel_rfl)) rfl
              have kc := Str.conv_any (Hbw.out.chg hx.out.chg HgwK.out) Hlen.out
              refine wpOp_plain rfl rfl ?_
              go_simp
              exact ⟨⟨by simp [hsz.out], hx.out.same (by decide)⟩, upd z 89 (.string (strOfNums D.data)), (by unfold Hid; simp [upd, e3]), hz.next apx hsz.out 4 (by decide) _ (fun _ h => Option.some.inj h), hp1.keep (by decide)⟩
            · have e2 : z 87 = .string (strOfNums D.data) := hz 2 _ (hw 2 (by kernel_rfl)) rfl
              have e4 : z 89 = .string (strOfNums D.data) := hz 4 _ (hw 4 (by kernel_rfl)) rfl
              refine wpOp_plain rfl rfl ?_
              go_simp
              exact ⟨⟨by simp [hsz.out], hx.out.same (by decide)⟩, upd z 90 (.bool false), (by unfold Hid; simp [upd, e2, e4]), hz.next apx hsz.out 5 (by decide) _ (fun _ h => Option.some.inj h), hp1.keep (by decide)⟩
            · have e5 : z 90 = .bool false := hz 5 _ (hw 5 (by kernel_rfl)) rfl
              refine wpOp_plain rfl rfl ?_
              go_simp
              exact ⟨⟨by simp [hsz.out], hx.out.same (by decide)⟩, upd z 91 (.bool false), (by unfold Hid; simp [upd, e5]), hz.next apx hsz.out 6 (by decide) _ (fun _ h => Option.some.inj h), hp1.keep (by decide)⟩
            · have e6 : z 91 = .bool false := hz 6 _ (hw 6 (by kernel_rfl)) rfl
              refine wpOp_want rfl (by simp [Region.wanted, yielded, e6]) ?_
              go_simp
              exact ⟨⟨by simp [hsz.out], hx.out.same (by decide)⟩, upd z 92 (.pointer (some ⟨K.g, 0, none⟩)), (by unfold Hid; simp [upd, e6]), hz.next apx hsz.out 7 (by decide) _ (fun _ h => Option.some.inj h), hp1.keep (by decide)⟩
            · have e6 : z 91 = .bool false := hz 6 _ (hw 6 (by kernel_rfl)) rfl
              have e7 : z 92 = .pointer (some ⟨K.g, 0, none⟩) := hz 7 _ (hw 7 (by kernel_rfl)) rfl
              have hnl : ll.getD 20 false = false := by
                cases hl : ll.getD 20 false
                · rfl
                · exact absurd (hcl 10 8 (hcl 11 10 (hcl 12 11 (hcl 17 12 (hcl 18 17 (hcl 20 18 (hl) (by kernel_rfl)) (by kernel_rfl)) (by kernel_rfl)) (by kernel_rfl)) (by kernel_rfl)) (by kernel_rfl)) (by rw [hu]; decide)
              have hdk := hx.out.bef hnl
              refine wpOp_want rfl (by simp [Region.wanted, yielded, e6]) ?_
              go_simp
              go_at_call 12
              refine (off_ptr hdk).mono ?_
              rintro e w8 ⟨rfl, rfl⟩
              exact ⟨⟨by simp [hsz.out], hx.out.call (by decide) (Below.refl _ _)⟩, upd z 93 (.bool D.off), (by unfold Hid; simp [upd, e6, e7]), hz.next apx hsz.out 8 (by decide) _ (fun _ h => Option.some.inj h), (hp1.keep (by decide)).map (fun h => h.later (Below.refl _ _))⟩
            · have e6 : z 91 = .bool false := hz 6 _ (hw 6 (by kernel_rfl)) rfl
              refine wpOp_want rfl (by simp [Region.wanted, yielded, e6]) ?_
              go_simp
              exact ⟨⟨by simp [hsz.out], hx.out.same (by decide)⟩, upd z 94 (.bool D.off), (by unfold Hid; simp [upd, e6]), hz.next apx hsz.out 9 (by decide) _ (fun _ h => Option.some.inj h), hp1.keep (by decide)⟩
            · have e6 : z 91 = .bool false := hz 6 _ (hw 6 (by kernel_rfl)) rfl
              have e8 : z 93 = .bool D.off := hz 8 _ (hw 8 (by kernel_rfl)) rfl
              have e9 : z 94 = .bool D.off := hz 9 _ (hw 9 (by kernel_rfl)) rfl
              refine wpOp_want rfl (by simp [Region.wanted, yielded, e6]) ?_
              go_simp
              exact ⟨⟨by simp [hsz.out], hx.out.same (by decide)⟩, upd z 95 (.bool false), (by unfold Hid; simp [upd, e6, e8, e9]), hz.next apx hsz.out 10 (by decide) _ (fun _ h => Option.some.inj h), hp1.keep (by decide)⟩
            · have e6 : z 91 = .bool false := hz 6 _ (hw 6 (by kernel_rfl)) rfl
              have e10 : z 95 = .bool false := hz 10 _ (hw 10 (by kernel_rfl)) rfl
              refine wpOp_plain rfl rfl ?_
              go_simp
              exact ⟨⟨by simp [hsz.out], hx.out.same (by decide)⟩, upd z 96 (.bool false), (by unfold Hid; simp [upd, e6, e10]), hz.next apx hsz.out 11 (by decide) _ (fun _ h => Option.some.inj h), hp1.keep (by decide)⟩
            · have e11 : z 96 = .bool false := hz 11 _ (hw 11 (by kernel_rfl)) rfl
              refine wpOp_plain rfl rfl ?_
              go_simp
              exact ⟨⟨by simp [hsz.out], hx.out.same (by decide)⟩, upd z 97 (.bool false), (by unfold Hid; simp [upd, e11]), hz.next apx hsz.out 12 (by decide) _ (fun _ h => Option.some.inj h), hp1.keep (by decide)⟩
            · have e12 : z 97 = .bool false := hz 12 _ (hw 12 (by kernel_rfl)) rfl
              refine wpOp_want rfl (by simp [Region.wanted, yielded, e12]) ?_
              go_simp
              exact ⟨⟨by simp [hsz.out], hx.out.same (by decide)⟩, upd z 98 (.pointer (some ⟨K.g, 0, none⟩)), (by unfold Hid; simp [upd, e12]), hz.next apx hsz.out 13 (by decide) _ (fun _ h => Option.some.inj h), hp1.keep (by decide)⟩
            · have e12 : z 97 = .bool false := hz 12 _ (hw 12 (by kernel_rfl)) rfl
              have e13 : z 98 = .pointer (some ⟨K.g, 0, none⟩) := hz 13 _ (hw 13 (by kernel_rfl)) rfl
              have hnl : ll.getD 20 false = false := by
                cases hl : ll.getD 20 false
                · rfl
                · exact absurd (hcl 16 14 (hcl 17 16 (hcl 18 17 (hcl 20 18 (hl) (by kernel_rfl)) (by kernel_rfl)) (by kernel_rfl)) (by kernel_rfl)) (by rw [hu]; decide)
              have hdk := hx.out.bef hnl
              refine wpOp_want rfl (by simp [Region.wanted, yielded, e12]) ?_
              go_simp
              go_at_call 15
              refine (writes_ptr hdk).mono ?_
              rintro e w8 ⟨rfl, rfl⟩
              exact ⟨⟨by simp [hsz.out], hx.out.call (by decide) (Below.refl _ _)⟩, upd z 99 (.int .i64 D.writes), (by unfold Hid; simp [upd, e12, e13]), hz.next apx hsz.out 14 (by decide) _ (fun _ h => Option.some.inj h), (hp1.keep (by decide)).map (fun h => h.later (Below.refl _ _))⟩
            · have e12 : z 97 = .bool false := hz 12 _ (hw 12 (by kernel_rfl)) rfl
              refine wpOp_want rfl (by simp [Region.wanted, yielded, e12]) ?_
              go_simp
              exact ⟨⟨by simp [hsz.out], hx.out.same (by decide)⟩, upd z 100 (.int .i64 D.writes), (by unfold Hid; simp [upd, e12]), hz.next apx hsz.out 15 (by decide) _ (fun _ h => Option.some.inj h), hp1.keep (by decide)⟩
            · have e12 : z 97 = .bool false := hz 12 _ (hw 12 (by kernel_rfl)) rfl
              have e14 : z 99 = .int .i64 D.writes := hz 14 _ (hw 14 (by kernel_rfl)) rfl
              have e15 : z 100 = .int .i64 D.writes := hz 15 _ (hw 15 (by kernel_rfl)) rfl
              refine wpOp_want rfl (by simp [Region.wanted, yielded, e12]) ?_
              go_simp
              exact ⟨⟨by simp [hsz.out], hx.out.same (by decide)⟩, upd z 101 (.bool false), (by unfold Hid; simp [upd, e12, e14, e15]), hz.next apx hsz.out 16 (by decide) _ (fun _ h => Option.some.inj h), hp1.keep (by decide)⟩
            · have e12 : z 97 = .bool false := hz 12 _ (hw 12 (by kernel_rfl)) rfl
              have e16 : z 101 = .bool false := hz 16 _ (hw 16 (by kernel_rfl)) rfl
              refine wpOp_plain rfl rfl ?_
              go_simp
              exact ⟨⟨by simp [hsz.out], hx.out.same (by decide)⟩, upd z 102 (.bool false), (by unfold Hid; simp [upd, e12, e16]), hz.next apx hsz.out 17 (by decide) _ (fun _ h => Option.some.inj h), hp1.keep (by decide)⟩
            · have e17 : z 102 = .bool false := hz 17 _ (hw 17 (by kernel_rfl)) rfl
              refine wpOp_plain rfl rfl ?_
              go_simp
              exact ⟨⟨by simp [hsz.out], hx.out.same (by decide)⟩, upd z 103 (.bool false), (by unfold Hid; simp [upd, e17]), hz.next apx hsz.out 18 (by decide) _ (fun _ h => Option.some.inj h), hp1.keep (by decide)⟩
            · have e18 : z 103 = .bool false := hz 18 _ (hw 18 (by kernel_rfl)) rfl
              refine wpOp_want rfl (by simp [Region.wanted, yielded, e18]) ?_
              go_simp
              exact ⟨⟨by simp [hsz.out], hx.out.same (by decide)⟩, upd z 104 (.pointer (some ⟨K.g, 0, none⟩)), (by unfold Hid; simp [upd, e18]), hz.next apx hsz.out 19 (by decide) _ (fun _ h => Option.some.inj h), hp1.keep (by decide)⟩
            · have e18 : z 103 = .bool false := hz 18 _ (hw 18 (by kernel_rfl)) rfl
              have e19 : z 104 = .pointer (some ⟨K.g, 0, none⟩) := hz 19 _ (hw 19 (by kernel_rfl)) rfl
              have hdk := hx.out.bef hu
              refine wpOp_want rfl (by simp [Region.wanted, yielded, e18]) ?_
              go_simp
              go_at_call 17
              refine (restart_ptr hdk).mono ?_
              rintro e w8 ⟨rfl, hdr, hcr⟩
              exact ⟨⟨by simp [hsz.out], hx.out.done (by rw [hsz.out]; decide) hdr hcr⟩, upd z 105 (.int .i64 0), (by unfold Hid; simp [upd, e18, e19]), hz.next apx hsz.out 20 (by decide) _ (fun _ h => Option.some.inj h), Whu.gone (hcl 5 2 (hcl 6 5 (hcl 11 6 (hcl 12 11 (hcl 17 12 (hcl 18 17 (hw 18 (by kernel_rfl)) (by kernel_rfl)) (by kernel_rfl)) (by kernel_rfl)) (by kernel_rfl)) (by kernel_rfl)) (by kernel_rfl))⟩
            · have e18 : z 103 = .bool false := hz 18 _ (hw 18 (by kernel_rfl)) rfl
              have e20 : z 105 = .int .i64 0 := hz 20 _ (hw 20 (by kernel_rfl)) rfl
              refine wpOp_want rfl (by simp [Region.wanted, yielded, e18]) ?_
              go_simp
              exact ⟨⟨by simp [hsz.out], hx.out.same (by decide)⟩, upd z 106 (.bool false), (by unfold Hid; simp [upd, e18, e20]), hz.next apx hsz.out 21 (by decide) _ (fun _ h => Option.some.inj h), hp1.keep (by decide)⟩
            · have e18 : z 103 = .bool false := hz 18 _ (hw 18 (by kernel_rfl)) rfl
              have e21 : z 106 = .bool false := hz 21 _ (hw 21 (by kernel_rfl)) rfl
              refine wpOp_plain rfl rfl ?_
              go_simp
              exact ⟨⟨by simp [hsz.out], hx.out.same (by decide)⟩, upd z 107 (.bool false), (by unfold Hid; simp [upd, e18, e21]), hz.next apx hsz.out 22 (by decide) _ (fun _ h => Option.some.inj h), hp1.keep (by decide)⟩
          · exact ⟨⟨rfl, RA.start Hd7.out⟩, fun xx => (#[.slice A1 n1 c1, .slice A2 n2 c2, undef, undef, .bool false, .pointer (some ⟨K.g, 0, none⟩), .int .i64 0, u7, .slice (some ⟨gw, 0, none⟩) 1536 cw, .bool D.off, .int .i64 D.writes, .pointer (some ⟨C.g, 0, none⟩), u12, undef, undef, undef, undef, .tuple #[.pointer (some ⟨K.g, 0, none⟩), .int .i64 0], .tuple #[.pointer (some ⟨K.g, 0, none⟩), .int .i64 0], .pointer (some ⟨K.g, 0, none⟩), .int .i64 0, .int .i64 0, .bool false, u23, u24, u25, u26, u27, u28, u29, u30, u31, u32, u33, u34, u35, u36, u37, u38, .pointer (some ⟨K.g, 0, none⟩), .slice (some ⟨gw, 0, none⟩) 1536 cw, .pointer (some ⟨K.g, 0, none⟩), .bool D.off, .pointer (some ⟨K.g, 0, none⟩), .int .i64 D.writes, .pointer (some ⟨K.g, 0, none⟩), .pointer (some ⟨C.g, 0, none⟩), u47, u48, u49, u50, u51, u52, u53, u54, u55, u56, u57, u58, u59, u60, u61, u62, u63, u64, u65, u66, u67, .bool false, u69, u70, u71, u72, u73, u74, u75, u76, u77, u78, u79, u80, u81, u82, u83, u84, undef, undef, undef, undef, undef, undef, undef, undef, undef, undef, undef, undef, undef, undef, undef, undef, undef, undef, undef, undef, undef, undef, undef, undef, undef, undef, undef, undef, undef, undef, undef, undef, undef, undef, undef, undef, undef, undef, undef, undef, undef, undef, undef, undef, undef, undef, undef, undef, undef, undef] : Array Value).getD xx undef, (by rfl), Holding.start, Whu.none (by decide)⟩
        case rest =>
          obtain ⟨rfl, hd9, hc9⟩ := hcut
          have hbw9 := Hbw.out.chg hc9 HgwK.out
          have hlow9 := hc9.below Low7.out Low7.out.size (fun k hk => by have := Hg3.out; have := Hh3.out; simp [DK.bl] at hk; omega)
          rename World => w9
          have hmk := mk_z128
          have hr10 := Go.heap_alloc_new w9 (.cells (u8s z128) 5)
          have c10 := row8_cell hr10 5 (by decide)
          have f10 := free_row hr10 5
          obtain ⟨w11, hw11⟩ : ∃ w11, w11 = w9.alloc (.cells ((u8s z128).setIfInBounds 5 (.int .u8 9)) 5) := ⟨_, rfl⟩
          have hr11 := Go.heap_alloc_new w9 (.cells ((u8s z128).setIfInBounds 5 (.int .u8 9)) 5)
          have hb11 : Below w9.heap.size w9 w11 := by rw [hw11]; exact (Below.refl _ _).alloc (Nat.le_refl _) _
          rw [← hw11, u8s_set] at hr11
          have hd11 := hd9.later hb11
          have hbw11 := hbw9.below hb11 (Nat.le_refl _)
          have hlow11 := hlow9.trans (hb11.mono hlow9.size)
          have hg11 : w9.heap.size ∉ K.bl := fun hm => by have := hd9.glt; have := hd9.hlt; simp [DK.bl] at hm; omega
          have hbin := z128_set
          have Hd11 := Lib.hid hd11
          have Hbw11 := Lib.hid hbw11
          have Low11 := Lib.hid hlow11
          have Hr11 := Lib.hid hr11
          have Hg11 := Lib.hid hg11
          have Hbin := Lib.hid hbin
          have Hw11 := Lib.hid hw11
          have HgK : Hid (∀ k ∈ K.bl, w.heap.size ≤ k) := fun k hk => by have := Hg3.out; have := Hh3.out; simp [DK.bl] at hk; omega
          clear hd9 hc9 hbw9 hlow9 hr10 hr11 hb11 hd11 hbw11 hlow11 hg11 hbin hw11 Low7 Hbw Hd7
          go_upto_region 20 with (fail)
          rw [← Hw11.out]
          clear c10 f10 Hw11
          go_upto_region 22 with (first
            | (go_at_call 18; refine (r_read Hd11.out Hsecs.out Hlen.out).mono ?_; rintro e w12 ⟨A12, c12, rfl, ⟨hb12, ha12⟩, hl12⟩; have Hd12 := Lib.hid (Hd11.out.later hl12); have Hr12 := Lib.hid ((hl12.block _ (Array.getElem?_eq_some_iff.1 Hr11.out).1).trans Hr11.out); have Hb12 := Lib.hid hb12; have Ha12 := Lib.hid ha12; have Hbw12 := Lib.hid (Hbw11.out.below hl12 (Nat.le_refl _)); have Low12 := Lib.hid (Low11.out.trans (hl12.mono Low11.out.size)); clear hb12 ha12 hl12)
            | (go_at_call 11; refine (r_write Hd12.out Hsecs.out Hwrs.out Hr12.out z128_len Hbin.out Hg11.out).mono ?_; rintro e w13 ⟨rfl, hc13⟩; have Hb13 := Lib.hid (Hb12.out.chg hc13 Ha12.out); have Hbw13 := Lib.hid (Hbw12.out.chg hc13 HgwK.out); have Low13 := Lib.hid (hc13.below Low12.out Low12.out.size HgK.out); clear hc13))
          have k1 := Str.conv_any Hb13.out Hlen.out
          have k2 := Str.conv_any Hbw13.out Hlen.out
          go_wp2_with (go_at_call 13; refine (works_any _).mono ?_; rintro e w14 ⟨rfl, hb14⟩; have L14 := Lib.hid (Low13.out.trans (hb14.mono Low13.out.size)); clear hb14)
          go_ret
          exact ⟨rfl, L14.out⟩
end Go.Proofs.Ytbmkejhkckdoeaa.Dsk
