/- DERIVED. The contract of the laws' again. Written by mkagain.py. -/
import Derived.Test.YtigfcmnknijobaaCodWritten
import Derived.Test.YtigfcmnknijobaaCodBackMath
import Derived.Test.YtigfcmnknijobaaArrEq
namespace Go.Proofs.Ytigfcmnknijobaa.Cod
open Go.RowKit Str
theorem grown_chg {g : Nat} {a b : World} (h : Chg [g] a b) : a.grownBy b (some g) := ⟨h.os, h.tape, h.output, h.size, fun k hk hn => h.block k hk (fun hm => hn (by rw [List.mem_singleton.1 hm]))⟩
theorem chg_grown {g : Nat} {a b : World} (h : a.grownBy b (some g)) : Chg [g] a b := ⟨h.os, h.tape, h.output, h.size, fun k hk hn => h.block k hk (fun e => hn (List.mem_singleton.2 (Option.some.inj e)))⟩
theorem num_back {rb : Nat} {R : List Int} {w : World} (n : Nat) (hn : n < 18446744073709551616) (h : Rdr rb (encN n ++ R) 0 w) (hle : (encN n ++ R).length ≤ 100000) (hb : InB (encN n ++ R)) :
    Calls Try.prog 15 #[.pointer (some ⟨rb, 0, none⟩), .int .u64 (n : Nat)] w fun e w' => e = .returned (.int .u64 (n : Nat)) ∧ Rdr rb R 0 w' ∧ Chg [rb] w w' := by
  have k := num_read n h hle hb
  rw [readN_enc hn (Nat.le_refl _)] at k
  exact k
theorem text_back {rb : Nat} {R : List Int} {w : World} (s : ByteArray) (hs : s.size ≤ 5000) (h : Rdr rb (textL s ++ R) 0 w) (hle : (textL s ++ R).length ≤ 100000) (hb : InB (textL s ++ R)) :
    Calls Try.prog 17 #[.pointer (some ⟨rb, 0, none⟩), .int .i64 (s.size : Nat)] w fun e w' => e = .returned (.string s) ∧ Rdr rb R 0 w' ∧ Chg [rb] w w' := by
  have k := text_read (s.size : Nat) (by omega) h hle hb
  rw [rdOf_ok, textR_enc (by omega)] at k
  simp only [if_true, str_bOf] at k
  exact k
theorem hash_back {rb : Nat} {h R : List Int} {w : World} (hh : h.length = 32) (hr : Rdr rb (h ++ R) 0 w) (hle : (h ++ R).length ≤ 100000) (hb : InB (h ++ R)) :
    Calls Try.prog 19 #[.pointer (some ⟨rb, 0, none⟩)] w fun e w' => e = .returned (.agg (u8s h)) ∧ Rdr rb R 0 w' ∧ Chg [rb] w w' := by
  have k := hash_read hr hle hb
  rw [rdOf_ok, hashR_enc hh] at k
  simp only [if_true] at k
  exact k
theorem label_back {rb : Nat} {R : List Int} {w : World} (lv : Int) (cp : Nat) (h0 : 0 ≤ lv) (h1 : lv < 16) (hc : cp < 18446744073709551616) (hr : Rdr rb (labelL lv cp ++ R) 0 w) (hle : (labelL lv cp ++ R).length ≤ 100000) (hb : InB (labelL lv cp ++ R)) :
    Calls Try.prog 21 #[.pointer (some ⟨rb, 0, none⟩)] w fun e w' => e = .returned (.agg #[.int .i64 lv, .int .u64 (cp : Nat)]) ∧ Rdr rb R 0 w' ∧ Chg [rb] w w' := by
  have k := label_read hr hle hb
  rw [rdOf_ok, labelR_enc h0 h1 hc] at k
  simp only [if_true, labC, uN_small h0 (show lv < 18446744073709551616 by omega)] at k
  exact k
theorem vertex_back {rb : Nat} {h R : List Int} {w : World} (n : Int) (hh : h.length = 32) (h0 : -2 ≤ n) (h1 : n ≤ 4294967294) (hr : Rdr rb (vertexL h n ++ R) 0 w) (hle : (vertexL h n ++ R).length ≤ 100000) (hb : InB (vertexL h n ++ R)) :
    Calls Try.prog 23 #[.pointer (some ⟨rb, 0, none⟩)] w fun e w' => e = .returned (.agg (vtxC h n)) ∧ Rdr rb R 0 w' ∧ Chg [rb] w w' := by
  have k := vertex_read hr hle hb
  rw [rdOf_ok, vertexR_enc hh h0 h1] at k
  simp only [if_true] at k
  exact k
theorem eqI_of {t : TypeId} {xs ys : Array Value} {b : Bool} {w : World} (h : (binOp .eql t (.agg xs) (.agg ys)).run Try.prog w = .ok (.bool b) w) : (Op.equalIn 10000 t (.agg xs) (.agg ys)).run Try.prog w = .ok b w := by
  rw [run_eql_struct] at h
  generalize (Op.equalIn 10000 t (.agg xs) (.agg ys)).run Try.prog w = r at h
  cases r with
  | ok b' w' =>
    simp only [Result.andThen_ok, Result.ok.injEq, Value.bool.injEq] at h
    rw [h.1, h.2]
  | halt x w' => simp [Result.andThen] at h
theorem eql_hash (h : List Int) (hh : h.length = 32) (w : World) : (binOp .eql 32 (.agg (u8s h)) (.agg (u8s h))).run Try.prog w = .ok (.bool true) w := by
  have k := Arr.eql_arr (k := .u8) Try.underlying5 cells5 (fun w' => by kernel_rfl) (T := 32) (n := 32) Try.underlying32 (by kernel_rfl) h h hh hh w
  rw [decide_eq_true rfl] at k
  exact k
theorem eql_lab (a : Int) (c : Nat) (w : World) : (binOp .eql 34 (.agg #[.int .i64 a, .int .u64 (c : Nat)]) (.agg #[.int .i64 a, .int .u64 (c : Nat)])).run Try.prog w = .ok (.bool true) w := by
  rw [eql_label, decide_eq_true ⟨rfl, rfl⟩]
set_option maxRecDepth 100000 in
set_option maxHeartbeats 4000000 in
theorem again0 {rb : Nat} {R : List Int} (x : Val) (ox : x.Ok) (hs : x.s.size ≤ 300) (hlv : 0 ≤ x.lv ∧ x.lv < 16) (hn : -2 ≤ x.n ∧ x.n ≤ 4294967294) (hk : x.k % 5 = 0) (w : World) (hr : Rdr rb (encN x.num ++ R) 0 w) (hle : (encN x.num ++ R).length ≤ 100000) (hb : InB (encN x.num ++ R)) :
    Calls Try.prog 12 #[.pointer (some ⟨rb, 0, none⟩), .agg x.cells] w fun e w' => e = .returned (.bool true) ∧ Rdr rb R 0 w' ∧ Chg [rb] w w' := by
  have h0 := Go.heap_alloc_new w (.cells x.cells 36)
  have k0 : Below w.heap.size w (w.alloc (.cells x.cells 36)) := (Below.refl _ _).alloc (Nat.le_refl _) _
  obtain ⟨w2, hw2⟩ : ∃ w2, w2 = w.alloc (.cells x.cells 36) := ⟨_, rfl⟩
  rw [← hw2] at h0 k0
  have a0 : w2.cell? ⟨w.heap.size, 0, none⟩ = some (.int .u8 x.k) := (cell_row h0 0).trans x.c0
  have hk0 := ox.k0
  have hn1 : ¬ x.k % 5 = 1 := by omega
  have hn2 : ¬ x.k % 5 = 2 := by omega
  have hn3 : ¬ x.k % 5 = 3 := by omega
  have Hlow := Lib.hid k0
  have H0 := Lib.hid h0
  have HR := Lib.hid (hr.later k0)
  have Hne : Hid (some w.heap.size ≠ some rb) := fun e => by have := hr.lt; have := Option.some.inj e; omega
  have Hw2 := Lib.hid hw2
  have Ox := Lib.hid ox
  have Hs := Lib.hid hs
  have Hlv := Lib.hid hlv
  have Hn := Lib.hid hn
  have Hle := Lib.hid hle
  have Hb := Lib.hid hb
  have HI : Hid ((Try.prog.info? 32).map (·.size) = some (x.h.map (Value.int .u8)).length) := by show _ = _; rw [List.length_map, ox.hl]; exact infoH32
  clear hr h0 k0 hw2 ox hs hlv hn hle hb
  go_enter Try.func12, Try.ntmps12
  go_upto_region 1 with (fail)
  rw [← Hw2.out]
  clear Hw2
  go_upto_region 3 with (fail)
  have apx : apartB [10, 11, 12, 13, 14, 15, 16, 4] = true := by decide
  refine wp_region_any (by kernel_rfl) ?_
  change wpAny _ _ _ _ _ _ _ (World.drew _)
  refine wpAny_inv2 (fun ll aa wx => Hid (ll.size = 8 ∧ RelU 3 (some rb) w2 ll wx) ∧ ∃ (z : Nat → Value), Hid (aa = ⟨#[.pointer (some ⟨rb, 0, none⟩), .agg x.cells, undef, .pointer (some ⟨w.heap.size, 0, none⟩), z 4, .pointer (some ⟨w.heap.size, 0, none⟩), .int .u8 x.k, .int .u8 (x.k % 5), .bool true, .bool true, z 10, z 11, z 12, z 13, z 14, z 15, z 16, undef, undef, undef, undef, undef, undef, undef, undef, undef, undef, undef, undef, undef, undef, undef, undef, undef, undef, undef, undef, undef, undef, undef, undef, undef, undef, undef, undef, undef, undef, undef, undef], []⟩) ∧ Holding [10, 11, 12, 13, 14, 15, 16, 4] [some (.pointer (some ⟨rb, 0, none⟩)), some (.pointer (some ⟨w.heap.size, 1, none⟩)), some (.int .u64 (x.num : Nat)), some (.int .u64 (x.num : Nat)), some (.pointer (some ⟨w.heap.size, 1, none⟩)), some (.int .u64 (x.num : Nat)), some (.bool true), some (.bool true)] ll z ∧ Whn ll 3 ((fun _ ww => Rdr rb R 0 ww)) (z 13) wx) ?_ (by kernel_rfl) ?_ ?_ _ rfl _ _ ?_
  · rintro ll aa wx ⟨hI, _⟩
    exact hI.out.1
  · rintro ll aa wx ⟨hI, z, ha, hz, hp3⟩ hall
    have hx := Lib.hid hI.out.2
    have e0 : z 10 = .pointer (some ⟨rb, 0, none⟩) := hz 0 _ (hall 0 (by decide)) rfl
    have e1 : z 11 = .pointer (some ⟨w.heap.size, 1, none⟩) := hz 1 _ (hall 1 (by decide)) rfl
    have e2 : z 12 = .int .u64 (x.num : Nat) := hz 2 _ (hall 2 (by decide)) rfl
    have e3 : z 13 = .int .u64 (x.num : Nat) := hz 3 _ (hall 3 (by decide)) rfl
    have e4 : z 14 = .pointer (some ⟨w.heap.size, 1, none⟩) := hz 4 _ (hall 4 (by decide)) rfl
    have e5 : z 15 = .int .u64 (x.num : Nat) := hz 5 _ (hall 5 (by decide)) rfl
    have e6 : z 16 = .bool true := hz 6 _ (hall 6 (by decide)) rfl
    have e7 : z 4 = .bool true := hz 7 _ (hall 7 (by decide)) rfl
    have p3 := hp3.get (hall 3 (by decide))
    clear hall hz hI hp3
    obtain rfl := ha.out
    clear ha
    clear apx
    have EL := Lib.hid e7
    have PR := Lib.hid p3
    have G := Lib.hid (chg_grown hx.out.1)
    clear e0 e1 e2 e3 e4 e5 e6 e7 p3 hx
    go_wp2
    go_ret
    exact ⟨congrArg Ending.returned EL.out, PR.out, (Chg.of_below Hlow.out).trans G.out⟩
  · rintro ll aa wx i ⟨hI, z, ha, hz, hp3⟩ hcl hi hu hw
    obtain rfl := ha.out
    have hsz := Lib.hid hI.out.1
    have hx := Lib.hid hI.out.2
    clear ha hI
    have hin : i < 8 := hi
    obtain rfl | rfl | rfl | rfl | rfl | rfl | rfl | rfl : i = 0 ∨ i = 1 ∨ i = 2 ∨ i = 3 ∨ i = 4 ∨ i = 5 ∨ i = 6 ∨ i = 7 := by omega
    · refine wpOp_plain rfl rfl ?_
      go_simp
      exact ⟨⟨by simp [hsz.out], hx.out.same⟩, upd z 10 (.pointer (some ⟨rb, 0, none⟩)), (by unfold Hid; simp [upd]), hz.next apx hsz.out 0 (by decide) _ (fun _ h => Option.some.inj h), hp3.keep (by decide)⟩
    · refine wpOp_plain rfl rfl ?_
      go_simp
      exact ⟨⟨by simp [hsz.out], hx.out.same⟩, upd z 11 (.pointer (some ⟨w.heap.size, 1, none⟩)), (by unfold Hid; simp [upd]), hz.next apx hsz.out 1 (by decide) _ (fun _ h => Option.some.inj h), hp3.keep (by decide)⟩
    · have e1 : z 11 = .pointer (some ⟨w.heap.size, 1, none⟩) := hz 1 _ (hw 1 (by kernel_rfl)) rfl
      have row := hx.out.at H0.out Hne.out
      have cl : wx.cell? ⟨w.heap.size, 1, none⟩ = some (.int .u64 (x.num : Nat)) := (cell_row row 1).trans (x.c1)
      refine wpOp_plain rfl rfl ?_
      go_simp
      exact ⟨⟨by simp [hsz.out], hx.out.same⟩, upd z 12 (.int .u64 (x.num : Nat)), (by unfold Hid; simp [upd, e1]), hz.next apx hsz.out 2 (by decide) _ (fun _ h => Option.some.inj h), hp3.keep (by decide)⟩
    · have e0 : z 10 = .pointer (some ⟨rb, 0, none⟩) := hz 0 _ (hw 0 (by kernel_rfl)) rfl
      have e2 : z 12 = .int .u64 (x.num : Nat) := hz 2 _ (hw 2 (by kernel_rfl)) rfl
      refine wpOp_plain rfl rfl ?_
      go_simp
      go_at_call 15
      refine (num_back x.num Ox.out.num (HR.out.later (hx.out.2 hu)) Hle.out Hb.out).mono ?_
      rintro e w' ⟨rfl, rd, ch⟩
      exact ⟨⟨by simp [hsz.out], hx.out.app (grown_chg ch) (by rw [hsz.out]; decide)⟩, upd z 13 (.int .u64 (x.num : Nat)), (by unfold Hid; simp [upd, e0, e2]), hz.next apx hsz.out 3 (by decide) _ (fun _ h => Option.some.inj h), Whn.done (rd)⟩
    · refine wpOp_plain rfl rfl ?_
      go_simp
      exact ⟨⟨by simp [hsz.out], hx.out.same⟩, upd z 14 (.pointer (some ⟨w.heap.size, 1, none⟩)), (by unfold Hid; simp [upd]), hz.next apx hsz.out 4 (by decide) _ (fun _ h => Option.some.inj h), hp3.keep (by decide)⟩
    · have e4 : z 14 = .pointer (some ⟨w.heap.size, 1, none⟩) := hz 4 _ (hw 4 (by kernel_rfl)) rfl
      have row := hx.out.at H0.out Hne.out
      have cl : wx.cell? ⟨w.heap.size, 1, none⟩ = some (.int .u64 (x.num : Nat)) := (cell_row row 1).trans (x.c1)
      refine wpOp_plain rfl rfl ?_
      go_simp
      exact ⟨⟨by simp [hsz.out], hx.out.same⟩, upd z 15 (.int .u64 (x.num : Nat)), (by unfold Hid; simp [upd, e4]), hz.next apx hsz.out 5 (by decide) _ (fun _ h => Option.some.inj h), hp3.keep (by decide)⟩
    · have e3 : z 13 = .int .u64 (x.num : Nat) := hz 3 _ (hw 3 (by kernel_rfl)) rfl
      have e5 : z 15 = .int .u64 (x.num : Nat) := hz 5 _ (hw 5 (by kernel_rfl)) rfl
      refine wpOp_plain rfl rfl ?_
      go_simp
      exact ⟨⟨by simp [hsz.out], hx.out.same⟩, upd z 16 (.bool true), (by unfold Hid; simp [upd, e3, e5]), hz.next apx hsz.out 6 (by decide) _ (fun _ h => Option.some.inj h), hp3.keep (by decide)⟩
    · have e6 : z 16 = .bool true := hz 6 _ (hw 6 (by kernel_rfl)) rfl
      refine wpOp_plain rfl rfl ?_
      go_simp
      exact ⟨⟨by simp [hsz.out], hx.out.same⟩, upd z 4 (.bool true), (by unfold Hid; simp [upd, e6]), hz.next apx hsz.out 7 (by decide) _ (fun _ h => Option.some.inj h), hp3.keep (by decide)⟩
  · exact ⟨⟨rfl, RelU.start⟩, fun xx => (#[.pointer (some ⟨rb, 0, none⟩), .agg x.cells, undef, .pointer (some ⟨w.heap.size, 0, none⟩), .bool false, .pointer (some ⟨w.heap.size, 0, none⟩), .int .u8 x.k, .int .u8 (x.k % 5), .bool true, .bool true, undef, undef, undef, undef, undef, undef, undef, undef, undef, undef, undef, undef, undef, undef, undef, undef, undef, undef, undef, undef, undef, undef, undef, undef, undef, undef, undef, undef, undef, undef, undef, undef, undef, undef, undef, undef, undef, undef, undef] : Array Value).getD xx undef, rfl, Holding.start, Whn.none (by decide)⟩
set_option maxRecDepth 100000 in
set_option maxHeartbeats 4000000 in
theorem again1 {rb : Nat} {R : List Int} (x : Val) (ox : x.Ok) (hs : x.s.size ≤ 300) (hlv : 0 ≤ x.lv ∧ x.lv < 16) (hn : -2 ≤ x.n ∧ x.n ≤ 4294967294) (hk : x.k % 5 = 1) (w : World) (hr : Rdr rb (textL x.s ++ R) 0 w) (hle : (textL x.s ++ R).length ≤ 100000) (hb : InB (textL x.s ++ R)) :
    Calls Try.prog 12 #[.pointer (some ⟨rb, 0, none⟩), .agg x.cells] w fun e w' => e = .returned (.bool true) ∧ Rdr rb R 0 w' ∧ Chg [rb] w w' := by
  have h0 := Go.heap_alloc_new w (.cells x.cells 36)
  have k0 : Below w.heap.size w (w.alloc (.cells x.cells 36)) := (Below.refl _ _).alloc (Nat.le_refl _) _
  obtain ⟨w2, hw2⟩ : ∃ w2, w2 = w.alloc (.cells x.cells 36) := ⟨_, rfl⟩
  rw [← hw2] at h0 k0
  have a0 : w2.cell? ⟨w.heap.size, 0, none⟩ = some (.int .u8 x.k) := (cell_row h0 0).trans x.c0
  have hk0 := ox.k0
  have hn0 : ¬ x.k % 5 = 0 := by omega
  have hn2 : ¬ x.k % 5 = 2 := by omega
  have hn3 : ¬ x.k % 5 = 3 := by omega
  have Hlow := Lib.hid k0
  have H0 := Lib.hid h0
  have HR := Lib.hid (hr.later k0)
  have Hne : Hid (some w.heap.size ≠ some rb) := fun e => by have := hr.lt; have := Option.some.inj e; omega
  have Hw2 := Lib.hid hw2
  have Ox := Lib.hid ox
  have Hs := Lib.hid hs
  have Hlv := Lib.hid hlv
  have Hn := Lib.hid hn
  have Hle := Lib.hid hle
  have Hb := Lib.hid hb
  have HI : Hid ((Try.prog.info? 32).map (·.size) = some (x.h.map (Value.int .u8)).length) := by show _ = _; rw [List.length_map, ox.hl]; exact infoH32
  clear hr h0 k0 hw2 ox hs hlv hn hle hb
  go_enter Try.func12, Try.ntmps12
  go_upto_region 1 with (fail)
  rw [← Hw2.out]
  clear Hw2
  go_upto_region 5 with (fail)
  have apx : apartB [19, 20, 21, 22, 23, 24, 25, 26, 4] = true := by decide
  refine wp_region_any (by kernel_rfl) ?_
  change wpAny _ _ _ _ _ _ _ (World.drew _)
  refine wpAny_inv2 (fun ll aa wx => Hid (ll.size = 9 ∧ RelU 4 (some rb) w2 ll wx) ∧ ∃ (z : Nat → Value), Hid (aa = ⟨#[.pointer (some ⟨rb, 0, none⟩), .agg x.cells, undef, .pointer (some ⟨w.heap.size, 0, none⟩), z 4, .pointer (some ⟨w.heap.size, 0, none⟩), .int .u8 x.k, .int .u8 (x.k % 5), .bool false, .bool false, undef, undef, undef, undef, undef, undef, undef, .bool true, .bool true, z 19, z 20, z 21, z 22, z 23, z 24, z 25, z 26, undef, undef, undef, undef, undef, undef, undef, undef, undef, undef, undef, undef, undef, undef, undef, undef, undef, undef, undef, undef, undef, undef], []⟩) ∧ Holding [19, 20, 21, 22, 23, 24, 25, 26, 4] [some (.pointer (some ⟨rb, 0, none⟩)), some (.pointer (some ⟨w.heap.size, 2, none⟩)), some (.string x.s), some (.int .i64 (x.s.size : Nat)), some (.string x.s), some (.pointer (some ⟨w.heap.size, 2, none⟩)), some (.string x.s), some (.bool true), some (.bool true)] ll z ∧ Whn ll 4 ((fun _ ww => Rdr rb R 0 ww)) (z 23) wx) ?_ (by kernel_rfl) ?_ ?_ _ rfl _ _ ?_
  · rintro ll aa wx ⟨hI, _⟩
    exact hI.out.1
  · rintro ll aa wx ⟨hI, z, ha, hz, hp4⟩ hall
    have hx := Lib.hid hI.out.2
    have e0 : z 19 = .pointer (some ⟨rb, 0, none⟩) := hz 0 _ (hall 0 (by decide)) rfl
    have e1 : z 20 = .pointer (some ⟨w.heap.size, 2, none⟩) := hz 1 _ (hall 1 (by decide)) rfl
    have e2 : z 21 = .string x.s := hz 2 _ (hall 2 (by decide)) rfl
    have e3 : z 22 = .int .i64 (x.s.size : Nat) := hz 3 _ (hall 3 (by decide)) rfl
    have e4 : z 23 = .string x.s := hz 4 _ (hall 4 (by decide)) rfl
    have e5 : z 24 = .pointer (some ⟨w.heap.size, 2, none⟩) := hz 5 _ (hall 5 (by decide)) rfl
    have e6 : z 25 = .string x.s := hz 6 _ (hall 6 (by decide)) rfl
    have e7 : z 26 = .bool true := hz 7 _ (hall 7 (by decide)) rfl
    have e8 : z 4 = .bool true := hz 8 _ (hall 8 (by decide)) rfl
    have p4 := hp4.get (hall 4 (by decide))
    clear hall hz hI hp4
    obtain rfl := ha.out
    clear ha
    clear apx
    have EL := Lib.hid e8
    have PR := Lib.hid p4
    have G := Lib.hid (chg_grown hx.out.1)
    clear e0 e1 e2 e3 e4 e5 e6 e7 e8 p4 hx
    go_wp2
    go_ret
    exact ⟨congrArg Ending.returned EL.out, PR.out, (Chg.of_below Hlow.out).trans G.out⟩
  · rintro ll aa wx i ⟨hI, z, ha, hz, hp4⟩ hcl hi hu hw
    obtain rfl := ha.out
    have hsz := Lib.hid hI.out.1
    have hx := Lib.hid hI.out.2
    clear ha hI
    have hin : i < 9 := hi
    obtain rfl | rfl | rfl | rfl | rfl | rfl | rfl | rfl | rfl : i = 0 ∨ i = 1 ∨ i = 2 ∨ i = 3 ∨ i = 4 ∨ i = 5 ∨ i = 6 ∨ i = 7 ∨ i = 8 := by omega
    · refine wpOp_plain rfl rfl ?_
      go_simp
      exact ⟨⟨by simp [hsz.out], hx.out.same⟩, upd z 19 (.pointer (some ⟨rb, 0, none⟩)), (by unfold Hid; simp [upd]), hz.next apx hsz.out 0 (by decide) _ (fun _ h => Option.some.inj h), hp4.keep (by decide)⟩
    · refine wpOp_plain rfl rfl ?_
      go_simp
      exact ⟨⟨by simp [hsz.out], hx.out.same⟩, upd z 20 (.pointer (some ⟨w.heap.size, 2, none⟩)), (by unfold Hid; simp [upd]), hz.next apx hsz.out 1 (by decide) _ (fun _ h => Option.some.inj h), hp4.keep (by decide)⟩
    · have e1 : z 20 = .pointer (some ⟨w.heap.size, 2, none⟩) := hz 1 _ (hw 1 (by kernel_rfl)) rfl
      have row := hx.out.at H0.out Hne.out
      have cl : wx.cell? ⟨w.heap.size, 2, none⟩ = some (.string x.s) := (cell_row row 2).trans (x.c2)
      refine wpOp_plain rfl rfl ?_
      go_simp
      exact ⟨⟨by simp [hsz.out], hx.out.same⟩, upd z 21 (.string x.s), (by unfold Hid; simp [upd, e1]), hz.next apx hsz.out 2 (by decide) _ (fun _ h => Option.some.inj h), hp4.keep (by decide)⟩
    · have e2 : z 21 = .string x.s := hz 2 _ (hw 2 (by kernel_rfl)) rfl
      refine wpOp_plain rfl rfl ?_
      go_simp
      exact ⟨⟨by simp [hsz.out], hx.out.same⟩, upd z 22 (.int .i64 (x.s.size : Nat)), (by unfold Hid; simp [upd, e2]), hz.next apx hsz.out 3 (by decide) _ (fun _ h => Option.some.inj h), hp4.keep (by decide)⟩
    · have e0 : z 19 = .pointer (some ⟨rb, 0, none⟩) := hz 0 _ (hw 0 (by kernel_rfl)) rfl
      have e3 : z 22 = .int .i64 (x.s.size : Nat) := hz 3 _ (hw 3 (by kernel_rfl)) rfl
      refine wpOp_plain rfl rfl ?_
      go_simp
      go_at_call 17
      refine (text_back x.s (Nat.le_trans Hs.out (by decide)) (HR.out.later (hx.out.2 hu)) Hle.out Hb.out).mono ?_
      rintro e w' ⟨rfl, rd, ch⟩
      exact ⟨⟨by simp [hsz.out], hx.out.app (grown_chg ch) (by rw [hsz.out]; decide)⟩, upd z 23 (.string x.s), (by unfold Hid; simp [upd, e0, e3]), hz.next apx hsz.out 4 (by decide) _ (fun _ h => Option.some.inj h), Whn.done (rd)⟩
    · refine wpOp_plain rfl rfl ?_
      go_simp
      exact ⟨⟨by simp [hsz.out], hx.out.same⟩, upd z 24 (.pointer (some ⟨w.heap.size, 2, none⟩)), (by unfold Hid; simp [upd]), hz.next apx hsz.out 5 (by decide) _ (fun _ h => Option.some.inj h), hp4.keep (by decide)⟩
    · have e5 : z 24 = .pointer (some ⟨w.heap.size, 2, none⟩) := hz 5 _ (hw 5 (by kernel_rfl)) rfl
      have row := hx.out.at H0.out Hne.out
      have cl : wx.cell? ⟨w.heap.size, 2, none⟩ = some (.string x.s) := (cell_row row 2).trans (x.c2)
      refine wpOp_plain rfl rfl ?_
      go_simp
      exact ⟨⟨by simp [hsz.out], hx.out.same⟩, upd z 25 (.string x.s), (by unfold Hid; simp [upd, e5]), hz.next apx hsz.out 6 (by decide) _ (fun _ h => Option.some.inj h), hp4.keep (by decide)⟩
    · have e4 : z 23 = .string x.s := hz 4 _ (hw 4 (by kernel_rfl)) rfl
      have e6 : z 25 = .string x.s := hz 6 _ (hw 6 (by kernel_rfl)) rfl
      refine wpOp_plain rfl rfl ?_
      go_simp
      exact ⟨⟨by simp [hsz.out], hx.out.same⟩, upd z 26 (.bool true), (by unfold Hid; simp [upd, e4, e6]), hz.next apx hsz.out 7 (by decide) _ (fun _ h => Option.some.inj h), hp4.keep (by decide)⟩
    · have e7 : z 26 = .bool true := hz 7 _ (hw 7 (by kernel_rfl)) rfl
      refine wpOp_plain rfl rfl ?_
      go_simp
      exact ⟨⟨by simp [hsz.out], hx.out.same⟩, upd z 4 (.bool true), (by unfold Hid; simp [upd, e7]), hz.next apx hsz.out 8 (by decide) _ (fun _ h => Option.some.inj h), hp4.keep (by decide)⟩
  · exact ⟨⟨rfl, RelU.start⟩, fun xx => (#[.pointer (some ⟨rb, 0, none⟩), .agg x.cells, undef, .pointer (some ⟨w.heap.size, 0, none⟩), .bool false, .pointer (some ⟨w.heap.size, 0, none⟩), .int .u8 x.k, .int .u8 (x.k % 5), .bool false, .bool false, undef, undef, undef, undef, undef, undef, undef, .bool true, .bool true, undef, undef, undef, undef, undef, undef, undef, undef, undef, undef, undef, undef, undef, undef, undef, undef, undef, undef, undef, undef, undef, undef, undef, undef, undef, undef, undef, undef, undef, undef] : Array Value).getD xx undef, rfl, Holding.start, Whn.none (by decide)⟩
set_option maxRecDepth 100000 in
set_option maxHeartbeats 4000000 in
theorem again2 {rb : Nat} {R : List Int} (x : Val) (ox : x.Ok) (hs : x.s.size ≤ 300) (hlv : 0 ≤ x.lv ∧ x.lv < 16) (hn : -2 ≤ x.n ∧ x.n ≤ 4294967294) (hk : x.k % 5 = 2) (w : World) (hr : Rdr rb (x.h ++ R) 0 w) (hle : (x.h ++ R).length ≤ 100000) (hb : InB (x.h ++ R)) :
    Calls Try.prog 12 #[.pointer (some ⟨rb, 0, none⟩), .agg x.cells] w fun e w' => e = .returned (.bool true) ∧ Rdr rb R 0 w' ∧ Chg [rb] w w' := by
  have h0 := Go.heap_alloc_new w (.cells x.cells 36)
  have k0 : Below w.heap.size w (w.alloc (.cells x.cells 36)) := (Below.refl _ _).alloc (Nat.le_refl _) _
  obtain ⟨w2, hw2⟩ : ∃ w2, w2 = w.alloc (.cells x.cells 36) := ⟨_, rfl⟩
  rw [← hw2] at h0 k0
  have a0 : w2.cell? ⟨w.heap.size, 0, none⟩ = some (.int .u8 x.k) := (cell_row h0 0).trans x.c0
  have hk0 := ox.k0
  have hn0 : ¬ x.k % 5 = 0 := by omega
  have hn1 : ¬ x.k % 5 = 1 := by omega
  have hn3 : ¬ x.k % 5 = 3 := by omega
  have Hlow := Lib.hid k0
  have H0 := Lib.hid h0
  have HR := Lib.hid (hr.later k0)
  have Hne : Hid (some w.heap.size ≠ some rb) := fun e => by have := hr.lt; have := Option.some.inj e; omega
  have Hw2 := Lib.hid hw2
  have Ox := Lib.hid ox
  have Hs := Lib.hid hs
  have Hlv := Lib.hid hlv
  have Hn := Lib.hid hn
  have Hle := Lib.hid hle
  have Hb := Lib.hid hb
  have HI : Hid ((Try.prog.info? 32).map (·.size) = some (x.h.map (Value.int .u8)).length) := by show _ = _; rw [List.length_map, ox.hl]; exact infoH32
  clear hr h0 k0 hw2 ox hs hlv hn hle hb
  go_enter Try.func12, Try.ntmps12
  go_upto_region 1 with (fail)
  rw [← Hw2.out]
  clear Hw2
  go_upto_region 7 with (fail)
  have apx : apartB [29, 30, 31, 32, 33, 4] = true := by decide
  refine wp_region_any (by kernel_rfl) ?_
  change wpAny _ _ _ _ _ _ _ (World.drew _)
  refine wpAny_inv2 (fun ll aa wx => Hid (ll.size = 6 ∧ RelU 1 (some rb) w2 ll wx) ∧ ∃ (z : Nat → Value), Hid (aa = ⟨#[.pointer (some ⟨rb, 0, none⟩), .agg x.cells, undef, .pointer (some ⟨w.heap.size, 0, none⟩), z 4, .pointer (some ⟨w.heap.size, 0, none⟩), .int .u8 x.k, .int .u8 (x.k % 5), .bool false, .bool false, undef, undef, undef, undef, undef, undef, undef, .bool false, .bool false, undef, undef, undef, undef, undef, undef, undef, undef, .bool true, .bool true, z 29, z 30, z 31, z 32, z 33, undef, undef, undef, undef, undef, undef, undef, undef, undef, undef, undef, undef, undef, undef, undef], []⟩) ∧ Holding [29, 30, 31, 32, 33, 4] [some (.pointer (some ⟨rb, 0, none⟩)), some (.agg (u8s x.h)), some (.pointer (some ⟨w.heap.size, 3, none⟩)), some (.agg (u8s x.h)), some (.bool true), some (.bool true)] ll z ∧ Whn ll 1 ((fun _ ww => Rdr rb R 0 ww)) (z 30) wx) ?_ (by kernel_rfl) ?_ ?_ _ rfl _ _ ?_
  · rintro ll aa wx ⟨hI, _⟩
    exact hI.out.1
  · rintro ll aa wx ⟨hI, z, ha, hz, hp1⟩ hall
    have hx := Lib.hid hI.out.2
    have e0 : z 29 = .pointer (some ⟨rb, 0, none⟩) := hz 0 _ (hall 0 (by decide)) rfl
    have e1 : z 30 = .agg (u8s x.h) := hz 1 _ (hall 1 (by decide)) rfl
    have e2 : z 31 = .pointer (some ⟨w.heap.size, 3, none⟩) := hz 2 _ (hall 2 (by decide)) rfl
    have e3 : z 32 = .agg (u8s x.h) := hz 3 _ (hall 3 (by decide)) rfl
    have e4 : z 33 = .bool true := hz 4 _ (hall 4 (by decide)) rfl
    have e5 : z 4 = .bool true := hz 5 _ (hall 5 (by decide)) rfl
    have p1 := hp1.get (hall 1 (by decide))
    clear hall hz hI hp1
    obtain rfl := ha.out
    clear ha
    clear apx
    have EL := Lib.hid e5
    have PR := Lib.hid p1
    have G := Lib.hid (chg_grown hx.out.1)
    clear e0 e1 e2 e3 e4 e5 p1 hx
    go_wp2
    go_ret
    exact ⟨congrArg Ending.returned EL.out, PR.out, (Chg.of_below Hlow.out).trans G.out⟩
  · rintro ll aa wx i ⟨hI, z, ha, hz, hp1⟩ hcl hi hu hw
    obtain rfl := ha.out
    have hsz := Lib.hid hI.out.1
    have hx := Lib.hid hI.out.2
    clear ha hI
    have hin : i < 6 := hi
    obtain rfl | rfl | rfl | rfl | rfl | rfl : i = 0 ∨ i = 1 ∨ i = 2 ∨ i = 3 ∨ i = 4 ∨ i = 5 := by omega
    · refine wpOp_plain rfl rfl ?_
      go_simp
      exact ⟨⟨by simp [hsz.out], hx.out.same⟩, upd z 29 (.pointer (some ⟨rb, 0, none⟩)), (by unfold Hid; simp [upd]), hz.next apx hsz.out 0 (by decide) _ (fun _ h => Option.some.inj h), hp1.keep (by decide)⟩
    · have e0 : z 29 = .pointer (some ⟨rb, 0, none⟩) := hz 0 _ (hw 0 (by kernel_rfl)) rfl
      refine wpOp_plain rfl rfl ?_
      go_simp
      go_at_call 19
      refine (hash_back Ox.out.hl (HR.out.later (hx.out.2 hu)) Hle.out Hb.out).mono ?_
      rintro e w' ⟨rfl, rd, ch⟩
      exact ⟨⟨by simp [hsz.out], hx.out.app (grown_chg ch) (by rw [hsz.out]; decide)⟩, upd z 30 (.agg (u8s x.h)), (by unfold Hid; simp [upd, e0]), hz.next apx hsz.out 1 (by decide) _ (fun _ h => Option.some.inj h), Whn.done (rd)⟩
    · refine wpOp_plain rfl rfl ?_
      go_simp
      exact ⟨⟨by simp [hsz.out], hx.out.same⟩, upd z 31 (.pointer (some ⟨w.heap.size, 3, none⟩)), (by unfold Hid; simp [upd]), hz.next apx hsz.out 2 (by decide) _ (fun _ h => Option.some.inj h), hp1.keep (by decide)⟩
    · have e2 : z 31 = .pointer (some ⟨w.heap.size, 3, none⟩) := hz 2 _ (hw 2 (by kernel_rfl)) rfl
      have row := hx.out.at H0.out Hne.out
      have hcr : wx.rangeAt w.heap.size 3 (x.h.map (Value.int .u8)) := fun j v hv => by rw [cell_row row]; obtain ⟨hj, hv⟩ := vals_get hv; rw [hv]; exact x.ch j hj
      refine wpOp_plain rfl rfl (wp_load_mid 32 (.tmp 31) rfl w.heap.size 3 e2 (x.h.map (Value.int .u8)) _ hcr Try.underlying32 rfl HI.out ?_)
      go_simp
      exact ⟨⟨by simp [hsz.out], hx.out.same⟩, upd z 32 (.agg (u8s x.h)), (by unfold Hid; simp [upd, e2, u8s]), hz.next apx hsz.out 3 (by decide) _ (fun _ h => Option.some.inj h), hp1.keep (by decide)⟩
    · have e1 : z 30 = .agg (u8s x.h) := hz 1 _ (hw 1 (by kernel_rfl)) rfl
      have e3 : z 32 = .agg (u8s x.h) := hz 3 _ (hw 3 (by kernel_rfl)) rfl
      have eq := eqI_of (eql_hash x.h Ox.out.hl wx)
      refine wpOp_plain rfl rfl ?_
      go_simp
      exact ⟨⟨by simp [hsz.out], hx.out.same⟩, upd z 33 (.bool true), (by unfold Hid; simp [upd, e1, e3]), hz.next apx hsz.out 4 (by decide) _ (fun _ h => Option.some.inj h), hp1.keep (by decide)⟩
    · have e4 : z 33 = .bool true := hz 4 _ (hw 4 (by kernel_rfl)) rfl
      refine wpOp_plain rfl rfl ?_
      go_simp
      exact ⟨⟨by simp [hsz.out], hx.out.same⟩, upd z 4 (.bool true), (by unfold Hid; simp [upd, e4]), hz.next apx hsz.out 5 (by decide) _ (fun _ h => Option.some.inj h), hp1.keep (by decide)⟩
  · exact ⟨⟨rfl, RelU.start⟩, fun xx => (#[.pointer (some ⟨rb, 0, none⟩), .agg x.cells, undef, .pointer (some ⟨w.heap.size, 0, none⟩), .bool false, .pointer (some ⟨w.heap.size, 0, none⟩), .int .u8 x.k, .int .u8 (x.k % 5), .bool false, .bool false, undef, undef, undef, undef, undef, undef, undef, .bool false, .bool false, undef, undef, undef, undef, undef, undef, undef, undef, .bool true, .bool true, undef, undef, undef, undef, undef, undef, undef, undef, undef, undef, undef, undef, undef, undef, undef, undef, undef, undef, undef, undef] : Array Value).getD xx undef, rfl, Holding.start, Whn.none (by decide)⟩
set_option maxRecDepth 100000 in
set_option maxHeartbeats 4000000 in
theorem again3 {rb : Nat} {R : List Int} (x : Val) (ox : x.Ok) (hs : x.s.size ≤ 300) (hlv : 0 ≤ x.lv ∧ x.lv < 16) (hn : -2 ≤ x.n ∧ x.n ≤ 4294967294) (hk : x.k % 5 = 3) (w : World) (hr : Rdr rb (labelL x.lv x.cp ++ R) 0 w) (hle : (labelL x.lv x.cp ++ R).length ≤ 100000) (hb : InB (labelL x.lv x.cp ++ R)) :
    Calls Try.prog 12 #[.pointer (some ⟨rb, 0, none⟩), .agg x.cells] w fun e w' => e = .returned (.bool true) ∧ Rdr rb R 0 w' ∧ Chg [rb] w w' := by
  have h0 := Go.heap_alloc_new w (.cells x.cells 36)
  have k0 : Below w.heap.size w (w.alloc (.cells x.cells 36)) := (Below.refl _ _).alloc (Nat.le_refl _) _
  obtain ⟨w2, hw2⟩ : ∃ w2, w2 = w.alloc (.cells x.cells 36) := ⟨_, rfl⟩
  rw [← hw2] at h0 k0
  have a0 : w2.cell? ⟨w.heap.size, 0, none⟩ = some (.int .u8 x.k) := (cell_row h0 0).trans x.c0
  have hk0 := ox.k0
  have hn0 : ¬ x.k % 5 = 0 := by omega
  have hn1 : ¬ x.k % 5 = 1 := by omega
  have hn2 : ¬ x.k % 5 = 2 := by omega
  have Hlow := Lib.hid k0
  have H0 := Lib.hid h0
  have HR := Lib.hid (hr.later k0)
  have Hne : Hid (some w.heap.size ≠ some rb) := fun e => by have := hr.lt; have := Option.some.inj e; omega
  have Hw2 := Lib.hid hw2
  have Ox := Lib.hid ox
  have Hs := Lib.hid hs
  have Hlv := Lib.hid hlv
  have Hn := Lib.hid hn
  have Hle := Lib.hid hle
  have Hb := Lib.hid hb
  have HI : Hid ((Try.prog.info? 32).map (·.size) = some (x.h.map (Value.int .u8)).length) := by show _ = _; rw [List.length_map, ox.hl]; exact infoH32
  clear hr h0 k0 hw2 ox hs hlv hn hle hb
  go_enter Try.func12, Try.ntmps12
  go_upto_region 1 with (fail)
  rw [← Hw2.out]
  clear Hw2
  go_upto_region 9 with (fail)
  have apx : apartB [36, 37, 38, 39, 40, 4] = true := by decide
  refine wp_region_any (by kernel_rfl) ?_
  change wpAny _ _ _ _ _ _ _ (World.drew _)
  refine wpAny_inv2 (fun ll aa wx => Hid (ll.size = 6 ∧ RelU 1 (some rb) w2 ll wx) ∧ ∃ (z : Nat → Value), Hid (aa = ⟨#[.pointer (some ⟨rb, 0, none⟩), .agg x.cells, undef, .pointer (some ⟨w.heap.size, 0, none⟩), z 4, .pointer (some ⟨w.heap.size, 0, none⟩), .int .u8 x.k, .int .u8 (x.k % 5), .bool false, .bool false, undef, undef, undef, undef, undef, undef, undef, .bool false, .bool false, undef, undef, undef, undef, undef, undef, undef, undef, .bool false, .bool false, undef, undef, undef, undef, undef, .bool true, .bool true, z 36, z 37, z 38, z 39, z 40, undef, undef, undef, undef, undef, undef, undef, undef], []⟩) ∧ Holding [36, 37, 38, 39, 40, 4] [some (.pointer (some ⟨rb, 0, none⟩)), some (.agg #[.int .i64 x.lv, .int .u64 (x.cp : Nat)]), some (.pointer (some ⟨w.heap.size, 35, none⟩)), some (.agg #[.int .i64 x.lv, .int .u64 (x.cp : Nat)]), some (.bool true), some (.bool true)] ll z ∧ Whn ll 1 ((fun _ ww => Rdr rb R 0 ww)) (z 37) wx) ?_ (by kernel_rfl) ?_ ?_ _ rfl _ _ ?_
  · rintro ll aa wx ⟨hI, _⟩
    exact hI.out.1
  · rintro ll aa wx ⟨hI, z, ha, hz, hp1⟩ hall
    have hx := Lib.hid hI.out.2
    have e0 : z 36 = .pointer (some ⟨rb, 0, none⟩) := hz 0 _ (hall 0 (by decide)) rfl
    have e1 : z 37 = .agg #[.int .i64 x.lv, .int .u64 (x.cp : Nat)] := hz 1 _ (hall 1 (by decide)) rfl
    have e2 : z 38 = .pointer (some ⟨w.heap.size, 35, none⟩) := hz 2 _ (hall 2 (by decide)) rfl
    have e3 : z 39 = .agg #[.int .i64 x.lv, .int .u64 (x.cp : Nat)] := hz 3 _ (hall 3 (by decide)) rfl
    have e4 : z 40 = .bool true := hz 4 _ (hall 4 (by decide)) rfl
    have e5 : z 4 = .bool true := hz 5 _ (hall 5 (by decide)) rfl
    have p1 := hp1.get (hall 1 (by decide))
    clear hall hz hI hp1
    obtain rfl := ha.out
    clear ha
    clear apx
    have EL := Lib.hid e5
    have PR := Lib.hid p1
    have G := Lib.hid (chg_grown hx.out.1)
    clear e0 e1 e2 e3 e4 e5 p1 hx
    go_wp2
    go_ret
    exact ⟨congrArg Ending.returned EL.out, PR.out, (Chg.of_below Hlow.out).trans G.out⟩
  · rintro ll aa wx i ⟨hI, z, ha, hz, hp1⟩ hcl hi hu hw
    obtain rfl := ha.out
    have hsz := Lib.hid hI.out.1
    have hx := Lib.hid hI.out.2
    clear ha hI
    have hin : i < 6 := hi
    obtain rfl | rfl | rfl | rfl | rfl | rfl : i = 0 ∨ i = 1 ∨ i = 2 ∨ i = 3 ∨ i = 4 ∨ i = 5 := by omega
    · refine wpOp_plain rfl rfl ?_
      go_simp
      exact ⟨⟨by simp [hsz.out], hx.out.same⟩, upd z 36 (.pointer (some ⟨rb, 0, none⟩)), (by unfold Hid; simp [upd]), hz.next apx hsz.out 0 (by decide) _ (fun _ h => Option.some.inj h), hp1.keep (by decide)⟩
    · have e0 : z 36 = .pointer (some ⟨rb, 0, none⟩) := hz 0 _ (hw 0 (by kernel_rfl)) rfl
      refine wpOp_plain rfl rfl ?_
      go_simp
      go_at_call 21
      refine (label_back x.lv x.cp Hlv.out.1 Hlv.out.2 Ox.out.cp (HR.out.later (hx.out.2 hu)) Hle.out Hb.out).mono ?_
      rintro e w' ⟨rfl, rd, ch⟩
      exact ⟨⟨by simp [hsz.out], hx.out.app (grown_chg ch) (by rw [hsz.out]; decide)⟩, upd z 37 (.agg #[.int .i64 x.lv, .int .u64 (x.cp : Nat)]), (by unfold Hid; simp [upd, e0]), hz.next apx hsz.out 1 (by decide) _ (fun _ h => Option.some.inj h), Whn.done (rd)⟩
    · refine wpOp_plain rfl rfl ?_
      go_simp
      exact ⟨⟨by simp [hsz.out], hx.out.same⟩, upd z 38 (.pointer (some ⟨w.heap.size, 35, none⟩)), (by unfold Hid; simp [upd]), hz.next apx hsz.out 2 (by decide) _ (fun _ h => Option.some.inj h), hp1.keep (by decide)⟩
    · have e2 : z 38 = .pointer (some ⟨w.heap.size, 35, none⟩) := hz 2 _ (hw 2 (by kernel_rfl)) rfl
      have row := hx.out.at H0.out Hne.out
      have d1 : wx.cell? ⟨w.heap.size, 35, none⟩ = some (.int .i64 x.lv) := (cell_row row 35).trans (x.ct Ox.out.hl 0)
      have d2 : wx.cell? ⟨w.heap.size, 36, none⟩ = some (.int .u64 (x.cp : Nat)) := (cell_row row 36).trans (x.ct Ox.out.hl 1)
      refine wpOp_plain rfl rfl ?_
      go_simp
      exact ⟨⟨by simp [hsz.out], hx.out.same⟩, upd z 39 (.agg #[.int .i64 x.lv, .int .u64 (x.cp : Nat)]), (by unfold Hid; simp [upd, e2]), hz.next apx hsz.out 3 (by decide) _ (fun _ h => Option.some.inj h), hp1.keep (by decide)⟩
    · have e1 : z 37 = .agg #[.int .i64 x.lv, .int .u64 (x.cp : Nat)] := hz 1 _ (hw 1 (by kernel_rfl)) rfl
      have e3 : z 39 = .agg #[.int .i64 x.lv, .int .u64 (x.cp : Nat)] := hz 3 _ (hw 3 (by kernel_rfl)) rfl
      have eq := eqI_of (eql_lab x.lv x.cp wx)
      refine wpOp_plain rfl rfl ?_
      go_simp
      exact ⟨⟨by simp [hsz.out], hx.out.same⟩, upd z 40 (.bool true), (by unfold Hid; simp [upd, e1, e3]), hz.next apx hsz.out 4 (by decide) _ (fun _ h => Option.some.inj h), hp1.keep (by decide)⟩
    · have e4 : z 40 = .bool true := hz 4 _ (hw 4 (by kernel_rfl)) rfl
      refine wpOp_plain rfl rfl ?_
      go_simp
      exact ⟨⟨by simp [hsz.out], hx.out.same⟩, upd z 4 (.bool true), (by unfold Hid; simp [upd, e4]), hz.next apx hsz.out 5 (by decide) _ (fun _ h => Option.some.inj h), hp1.keep (by decide)⟩
  · exact ⟨⟨rfl, RelU.start⟩, fun xx => (#[.pointer (some ⟨rb, 0, none⟩), .agg x.cells, undef, .pointer (some ⟨w.heap.size, 0, none⟩), .bool false, .pointer (some ⟨w.heap.size, 0, none⟩), .int .u8 x.k, .int .u8 (x.k % 5), .bool false, .bool false, undef, undef, undef, undef, undef, undef, undef, .bool false, .bool false, undef, undef, undef, undef, undef, undef, undef, undef, .bool false, .bool false, undef, undef, undef, undef, undef, .bool true, .bool true, undef, undef, undef, undef, undef, undef, undef, undef, undef, undef, undef, undef, undef] : Array Value).getD xx undef, rfl, Holding.start, Whn.none (by decide)⟩
theorem wp_buildV {o : Oper} {a : Act} {w : World} {K : Act → World → Prop} {Q : Exit → Act → World → Prop} (t : TypeId) (parts : Array (Nat × Operand)) (ho : o.op = .build t parts) (cells : Array Value)
    (hf : Try.prog.built t (parts.map fun (i, x) => (i, a.eval x)).toList = some cells) (h : K (a.put o.dst (.agg cells)) w) : o.wp Try.prog a w K Q :=
  wp_build t parts ho (by rw [hf]; rfl) (by rw [hf]; exact h)
theorem vtx_cut (h : List Int) (n : Int) (hh : h.length = 32) : (vtxC h n).extract 0 32 = u8s h := by
  apply Array.ext'
  rw [Array.toList_extract]
  simp [vtxC, u8s, List.extract, ← hh]
theorem vtx_n (h : List Int) (n : Int) (hh : h.length = 32) : (vtxC h n)[32]? = some (.int .i64 n) := by simp [vtxC, hh]
theorem eqI_hash (h : List Int) (hh : h.length = 32) (w : World) : (Op.equalIn 9999 32 (.agg (u8s h)) (.agg (u8s h))).run Try.prog w = .ok true w := by
  obtain ⟨i, hq⟩ := Option.isSome_iff_exists.1 (show (Try.prog.info? 5).isSome = true by kernel_rfl)
  have hx := run_equalIn_array w 9998 (u8s h) (u8s h) (n := 32) Try.underlying32 hq
  have k := Arr.eqItems_num (k := .u8) Try.underlying5 cells5 (fun w' => by kernel_rfl) 9997 32 h h hh hh (List.range 32) w (fun i hi => List.mem_range.1 hi)
  rw [Arr.all_same h h 32 hh hh, decide_eq_true rfl] at k
  rw [hx]
  exact k
set_option maxRecDepth 100000 in
set_option maxHeartbeats 4000000 in
theorem again4 {rb : Nat} {R : List Int} (x : Val) (ox : x.Ok) (hs : x.s.size ≤ 300) (hlv : 0 ≤ x.lv ∧ x.lv < 16) (hn : -2 ≤ x.n ∧ x.n ≤ 4294967294) (hk : x.k % 5 = 4) (w : World) (hr : Rdr rb (vertexL x.h x.n ++ R) 0 w) (hle : (vertexL x.h x.n ++ R).length ≤ 100000) (hb : InB (vertexL x.h x.n ++ R)) :
    Calls Try.prog 12 #[.pointer (some ⟨rb, 0, none⟩), .agg x.cells] w fun e w' => e = .returned (.bool true) ∧ Rdr rb R 0 w' ∧ Chg [rb] w w' := by
  have h0 := Go.heap_alloc_new w (.cells x.cells 36)
  have k0 : Below w.heap.size w (w.alloc (.cells x.cells 36)) := (Below.refl _ _).alloc (Nat.le_refl _) _
  obtain ⟨w2, hw2⟩ : ∃ w2, w2 = w.alloc (.cells x.cells 36) := ⟨_, rfl⟩
  rw [← hw2] at h0 k0
  have a0 : w2.cell? ⟨w.heap.size, 0, none⟩ = some (.int .u8 x.k) := (cell_row h0 0).trans x.c0
  have hk0 := ox.k0
  have hn0 : ¬ x.k % 5 = 0 := by omega
  have hn1 : ¬ x.k % 5 = 1 := by omega
  have hn2 : ¬ x.k % 5 = 2 := by omega
  have hn3 : ¬ x.k % 5 = 3 := by omega
  have Hlow := Lib.hid k0
  have H0 := Lib.hid h0
  have HR := Lib.hid (hr.later k0)
  have Hne : Hid (some w.heap.size ≠ some rb) := fun e => by have := hr.lt; have := Option.some.inj e; omega
  have Hw2 := Lib.hid hw2
  have Ox := Lib.hid ox
  have Hs := Lib.hid hs
  have Hlv := Lib.hid hlv
  have Hn := Lib.hid hn
  have Hle := Lib.hid hle
  have Hb := Lib.hid hb
  have HI : Hid ((Try.prog.info? 32).map (·.size) = some (x.h.map (Value.int .u8)).length) := by show _ = _; rw [List.length_map, ox.hl]; exact infoH32
  clear hr h0 k0 hw2 ox hs hlv hn hle hb
  go_enter Try.func12, Try.ntmps12
  go_upto_region 1 with (fail)
  rw [← Hw2.out]
  clear Hw2
  go_upto_region 10 with (fail)
  have apx : apartB [41, 42, 43, 44, 45, 46, 47, 48, 4] = true := by decide
  refine wp_region_any (by kernel_rfl) ?_
  change wpAny _ _ _ _ _ _ _ (World.drew _)
  refine wpAny_inv2 (fun ll aa wx => Hid (ll.size = 9 ∧ RelU 1 (some rb) w2 ll wx) ∧ ∃ (z : Nat → Value), Hid (aa = ⟨#[.pointer (some ⟨rb, 0, none⟩), .agg x.cells, undef, .pointer (some ⟨w.heap.size, 0, none⟩), z 4, .pointer (some ⟨w.heap.size, 0, none⟩), .int .u8 x.k, .int .u8 (x.k % 5), .bool false, .bool false, undef, undef, undef, undef, undef, undef, undef, .bool false, .bool false, undef, undef, undef, undef, undef, undef, undef, undef, .bool false, .bool false, undef, undef, undef, undef, undef, .bool false, .bool false, undef, undef, undef, undef, undef, z 41, z 42, z 43, z 44, z 45, z 46, z 47, z 48], []⟩) ∧ Holding [41, 42, 43, 44, 45, 46, 47, 48, 4] [some (.pointer (some ⟨rb, 0, none⟩)), some (.agg (vtxC x.h x.n)), some (.pointer (some ⟨w.heap.size, 3, none⟩)), some (.agg (u8s x.h)), some (.pointer (some ⟨w.heap.size, 37, none⟩)), some (.int .i64 x.n), some (.agg (vtxC x.h x.n)), some (.bool true), some (.bool true)] ll z ∧ Whn ll 1 ((fun _ ww => Rdr rb R 0 ww)) (z 42) wx) ?_ (by kernel_rfl) ?_ ?_ _ rfl _ _ ?_
  · rintro ll aa wx ⟨hI, _⟩
    exact hI.out.1
  · rintro ll aa wx ⟨hI, z, ha, hz, hp1⟩ hall
    have hx := Lib.hid hI.out.2
    have e0 : z 41 = .pointer (some ⟨rb, 0, none⟩) := hz 0 _ (hall 0 (by decide)) rfl
    have e1 : z 42 = .agg (vtxC x.h x.n) := hz 1 _ (hall 1 (by decide)) rfl
    have e2 : z 43 = .pointer (some ⟨w.heap.size, 3, none⟩) := hz 2 _ (hall 2 (by decide)) rfl
    have e3 : z 44 = .agg (u8s x.h) := hz 3 _ (hall 3 (by decide)) rfl
    have e4 : z 45 = .pointer (some ⟨w.heap.size, 37, none⟩) := hz 4 _ (hall 4 (by decide)) rfl
    have e5 : z 46 = .int .i64 x.n := hz 5 _ (hall 5 (by decide)) rfl
    have e6 : z 47 = .agg (vtxC x.h x.n) := hz 6 _ (hall 6 (by decide)) rfl
    have e7 : z 48 = .bool true := hz 7 _ (hall 7 (by decide)) rfl
    have e8 : z 4 = .bool true := hz 8 _ (hall 8 (by decide)) rfl
    have p1 := hp1.get (hall 1 (by decide))
    clear hall hz hI hp1
    obtain rfl := ha.out
    clear ha
    clear apx
    have EL := Lib.hid e8
    have PR := Lib.hid p1
    have G := Lib.hid (chg_grown hx.out.1)
    clear e0 e1 e2 e3 e4 e5 e6 e7 e8 p1 hx
    go_wp2
    go_ret
    exact ⟨congrArg Ending.returned EL.out, PR.out, (Chg.of_below Hlow.out).trans G.out⟩
  · rintro ll aa wx i ⟨hI, z, ha, hz, hp1⟩ hcl hi hu hw
    obtain rfl := ha.out
    have hsz := Lib.hid hI.out.1
    have hx := Lib.hid hI.out.2
    clear ha hI
    have hin : i < 9 := hi
    obtain rfl | rfl | rfl | rfl | rfl | rfl | rfl | rfl | rfl : i = 0 ∨ i = 1 ∨ i = 2 ∨ i = 3 ∨ i = 4 ∨ i = 5 ∨ i = 6 ∨ i = 7 ∨ i = 8 := by omega
    · refine wpOp_plain rfl rfl ?_
      go_simp
      exact ⟨⟨by simp [hsz.out], hx.out.same⟩, upd z 41 (.pointer (some ⟨rb, 0, none⟩)), (by unfold Hid; simp [upd]), hz.next apx hsz.out 0 (by decide) _ (fun _ h => Option.some.inj h), hp1.keep (by decide)⟩
    · have e0 : z 41 = .pointer (some ⟨rb, 0, none⟩) := hz 0 _ (hw 0 (by kernel_rfl)) rfl
      refine wpOp_plain rfl rfl ?_
      go_simp
      go_at_call 23
      refine (vertex_back x.n Ox.out.hl Hn.out.1 Hn.out.2 (HR.out.later (hx.out.2 hu)) Hle.out Hb.out).mono ?_
      rintro e w' ⟨rfl, rd, ch⟩
      exact ⟨⟨by simp [hsz.out], hx.out.app (grown_chg ch) (by rw [hsz.out]; decide)⟩, upd z 42 (.agg (vtxC x.h x.n)), (by unfold Hid; simp [upd, e0]), hz.next apx hsz.out 1 (by decide) _ (fun _ h => Option.some.inj h), Whn.done (rd)⟩
    · refine wpOp_plain rfl rfl ?_
      go_simp
      exact ⟨⟨by simp [hsz.out], hx.out.same⟩, upd z 43 (.pointer (some ⟨w.heap.size, 3, none⟩)), (by unfold Hid; simp [upd]), hz.next apx hsz.out 2 (by decide) _ (fun _ h => Option.some.inj h), hp1.keep (by decide)⟩
    · have e2 : z 43 = .pointer (some ⟨w.heap.size, 3, none⟩) := hz 2 _ (hw 2 (by kernel_rfl)) rfl
      have row := hx.out.at H0.out Hne.out
      have hcr : wx.rangeAt w.heap.size 3 (x.h.map (Value.int .u8)) := fun j v hv => by rw [cell_row row]; obtain ⟨hj, hv⟩ := vals_get hv; rw [hv]; exact x.ch j hj
      refine wpOp_plain rfl rfl (wp_load_mid 32 (.tmp 43) rfl w.heap.size 3 e2 (x.h.map (Value.int .u8)) _ hcr Try.underlying32 rfl HI.out ?_)
      go_simp
      exact ⟨⟨by simp [hsz.out], hx.out.same⟩, upd z 44 (.agg (u8s x.h)), (by unfold Hid; simp [upd, e2, u8s]), hz.next apx hsz.out 3 (by decide) _ (fun _ h => Option.some.inj h), hp1.keep (by decide)⟩
    · refine wpOp_plain rfl rfl ?_
      go_simp
      exact ⟨⟨by simp [hsz.out], hx.out.same⟩, upd z 45 (.pointer (some ⟨w.heap.size, 37, none⟩)), (by unfold Hid; simp [upd]), hz.next apx hsz.out 4 (by decide) _ (fun _ h => Option.some.inj h), hp1.keep (by decide)⟩
    · have e4 : z 45 = .pointer (some ⟨w.heap.size, 37, none⟩) := hz 4 _ (hw 4 (by kernel_rfl)) rfl
      have row := hx.out.at H0.out Hne.out
      have cl : wx.cell? ⟨w.heap.size, 37, none⟩ = some (.int .i64 x.n) := (cell_row row 37).trans (x.ct Ox.out.hl 2)
      refine wpOp_plain rfl rfl ?_
      go_simp
      exact ⟨⟨by simp [hsz.out], hx.out.same⟩, upd z 46 (.int .i64 x.n), (by unfold Hid; simp [upd, e4]), hz.next apx hsz.out 5 (by decide) _ (fun _ h => Option.some.inj h), hp1.keep (by decide)⟩
    · have e3 : z 44 = .agg (u8s x.h) := hz 3 _ (hw 3 (by kernel_rfl)) rfl
      have e5 : z 46 = .int .i64 x.n := hz 5 _ (hw 5 (by kernel_rfl)) rfl
      refine wpOp_plain rfl rfl (wp_buildV 55 #[(0, .tmp 44), (1, .tmp 46)] rfl (vtxC x.h x.n) (by simp only [List.map_toArray, List.map_cons, List.map_nil]; show Try.prog.built _ [(0, z 44), (1, z 46)] = _; rw [e3, e5]; exact built_vtx x.h x.n Ox.out.hl) ?_)
      go_simp
      exact ⟨⟨by simp [hsz.out], hx.out.same⟩, upd z 47 (.agg (vtxC x.h x.n)), (by unfold Hid; simp [upd, e3, e5]), hz.next apx hsz.out 6 (by decide) _ (fun _ h => Option.some.inj h), hp1.keep (by decide)⟩
    · have e1 : z 42 = .agg (vtxC x.h x.n) := hz 1 _ (hw 1 (by kernel_rfl)) rfl
      have e6 : z 47 = .agg (vtxC x.h x.n) := hz 6 _ (hw 6 (by kernel_rfl)) rfl
      have g1 := vtx_cut x.h x.n Ox.out.hl
      have g2 := vtx_n x.h x.n Ox.out.hl
      have g3 := eqI_hash x.h Ox.out.hl wx
      refine wpOp_plain rfl rfl ?_
      go_simp
      exact ⟨⟨by simp [hsz.out], hx.out.same⟩, upd z 48 (.bool true), (by unfold Hid; simp [upd, e1, e6]), hz.next apx hsz.out 7 (by decide) _ (fun _ h => Option.some.inj h), hp1.keep (by decide)⟩
    · have e7 : z 48 = .bool true := hz 7 _ (hw 7 (by kernel_rfl)) rfl
      refine wpOp_plain rfl rfl ?_
      go_simp
      exact ⟨⟨by simp [hsz.out], hx.out.same⟩, upd z 4 (.bool true), (by unfold Hid; simp [upd, e7]), hz.next apx hsz.out 8 (by decide) _ (fun _ h => Option.some.inj h), hp1.keep (by decide)⟩
  · exact ⟨⟨rfl, RelU.start⟩, fun xx => (#[.pointer (some ⟨rb, 0, none⟩), .agg x.cells, undef, .pointer (some ⟨w.heap.size, 0, none⟩), .bool false, .pointer (some ⟨w.heap.size, 0, none⟩), .int .u8 x.k, .int .u8 (x.k % 5), .bool false, .bool false, undef, undef, undef, undef, undef, undef, undef, .bool false, .bool false, undef, undef, undef, undef, undef, undef, undef, undef, .bool false, .bool false, undef, undef, undef, undef, undef, .bool false, .bool false, undef, undef, undef, undef, undef, undef, undef, undef, undef, undef, undef, undef, undef] : Array Value).getD xx undef, rfl, Holding.start, Whn.none (by decide)⟩
theorem again_any {rb : Nat} {R : List Int} (x : Val) (ox : x.Ok) (hs : x.s.size ≤ 300) (hlv : 0 ≤ x.lv ∧ x.lv < 16) (hn : -2 ≤ x.n ∧ x.n ≤ 4294967294) (w : World) (hr : Rdr rb (encV x ++ R) 0 w) (hle : (encV x ++ R).length ≤ 100000) (hb : InB (encV x ++ R)) :
    Calls Try.prog 12 #[.pointer (some ⟨rb, 0, none⟩), .agg x.cells] w fun e w' => e = .returned (.bool true) ∧ Rdr rb R 0 w' ∧ Chg [rb] w w' := by
  have h5 := ox.k0
  unfold encV at hr hle hb
  by_cases k0 : x.k % 5 = 0
  · rw [if_pos k0] at hr hle hb; exact again0 x ox hs hlv hn k0 w hr hle hb
  · rw [if_neg k0] at hr hle hb
    by_cases k1 : x.k % 5 = 1
    · rw [if_pos k1] at hr hle hb; exact again1 x ox hs hlv hn k1 w hr hle hb
    · rw [if_neg k1] at hr hle hb
      by_cases k2 : x.k % 5 = 2
      · rw [if_pos k2] at hr hle hb; exact again2 x ox hs hlv hn k2 w hr hle hb
      · rw [if_neg k2] at hr hle hb
        by_cases k3 : x.k % 5 = 3
        · rw [if_pos k3] at hr hle hb; exact again3 x ox hs hlv hn k3 w hr hle hb
        · rw [if_neg k3] at hr hle hb; exact again4 x ox hs hlv hn (by omega) w hr hle hb
end Go.Proofs.Ytigfcmnknijobaa.Cod
