/- DERIVED. Texts of ours, merged: XRulFLaw. -/
import Derived.Test.YtpkolmmahoopcaaGreatDoorMrf7
import Derived.Test.YtpkolmmahoopcaaGreatDoorMrf11
import Derived.Test.YtpkolmmahoopcaaGreatDoorMrf13
/- DERIVED. The law RulesFind. -/
namespace Go.Proofs.YtpkolmmahoopcaaGreatDoor.Rul
open Go.RowKit Lab Pth Dig
/-- what Check answers, as a number. -/
noncomputable def checkZ (v : Int) (rs : List Rl) : Int := by
  classical
  exact if Okay v rs then 0 else 2
theorem checkZ_of {v : Int} {rs : List Rl} {z : Int} (h : z = 0 ∨ z = 2) (k : z = 0 ↔ Okay v rs) : z = checkZ v rs := by
  unfold checkZ
  by_cases o : Okay v rs
  · rw [if_pos o]; exact k.2 o
  · rw [if_neg o]
    rcases h with h | h
    · exact absurd (k.1 h) o
    · exact h
/-- labels that a slice reads as. -/
def LQ (xs : List (Int × Nat)) (z : Value) (w : World) : Prop := ∃ A c, z = .slice A xs.length c ∧ Labs w A c xs
theorem LQ.later {xs : List (Int × Nat)} {z : Value} {w w' : World} (h : LQ xs z w) (hb : Below w.heap.size w w') : LQ xs z w' := by
  obtain ⟨A, c, h1, h2⟩ := h
  exact ⟨A, c, h1, h2.below hb (Nat.le_refl _)⟩
theorem LQ.of {xs : List (Int × Nat)} {z : Value} {w : World} {B : Nat} (h : OwnL B xs z w) : LQ xs z w := OwnL.labs h
theorem refL_le (xs : List (Int × Nat)) : (refL xs).length ≤ xs.length := by
  have hg : ∀ (l : List (Int × Nat)) (o : List (Int × Nat)), (l.foldl (fun o x => insD x o) o).length ≤ o.length + l.length := by
    have h1 : ∀ (x : Int × Nat) (o : List (Int × Nat)), (insD x o).length ≤ o.length + 1 := by
      intro x o
      induction o with
      | nil => simp [insD]
      | cons y r ih =>
        unfold insD
        split
        · simp only [List.length_cons]; omega
        · split <;> simp
    intro l
    induction l with
    | nil => intro o; simp
    | cons x t ih =>
      intro o
      rw [List.foldl_cons, List.length_cons]
      have a1 := ih (insD x o)
      have a2 := h1 x o
      omega
  have := hg xs []
  simpa [refL] using this
set_option maxRecDepth 100000 in
set_option maxHeartbeats 8000000 in
theorem rulesFind_walk (v : Int) (A : Option Addr) (n c : Nat) (rs : List Rl) (s : ByteArray) (w : World) (hn : rs.length = n) (hR : Ruls w A c rs) (hc : ∀ r ∈ rs, r.c < 18446744073709551616) (hL : Pth.Laid w) (hL2 : Lab.Laid w) (hL3 : Laid10 w) :
    Calls Tryz.prog 3 #[.agg (tabV v A n c), .string s] w fun e w' => e = .returned (.bool true) ∧ Below w.heap.size w w' := by
  have Hn := Lib.hid hn
  have HR := Lib.hid hR
  have HCc := Lib.hid hc
  have HL := Lib.hid hL
  have HL2 := Lib.hid hL2
  have HL3 := Lib.hid hL3
  have HAw : Hid (∀ W, Below w.heap.size w W → Calls Tryz.prog 5 #[] W fun e w' => e = .returned (.bool true) ∧ Below W.heap.size W w') := fun W h => Rul.awake_any W (hL.below h (Nat.le_refl _))
  have h1 := Go.heap_alloc_new w (.cells (tabV v A n c) 24)
  have k1 : Below w.heap.size w (w.alloc (.cells (tabV v A n c) 24)) := (Below.refl _ _).alloc (Nat.le_refl _) _
  obtain ⟨W1, hW1⟩ : ∃ W1, W1 = w.alloc (.cells (tabV v A n c) 24) := ⟨_, rfl⟩
  rw [← hW1] at h1 k1
  have HW1 : Hid (w.alloc (.cells (tabV v A n c) 24) = W1) := hW1.symm
  have H1 := Lib.hid h1
  have K1 := Lib.hid k1
  clear hn hR hc hL hL2 hL3 h1 k1 hW1
  go_enter Tryz.func3, Tryz.ntmps3
  go_upto_region 1 with fail
  rw [HW1.out]
  obtain ⟨tb, htb⟩ : ∃ tb, tb = w.heap.size := ⟨_, rfl⟩
  rw [← htb] at H1 ⊢
  have HTB := Lib.hid htb
  clear htb HW1
  go_wp2_with (refine wpList_load_row rfl 24 (.tmp 2) rfl tb rfl 24 (tabV v A n c) (0, 0) _ H1.out Tryz.underlying24 rfl infoT ?_)
  refine (large_any v A n c rs s W1 Hn.out (HR.out.below K1.out (Nat.le_refl _))).mono ?_
  rintro e w3 ⟨⟨z, rfl, hz⟩, low3⟩
  have Low3 := Lib.hid (K1.out.trans (low3.mono K1.out.size))
  have H3 := Lib.hid ((low3.block _ (Array.getElem?_eq_some_iff.1 H1.out).1).trans H1.out)
  clear low3 H1
  cases z with
  | true =>
    clear hz
    go_wp2_with (go_at_call 5; refine (HAw.out w3 Low3.out).mono ?_; rintro e w4 ⟨rfl, low4⟩; have Low4 := Lib.hid (Low3.out.trans (low4.mono Low3.out.size)); clear low4)
    go_ret
    exact ⟨rfl, Low4.out⟩
  | false =>
    have HS := Lib.hid (hz rfl)
    clear hz
    have hn60 : n ≤ 60 := by have := HS.out.1; have := Hn.out; omega
    have Hn60 := Lib.hid hn60
    have hs2 : s.size ≤ 1000 := by have := HS.out.2.2.1; omega
    have Hs2 := Lib.hid hs2
    have hz1 : ∀ r ∈ rs, r.p.size ≤ 1000 := fun r hr => by have := HS.out.2.1 r hr; omega
    have Hz1 := Lib.hid hz1
    have LL : Hid (∀ W, Below w3.heap.size w3 W → Below w.heap.size w W) := fun W h => Low3.out.trans (h.mono Low3.out.size)
    have HCk : Hid (∀ W, Below w3.heap.size w3 W → Calls Tryz.prog 6 #[.agg (tabV v A n c)] W fun e w' => e = .returned (.int .i64 (checkZ v rs)) ∧ Below W.heap.size W w') := fun W h =>
      (tcheck_any v A n c rs w W Hn.out HR.out (LL.out W h) (HL.out.below (LL.out W h) (Nat.le_refl _)) hz1 (by omega)).mono fun _ _ ⟨_, h1, h2, h3, h4⟩ => ⟨by rw [h1, checkZ_of h2 h3], h4⟩
    have HRCk : Hid (∀ W, Below w3.heap.size w3 W → Calls Tryz.prog 7 #[.agg (tabV v A n c)] W fun e w' => e = .returned (.int .i64 (checkZ v rs)) ∧ Below W.heap.size W w') := fun W h =>
      (rtcheck_any v A n c rs W Hn.out (HR.out.below (LL.out W h) (Nat.le_refl _)) hz1 (by omega)).mono fun _ _ ⟨_, h1, h2, h3, h4⟩ => ⟨by rw [h1, checkZ_of h2 h3], h4⟩
    have HFi : Hid (∀ W, Below w3.heap.size w3 W → Calls Tryz.prog 9 #[.agg (tabV v A n c), .string s] W fun e w' => e = .returned (.agg (lab (find s rs).1 (find s rs).2)) ∧ Below W.heap.size W w') := fun W h =>
      find_any v A n c rs s w W Hn.out HR.out (LL.out W h) (HL.out.below (LL.out W h) (Nat.le_refl _)) hz1 hs2 (by omega)
    have HRFi : Hid (∀ W, Below w3.heap.size w3 W → Calls Tryz.prog 10 #[.agg (tabV v A n c), .string s] W fun e w' => e = .returned (.agg (lab (find s rs).1 (find s rs).2)) ∧ Below W.heap.size W w') := fun W h =>
      rfind_any v A n c rs s w W Hn.out HR.out (LL.out W h) hz1 hs2 (by omega)
    have HTo : Hid (∀ W, Below w3.heap.size w3 W → Calls Tryz.prog 12 #[.agg (tabV v A n c), .string s] W fun e w' => (∃ u, e = .returned u ∧ LQ (refL (touchF s rs)) u w') ∧ Below W.heap.size W w') := fun W h =>
      (touched_any v A n c rs s w W Hn.out HR.out (LL.out W h) (HL.out.below (LL.out W h) (Nat.le_refl _)) hz1 hs2 (by omega)).mono fun _ _ ⟨u, h1, h2, h3⟩ => ⟨⟨u, h1, LQ.of h2⟩, h3⟩
    have HRTo : Hid (∀ W, Below w3.heap.size w3 W → Calls Tryz.prog 13 #[.agg (tabV v A n c), .string s] W fun e w' => (∃ u, e = .returned u ∧ LQ (refL (touchF s rs)) u w') ∧ Below W.heap.size W w') := fun W h =>
      (rtouched_any v A n c rs s w W Hn.out HR.out (LL.out W h) hz1 hs2 (by omega)).mono fun _ _ ⟨u, h1, h2, h3⟩ => ⟨⟨u, h1, LQ.of h2⟩, h3⟩
    have HTx : Hid (∀ W, Below w3.heap.size w3 W → Calls Tryz.prog 14 #[.agg (tabV v A n c)] W fun e w' => e = .returned (.string (textR v rs)) ∧ Below W.heap.size W w') := fun W h =>
      text_all v A n c rs W Hn.out (HR.out.below (LL.out W h) (Nat.le_refl _)) (fun r hr => ⟨HCc.out r hr, hz1 r hr⟩) (by omega) (by have := HS.out.2.2.2.2; omega) (by have := HS.out.2.2.2.1; omega) (HL2.out.below (LL.out W h)) (HL3.out.below (LL.out W h))
    have HRTx : Hid (∀ W, Below w3.heap.size w3 W → Calls Tryz.prog 15 #[.agg (tabV v A n c)] W fun e w' => e = .returned (.string (textR v rs)) ∧ Below W.heap.size W w') := fun W h =>
      rtab_text v A n c rs W Hn.out (HR.out.below (LL.out W h) (Nat.le_refl _)) (fun r hr => ⟨hz1 r hr, HCc.out r hr⟩) (by omega) (by have := HS.out.2.2.2.2; omega) (by have := HS.out.2.2.2.1; omega)
    have Hlen : Hid ((refL (touchF s rs)).length ≤ 100000) := by
      show _ ≤ _
      have a1 := refL_le (touchF s rs)
      have a2 : (touchF s rs).length ≤ 1 + rs.length := by rw [touchF_eq, List.length_cons]; have := coveredL_len s rs; omega
      have := Hn.out
      omega
    clear hn60 hs2 hz1
    obtain ⟨Z, hZ⟩ : ∃ Z, Z = checkZ v rs := ⟨_, rfl⟩
    rw [← hZ] at HCk HRCk
    clear hZ
    obtain ⟨q, hq⟩ : ∃ q, q = find s rs := ⟨_, rfl⟩
    rw [← hq] at HFi HRFi
    clear hq
    obtain ⟨xs, hxs⟩ : ∃ xs, xs = refL (touchF s rs) := ⟨_, rfl⟩
    rw [← hxs] at HTo HRTo Hlen
    clear hxs
    obtain ⟨T, hT⟩ : ∃ T, T = textR v rs := ⟨_, rfl⟩
    rw [← hT] at HTx HRTx
    clear hT HL HL2 HL3 HCc HS Hz1 Hs2 Hn60 HR Hn
    obtain ⟨qa, qc⟩ := q
    simp only at HFi HRFi
    go_upto_region 3 with (fail)
    have apx : apartB [9, 10, 11, 12, 13, 14, 15, 16, 17, 18, 19, 20, 21, 22, 23, 24, 25, 26, 27, 28, 29, 30, 31, 32, 33, 34, 35, 36, 37, 38, 39, 40, 41, 42, 43, 44, 45, 4] = true := by decide
    refine wp_region_any (by kernel_rfl) ?_
    change wpAny _ _ _ _ _ _ _ (World.drew _)
    refine wpAny_inv (fun ll aa wx => Hid (ll.size = 38 ∧ Below w3.heap.size w3 wx) ∧ ∃ (z : Nat → Value), Hid (aa = ⟨#[.agg (tabV v A n c), .string s, .pointer (some ⟨tb, 0, none⟩), undef, z 4, .agg (tabV v A n c), .string s, .bool false, undef, z 9, z 10, z 11, z 12, z 13, z 14, z 15, z 16, z 17, z 18, z 19, z 20, z 21, z 22, z 23, z 24, z 25, z 26, z 27, z 28, z 29, z 30, z 31, z 32, z 33, z 34, z 35, z 36, z 37, z 38, z 39, z 40, z 41, z 42, z 43, z 44, z 45], []⟩) ∧ Holding [9, 10, 11, 12, 13, 14, 15, 16, 17, 18, 19, 20, 21, 22, 23, 24, 25, 26, 27, 28, 29, 30, 31, 32, 33, 34, 35, 36, 37, 38, 39, 40, 41, 42, 43, 44, 45, 4] [some (.agg (tabV v A n c)), some (.int .i64 Z), some (.agg (tabV v A n c)), some (.agg (tabV v A n c)), some (.int .i64 Z), some (.bool true), some (.bool true), some (.agg (tabV v A n c)), some (.string s), some (.agg (lab qa qc)), some (.agg (tabV v A n c)), some (.agg (tabV v A n c)), some (.string s), some (.agg (lab qa qc)), some (.bool true), some (.bool true), some (.bool true), some (.agg (tabV v A n c)), some (.string s), none, some (.agg (tabV v A n c)), some (.agg (tabV v A n c)), some (.string s), none, some (.bool true), some (.bool true), some (.bool true), some (.agg (tabV v A n c)), some (.string T), some (.agg (tabV v A n c)), some (.agg (tabV v A n c)), some (.string T), some (.bool true), some (.bool true), some (.bool true), some (.bool true), some (.bool true), some (.bool true)] ll z ∧ Whn ll 19 (LQ xs) (z 28) wx ∧ Whn ll 23 (LQ xs) (z 32) wx) ?_ (by kernel_rfl) ?_ ?_ _ _ _ _ (unlisted_none _) ?_
    · rintro ll aa wx ⟨hI, _⟩
      exact hI.out.1
    · rintro ll aa wx ⟨hI, z, ha, hz, hp19, hp23⟩ hall
      have hx := Lib.hid hI.out.2
      have e0 : z 9 = .agg (tabV v A n c) := hz 0 _ (hall 0 (by decide)) rfl
      have e1 : z 10 = .int .i64 Z := hz 1 _ (hall 1 (by decide)) rfl
      have e2 : z 11 = .agg (tabV v A n c) := hz 2 _ (hall 2 (by decide)) rfl
      have e3 : z 12 = .agg (tabV v A n c) := hz 3 _ (hall 3 (by decide)) rfl
      have e4 : z 13 = .int .i64 Z := hz 4 _ (hall 4 (by decide)) rfl
      have e5 : z 14 = .bool true := hz 5 _ (hall 5 (by decide)) rfl
      have e6 : z 15 = .bool true := hz 6 _ (hall 6 (by decide)) rfl
      have e7 : z 16 = .agg (tabV v A n c) := hz 7 _ (hall 7 (by decide)) rfl
      have e8 : z 17 = .string s := hz 8 _ (hall 8 (by decide)) rfl
      have e9 : z 18 = .agg (lab qa qc) := hz 9 _ (hall 9 (by decide)) rfl
      have e10 : z 19 = .agg (tabV v A n c) := hz 10 _ (hall 10 (by decide)) rfl
      have e11 : z 20 = .agg (tabV v A n c) := hz 11 _ (hall 11 (by decide)) rfl
      have e12 : z 21 = .string s := hz 12 _ (hall 12 (by decide)) rfl
      have e13 : z 22 = .agg (lab qa qc) := hz 13 _ (hall 13 (by decide)) rfl
      have e14 : z 23 = .bool true := hz 14 _ (hall 14 (by decide)) rfl
      have e15 : z 24 = .bool true := hz 15 _ (hall 15 (by decide)) rfl
      have e16 : z 25 = .bool true := hz 16 _ (hall 16 (by decide)) rfl
      have e17 : z 26 = .agg (tabV v A n c) := hz 17 _ (hall 17 (by decide)) rfl
      have e18 : z 27 = .string s := hz 18 _ (hall 18 (by decide)) rfl
      have e20 : z 29 = .agg (tabV v A n c) := hz 20 _ (hall 20 (by decide)) rfl
      have e21 : z 30 = .agg (tabV v A n c) := hz 21 _ (hall 21 (by decide)) rfl
      have e22 : z 31 = .string s := hz 22 _ (hall 22 (by decide)) rfl
      have e24 : z 33 = .bool true := hz 24 _ (hall 24 (by decide)) rfl
      have e25 : z 34 = .bool true := hz 25 _ (hall 25 (by decide)) rfl
      have e26 : z 35 = .bool true := hz 26 _ (hall 26 (by decide)) rfl
      have e27 : z 36 = .agg (tabV v A n c) := hz 27 _ (hall 27 (by decide)) rfl
      have e28 : z 37 = .string T := hz 28 _ (hall 28 (by decide)) rfl
      have e29 : z 38 = .agg (tabV v A n c) := hz 29 _ (hall 29 (by decide)) rfl
      have e30 : z 39 = .agg (tabV v A n c) := hz 30 _ (hall 30 (by decide)) rfl
      have e31 : z 40 = .string T := hz 31 _ (hall 31 (by decide)) rfl
      have e32 : z 41 = .bool true := hz 32 _ (hall 32 (by decide)) rfl
      have e33 : z 42 = .bool true := hz 33 _ (hall 33 (by decide)) rfl
      have e34 : z 43 = .bool true := hz 34 _ (hall 34 (by decide)) rfl
      have e35 : z 44 = .bool true := hz 35 _ (hall 35 (by decide)) rfl
      have e36 : z 45 = .bool true := hz 36 _ (hall 36 (by decide)) rfl
      have e37 : z 4 = .bool true := hz 37 _ (hall 37 (by decide)) rfl
      have p19 := hp19.get (hall 19 (by decide))
      have p23 := hp23.get (hall 23 (by decide))
      clear hall hz hI hp19 hp23
      obtain rfl := ha.out
      clear ha
      clear apx
      have E4 := Lib.hid e37
      have HX := Lib.hid hx.out
      clear e0 e1 e2 e3 e4 e5 e6 e7 e8 e9 e10 e11 e12 e13 e14 e15 e16 e17 e18 e20 e21 e22 e24 e25 e26 e27 e28 e29 e30 e31 e32 e33 e34 e35 e36 e37 hx p19 p23
      rw [E4.out]
      dsimp only
      go_wp2
      go_ret
      exact ⟨rfl, LL.out _ HX.out⟩
    · rintro ll aa wx i ⟨hI, z, ha, hz, hp19, hp23⟩ hi hu hw
      obtain rfl := ha.out
      have hsz := Lib.hid hI.out.1
      have hx := Lib.hid hI.out.2
      clear ha hI
      have hin : i < 38 := hi
      obtain rfl | rfl | rfl | rfl | rfl | rfl | rfl | rfl | rfl | rfl | rfl | rfl | rfl | rfl | rfl | rfl | rfl | rfl | rfl | rfl | rfl | rfl | rfl | rfl | rfl | rfl | rfl | rfl | rfl | rfl | rfl | rfl | rfl | rfl | rfl | rfl | rfl | rfl : i = 0 ∨ i = 1 ∨ i = 2 ∨ i = 3 ∨ i = 4 ∨ i = 5 ∨ i = 6 ∨ i = 7 ∨ i = 8 ∨ i = 9 ∨ i = 10 ∨ i = 11 ∨ i = 12 ∨ i = 13 ∨ i = 14 ∨ i = 15 ∨ i = 16 ∨ i = 17 ∨ i = 18 ∨ i = 19 ∨ i = 20 ∨ i = 21 ∨ i = 22 ∨ i = 23 ∨ i = 24 ∨ i = 25 ∨ i = 26 ∨ i = 27 ∨ i = 28 ∨ i = 29 ∨ i = 30 ∨ i = 31 ∨ i = 32 ∨ i = 33 ∨ i = 34 ∨ i = 35 ∨ i = 36 ∨ i = 37 := by omega
      · have cl := (hx.out.block _ (Array.getElem?_eq_some_iff.1 H3.out).1).trans H3.out
        refine wpOp_plain rfl rfl (wp_load_row 24 (.tmp 2) rfl (tb) rfl 24 (tabV v A n c) (0, 0) _ cl Tryz.underlying24 rfl infoT ?_)
        go_simp
        exact ⟨⟨by simp [hsz.out], hx.out⟩, upd z 9 (.agg (tabV v A n c)), (by unfold Hid; simp [upd]), hz.next apx hsz.out 0 (by decide) _ (fun _ h => Option.some.inj h), hp19.keep (by decide), hp23.keep (by decide)⟩
      · have e0 : z 9 = .agg (tabV v A n c) := hz 0 _ (hw 0 (by kernel_rfl)) rfl
        refine wpOp_plain rfl rfl ?_
        go_simp
        go_at_call 6
        refine (HCk.out wx hx.out).mono ?_
        rintro e w8 ⟨rfl, low⟩
        exact ⟨⟨by simp [hsz.out], hx.out.trans (low.mono hx.out.size)⟩, upd z 10 (.int .i64 Z), (by unfold Hid; simp [upd, e0]), hz.next apx hsz.out 1 (by decide) _ (fun _ h => Option.some.inj h), (hp19.keep (by decide)).map (fun h => h.later low), (hp23.keep (by decide)).map (fun h => h.later low)⟩
      · have cl := (hx.out.block _ (Array.getElem?_eq_some_iff.1 H3.out).1).trans H3.out
        refine wpOp_plain rfl rfl (wp_load_row 24 (.tmp 2) rfl (tb) rfl 24 (tabV v A n c) (0, 0) _ cl Tryz.underlying24 rfl infoT ?_)
        go_simp
        exact ⟨⟨by simp [hsz.out], hx.out⟩, upd z 11 (.agg (tabV v A n c)), (by unfold Hid; simp [upd]), hz.next apx hsz.out 2 (by decide) _ (fun _ h => Option.some.inj h), hp19.keep (by decide), hp23.keep (by decide)⟩
      · have e2 : z 11 = .agg (tabV v A n c) := hz 2 _ (hw 2 (by kernel_rfl)) rfl
        refine wpOp_plain rfl rfl ?_
        go_simp
        go_at_call 8
        refine (of_any _ _ _ _ wx).mono ?_
        rintro e w8 ⟨rfl, low⟩
        exact ⟨⟨by simp [hsz.out], hx.out.trans (low.mono hx.out.size)⟩, upd z 12 (.agg (tabV v A n c)), (by unfold Hid; simp [upd, e2]), hz.next apx hsz.out 3 (by decide) _ (fun _ h => Option.some.inj h), (hp19.keep (by decide)).map (fun h => h.later low), (hp23.keep (by decide)).map (fun h => h.later low)⟩
      · have e3 : z 12 = .agg (tabV v A n c) := hz 3 _ (hw 3 (by kernel_rfl)) rfl
        refine wpOp_plain rfl rfl ?_
        go_simp
        go_at_call 7
        refine (HRCk.out wx hx.out).mono ?_
        rintro e w8 ⟨rfl, low⟩
        exact ⟨⟨by simp [hsz.out], hx.out.trans (low.mono hx.out.size)⟩, upd z 13 (.int .i64 Z), (by unfold Hid; simp [upd, e3]), hz.next apx hsz.out 4 (by decide) _ (fun _ h => Option.some.inj h), (hp19.keep (by decide)).map (fun h => h.later low), (hp23.keep (by decide)).map (fun h => h.later low)⟩
      · have e1 : z 10 = .int .i64 Z := hz 1 _ (hw 1 (by kernel_rfl)) rfl
        have e4 : z 13 = .int .i64 Z := hz 4 _ (hw 4 (by kernel_rfl)) rfl
        refine wpOp_plain rfl rfl ?_
        go_simp
        exact ⟨⟨by simp [hsz.out], hx.out⟩, upd z 14 (.bool true), (by unfold Hid; simp [upd, e1, e4]), hz.next apx hsz.out 5 (by decide) _ (fun _ h => Option.some.inj h), hp19.keep (by decide), hp23.keep (by decide)⟩
      · have e5 : z 14 = .bool true := hz 5 _ (hw 5 (by kernel_rfl)) rfl
        refine wpOp_plain rfl rfl ?_
        go_simp
        exact ⟨⟨by simp [hsz.out], hx.out⟩, upd z 15 (.bool true), (by unfold Hid; simp [upd, e5]), hz.next apx hsz.out 6 (by decide) _ (fun _ h => Option.some.inj h), hp19.keep (by decide), hp23.keep (by decide)⟩
      · have e6 : z 15 = .bool true := hz 6 _ (hw 6 (by kernel_rfl)) rfl
        have cl := (hx.out.block _ (Array.getElem?_eq_some_iff.1 H3.out).1).trans H3.out
        refine wpOp_want rfl (by simp [Region.wanted, yielded, e6]) (wp_load_row 24 (.tmp 2) rfl (tb) rfl 24 (tabV v A n c) (0, 0) _ cl Tryz.underlying24 rfl infoT ?_)
        go_simp
        exact ⟨⟨by simp [hsz.out], hx.out⟩, upd z 16 (.agg (tabV v A n c)), (by unfold Hid; simp [upd, e6]), hz.next apx hsz.out 7 (by decide) _ (fun _ h => Option.some.inj h), hp19.keep (by decide), hp23.keep (by decide)⟩
      · have e6 : z 15 = .bool true := hz 6 _ (hw 6 (by kernel_rfl)) rfl
        refine wpOp_want rfl (by simp [Region.wanted, yielded, e6]) ?_
        go_simp
        exact ⟨⟨by simp [hsz.out], hx.out⟩, upd z 17 (.string s), (by unfold Hid; simp [upd, e6]), hz.next apx hsz.out 8 (by decide) _ (fun _ h => Option.some.inj h), hp19.keep (by decide), hp23.keep (by decide)⟩
      · have e6 : z 15 = .bool true := hz 6 _ (hw 6 (by kernel_rfl)) rfl
        have e7 : z 16 = .agg (tabV v A n c) := hz 7 _ (hw 7 (by kernel_rfl)) rfl
        have e8 : z 17 = .string s := hz 8 _ (hw 8 (by kernel_rfl)) rfl
        refine wpOp_want rfl (by simp [Region.wanted, yielded, e6]) ?_
        go_simp
        go_at_call 9
        refine (HFi.out wx hx.out).mono ?_
        rintro e w8 ⟨rfl, low⟩
        exact ⟨⟨by simp [hsz.out], hx.out.trans (low.mono hx.out.size)⟩, upd z 18 (.agg (lab qa qc)), (by unfold Hid; simp [upd, e6, e7, e8]), hz.next apx hsz.out 9 (by decide) _ (fun _ h => Option.some.inj h), (hp19.keep (by decide)).map (fun h => h.later low), (hp23.keep (by decide)).map (fun h => h.later low)⟩
      · have e6 : z 15 = .bool true := hz 6 _ (hw 6 (by kernel_rfl)) rfl
        have cl := (hx.out.block _ (Array.getElem?_eq_some_iff.1 H3.out).1).trans H3.out
        refine wpOp_want rfl (by simp [Region.wanted, yielded, e6]) (wp_load_row 24 (.tmp 2) rfl (tb) rfl 24 (tabV v A n c) (0, 0) _ cl Tryz.underlying24 rfl infoT ?_)
        go_simp
        exact ⟨⟨by simp [hsz.out], hx.out⟩, upd z 19 (.agg (tabV v A n c)), (by unfold Hid; simp [upd, e6]), hz.next apx hsz.out 10 (by decide) _ (fun _ h => Option.some.inj h), hp19.keep (by decide), hp23.keep (by decide)⟩
      · have e6 : z 15 = .bool true := hz 6 _ (hw 6 (by kernel_rfl)) rfl
        have e10 : z 19 = .agg (tabV v A n c) := hz 10 _ (hw 10 (by kernel_rfl)) rfl
        refine wpOp_want rfl (by simp [Region.wanted, yielded, e6]) ?_
        go_simp
        go_at_call 8
        refine (of_any _ _ _ _ wx).mono ?_
        rintro e w8 ⟨rfl, low⟩
        exact ⟨⟨by simp [hsz.out], hx.out.trans (low.mono hx.out.size)⟩, upd z 20 (.agg (tabV v A n c)), (by unfold Hid; simp [upd, e6, e10]), hz.next apx hsz.out 11 (by decide) _ (fun _ h => Option.some.inj h), (hp19.keep (by decide)).map (fun h => h.later low), (hp23.keep (by decide)).map (fun h => h.later low)⟩
      · have e6 : z 15 = .bool true := hz 6 _ (hw 6 (by kernel_rfl)) rfl
        refine wpOp_want rfl (by simp [Region.wanted, yielded, e6]) ?_
        go_simp
        exact ⟨⟨by simp [hsz.out], hx.out⟩, upd z 21 (.string s), (by unfold Hid; simp [upd, e6]), hz.next apx hsz.out 12 (by decide) _ (fun _ h => Option.some.inj h), hp19.keep (by decide), hp23.keep (by decide)⟩
      · have e6 : z 15 = .bool true := hz 6 _ (hw 6 (by kernel_rfl)) rfl
        have e11 : z 20 = .agg (tabV v A n c) := hz 11 _ (hw 11 (by kernel_rfl)) rfl
        have e12 : z 21 = .string s := hz 12 _ (hw 12 (by kernel_rfl)) rfl
        refine wpOp_want rfl (by simp [Region.wanted, yielded, e6]) ?_
        go_simp
        go_at_call 10
        refine (HRFi.out wx hx.out).mono ?_
        rintro e w8 ⟨rfl, low⟩
        exact ⟨⟨by simp [hsz.out], hx.out.trans (low.mono hx.out.size)⟩, upd z 22 (.agg (lab qa qc)), (by unfold Hid; simp [upd, e6, e11, e12]), hz.next apx hsz.out 13 (by decide) _ (fun _ h => Option.some.inj h), (hp19.keep (by decide)).map (fun h => h.later low), (hp23.keep (by decide)).map (fun h => h.later low)⟩
      · have e6 : z 15 = .bool true := hz 6 _ (hw 6 (by kernel_rfl)) rfl
        have e9 : z 18 = .agg (lab qa qc) := hz 9 _ (hw 9 (by kernel_rfl)) rfl
        have e13 : z 22 = .agg (lab qa qc) := hz 13 _ (hw 13 (by kernel_rfl)) rfl
        refine wpOp_want rfl (by simp [Region.wanted, yielded, e6]) ?_
        go_simp
        exact ⟨⟨by simp [hsz.out], hx.out⟩, upd z 23 (.bool true), (by unfold Hid; simp [upd, e6, e9, e13]), hz.next apx hsz.out 14 (by decide) _ (fun _ h => Option.some.inj h), hp19.keep (by decide), hp23.keep (by decide)⟩
      · have e6 : z 15 = .bool true := hz 6 _ (hw 6 (by kernel_rfl)) rfl
        have e14 : z 23 = .bool true := hz 14 _ (hw 14 (by kernel_rfl)) rfl
        refine wpOp_plain rfl rfl ?_
        go_simp
        exact ⟨⟨by simp [hsz.out], hx.out⟩, upd z 24 (.bool true), (by unfold Hid; simp [upd, e6, e14]), hz.next apx hsz.out 15 (by decide) _ (fun _ h => Option.some.inj h), hp19.keep (by decide), hp23.keep (by decide)⟩
      · have e15 : z 24 = .bool true := hz 15 _ (hw 15 (by kernel_rfl)) rfl
        refine wpOp_plain rfl rfl ?_
        go_simp
        exact ⟨⟨by simp [hsz.out], hx.out⟩, upd z 25 (.bool true), (by unfold Hid; simp [upd, e15]), hz.next apx hsz.out 16 (by decide) _ (fun _ h => Option.some.inj h), hp19.keep (by decide), hp23.keep (by decide)⟩
      · have e16 : z 25 = .bool true := hz 16 _ (hw 16 (by kernel_rfl)) rfl
        have cl := (hx.out.block _ (Array.getElem?_eq_some_iff.1 H3.out).1).trans H3.out
        refine wpOp_want rfl (by simp [Region.wanted, yielded, e16]) (wp_load_row 24 (.tmp 2) rfl (tb) rfl 24 (tabV v A n c) (0, 0) _ cl Tryz.underlying24 rfl infoT ?_)
        go_simp
        exact ⟨⟨by simp [hsz.out], hx.out⟩, upd z 26 (.agg (tabV v A n c)), (by unfold Hid; simp [upd, e16]), hz.next apx hsz.out 17 (by decide) _ (fun _ h => Option.some.inj h), hp19.keep (by decide), hp23.keep (by decide)⟩
      · have e16 : z 25 = .bool true := hz 16 _ (hw 16 (by kernel_rfl)) rfl
        refine wpOp_want rfl (by simp [Region.wanted, yielded, e16]) ?_
        go_simp
        exact ⟨⟨by simp [hsz.out], hx.out⟩, upd z 27 (.string s), (by unfold Hid; simp [upd, e16]), hz.next apx hsz.out 18 (by decide) _ (fun _ h => Option.some.inj h), hp19.keep (by decide), hp23.keep (by decide)⟩
      · have e16 : z 25 = .bool true := hz 16 _ (hw 16 (by kernel_rfl)) rfl
        have e17 : z 26 = .agg (tabV v A n c) := hz 17 _ (hw 17 (by kernel_rfl)) rfl
        have e18 : z 27 = .string s := hz 18 _ (hw 18 (by kernel_rfl)) rfl
        refine wpOp_want rfl (by simp [Region.wanted, yielded, e16]) ?_
        go_simp
        go_at_call 12
        refine (HTo.out wx hx.out).mono ?_
        rintro e w8 ⟨⟨vr, rfl, hq⟩, low⟩
        exact ⟨⟨by simp [hsz.out], hx.out.trans (low.mono hx.out.size)⟩, upd z 28 (vr), (by unfold Hid; simp [upd, e16, e17, e18]), hz.next apx hsz.out 19 (by decide) _ (fun _ h => by cases h), Whn.done (hq), (hp23.keep (by decide)).map (fun h => h.later low)⟩
      · have e16 : z 25 = .bool true := hz 16 _ (hw 16 (by kernel_rfl)) rfl
        have cl := (hx.out.block _ (Array.getElem?_eq_some_iff.1 H3.out).1).trans H3.out
        refine wpOp_want rfl (by simp [Region.wanted, yielded, e16]) (wp_load_row 24 (.tmp 2) rfl (tb) rfl 24 (tabV v A n c) (0, 0) _ cl Tryz.underlying24 rfl infoT ?_)
        go_simp
        exact ⟨⟨by simp [hsz.out], hx.out⟩, upd z 29 (.agg (tabV v A n c)), (by unfold Hid; simp [upd, e16]), hz.next apx hsz.out 20 (by decide) _ (fun _ h => Option.some.inj h), hp19.keep (by decide), hp23.keep (by decide)⟩
      · have e16 : z 25 = .bool true := hz 16 _ (hw 16 (by kernel_rfl)) rfl
        have e20 : z 29 = .agg (tabV v A n c) := hz 20 _ (hw 20 (by kernel_rfl)) rfl
        refine wpOp_want rfl (by simp [Region.wanted, yielded, e16]) ?_
        go_simp
        go_at_call 8
        refine (of_any _ _ _ _ wx).mono ?_
        rintro e w8 ⟨rfl, low⟩
        exact ⟨⟨by simp [hsz.out], hx.out.trans (low.mono hx.out.size)⟩, upd z 30 (.agg (tabV v A n c)), (by unfold Hid; simp [upd, e16, e20]), hz.next apx hsz.out 21 (by decide) _ (fun _ h => Option.some.inj h), (hp19.keep (by decide)).map (fun h => h.later low), (hp23.keep (by decide)).map (fun h => h.later low)⟩
      · have e16 : z 25 = .bool true := hz 16 _ (hw 16 (by kernel_rfl)) rfl
        refine wpOp_want rfl (by simp [Region.wanted, yielded, e16]) ?_
        go_simp
        exact ⟨⟨by simp [hsz.out], hx.out⟩, upd z 31 (.string s), (by unfold Hid; simp [upd, e16]), hz.next apx hsz.out 22 (by decide) _ (fun _ h => Option.some.inj h), hp19.keep (by decide), hp23.keep (by decide)⟩
      · have e16 : z 25 = .bool true := hz 16 _ (hw 16 (by kernel_rfl)) rfl
        have e21 : z 30 = .agg (tabV v A n c) := hz 21 _ (hw 21 (by kernel_rfl)) rfl
        have e22 : z 31 = .string s := hz 22 _ (hw 22 (by kernel_rfl)) rfl
        refine wpOp_want rfl (by simp [Region.wanted, yielded, e16]) ?_
        go_simp
        go_at_call 13
        refine (HRTo.out wx hx.out).mono ?_
        rintro e w8 ⟨⟨vr, rfl, hq⟩, low⟩
        exact ⟨⟨by simp [hsz.out], hx.out.trans (low.mono hx.out.size)⟩, upd z 32 (vr), (by unfold Hid; simp [upd, e16, e21, e22]), hz.next apx hsz.out 23 (by decide) _ (fun _ h => by cases h), (hp19.keep (by decide)).map (fun h => h.later low), Whn.done (hq)⟩
      · have e16 : z 25 = .bool true := hz 16 _ (hw 16 (by kernel_rfl)) rfl
        have p19 := hp19.get (hw 19 (by kernel_rfl))
        have p23 := hp23.get (hw 23 (by kernel_rfl))
        obtain ⟨A1, c1, hv1, hl1⟩ := p19
        obtain ⟨A2, c2, hv2, hl2⟩ := p23
        refine wpOp_want rfl (by simp [Region.wanted, yielded, e16]) ?_
        go_simp
        go_at_call 11
        refine (same_any A1 A2 xs.length xs.length c1 c2 xs xs rfl rfl Hlen.out Hlen.out wx hl1 hl2).mono ?_
        rintro e w8 ⟨rfl, low⟩
        rw [decide_eq_true (rfl : xs = xs)]
        exact ⟨⟨by simp [hsz.out], hx.out.trans (low.mono hx.out.size)⟩, upd z 33 (.bool true), (by unfold Hid; simp [upd, e16, hv1, hv2]), hz.next apx hsz.out 24 (by decide) _ (fun _ h => Option.some.inj h), (hp19.keep (by decide)).map (fun h => h.later low), (hp23.keep (by decide)).map (fun h => h.later low)⟩
      · have e16 : z 25 = .bool true := hz 16 _ (hw 16 (by kernel_rfl)) rfl
        have e24 : z 33 = .bool true := hz 24 _ (hw 24 (by kernel_rfl)) rfl
        refine wpOp_plain rfl rfl ?_
        go_simp
        exact ⟨⟨by simp [hsz.out], hx.out⟩, upd z 34 (.bool true), (by unfold Hid; simp [upd, e16, e24]), hz.next apx hsz.out 25 (by decide) _ (fun _ h => Option.some.inj h), hp19.keep (by decide), hp23.keep (by decide)⟩
      · have e25 : z 34 = .bool true := hz 25 _ (hw 25 (by kernel_rfl)) rfl
        refine wpOp_plain rfl rfl ?_
        go_simp
        exact ⟨⟨by simp [hsz.out], hx.out⟩, upd z 35 (.bool true), (by unfold Hid; simp [upd, e25]), hz.next apx hsz.out 26 (by decide) _ (fun _ h => Option.some.inj h), hp19.keep (by decide), hp23.keep (by decide)⟩
      · have e26 : z 35 = .bool true := hz 26 _ (hw 26 (by kernel_rfl)) rfl
        have cl := (hx.out.block _ (Array.getElem?_eq_some_iff.1 H3.out).1).trans H3.out
        refine wpOp_want rfl (by simp [Region.wanted, yielded, e26]) (wp_load_row 24 (.tmp 2) rfl (tb) rfl 24 (tabV v A n c) (0, 0) _ cl Tryz.underlying24 rfl infoT ?_)
        go_simp
        exact ⟨⟨by simp [hsz.out], hx.out⟩, upd z 36 (.agg (tabV v A n c)), (by unfold Hid; simp [upd, e26]), hz.next apx hsz.out 27 (by decide) _ (fun _ h => Option.some.inj h), hp19.keep (by decide), hp23.keep (by decide)⟩
      · have e26 : z 35 = .bool true := hz 26 _ (hw 26 (by kernel_rfl)) rfl
        have e27 : z 36 = .agg (tabV v A n c) := hz 27 _ (hw 27 (by kernel_rfl)) rfl
        refine wpOp_want rfl (by simp [Region.wanted, yielded, e26]) ?_
        go_simp
        go_at_call 14
        refine (HTx.out wx hx.out).mono ?_
        rintro e w8 ⟨rfl, low⟩
        exact ⟨⟨by simp [hsz.out], hx.out.trans (low.mono hx.out.size)⟩, upd z 37 (.string T), (by unfold Hid; simp [upd, e26, e27]), hz.next apx hsz.out 28 (by decide) _ (fun _ h => Option.some.inj h), (hp19.keep (by decide)).map (fun h => h.later low), (hp23.keep (by decide)).map (fun h => h.later low)⟩
      · have e26 : z 35 = .bool true := hz 26 _ (hw 26 (by kernel_rfl)) rfl
        have cl := (hx.out.block _ (Array.getElem?_eq_some_iff.1 H3.out).1).trans H3.out
        refine wpOp_want rfl (by simp [Region.wanted, yielded, e26]) (wp_load_row 24 (.tmp 2) rfl (tb) rfl 24 (tabV v A n c) (0, 0) _ cl Tryz.underlying24 rfl infoT ?_)
        go_simp
        exact ⟨⟨by simp [hsz.out], hx.out⟩, upd z 38 (.agg (tabV v A n c)), (by unfold Hid; simp [upd, e26]), hz.next apx hsz.out 29 (by decide) _ (fun _ h => Option.some.inj h), hp19.keep (by decide), hp23.keep (by decide)⟩
      · have e26 : z 35 = .bool true := hz 26 _ (hw 26 (by kernel_rfl)) rfl
        have e29 : z 38 = .agg (tabV v A n c) := hz 29 _ (hw 29 (by kernel_rfl)) rfl
        refine wpOp_want rfl (by simp [Region.wanted, yielded, e26]) ?_
        go_simp
        go_at_call 8
        refine (of_any _ _ _ _ wx).mono ?_
        rintro e w8 ⟨rfl, low⟩
        exact ⟨⟨by simp [hsz.out], hx.out.trans (low.mono hx.out.size)⟩, upd z 39 (.agg (tabV v A n c)), (by unfold Hid; simp [upd, e26, e29]), hz.next apx hsz.out 30 (by decide) _ (fun _ h => Option.some.inj h), (hp19.keep (by decide)).map (fun h => h.later low), (hp23.keep (by decide)).map (fun h => h.later low)⟩
      · have e26 : z 35 = .bool true := hz 26 _ (hw 26 (by kernel_rfl)) rfl
        have e30 : z 39 = .agg (tabV v A n c) := hz 30 _ (hw 30 (by kernel_rfl)) rfl
        refine wpOp_want rfl (by simp [Region.wanted, yielded, e26]) ?_
        go_simp
        go_at_call 15
        refine (HRTx.out wx hx.out).mono ?_
        rintro e w8 ⟨rfl, low⟩
        exact ⟨⟨by simp [hsz.out], hx.out.trans (low.mono hx.out.size)⟩, upd z 40 (.string T), (by unfold Hid; simp [upd, e26, e30]), hz.next apx hsz.out 31 (by decide) _ (fun _ h => Option.some.inj h), (hp19.keep (by decide)).map (fun h => h.later low), (hp23.keep (by decide)).map (fun h => h.later low)⟩
      · have e26 : z 35 = .bool true := hz 26 _ (hw 26 (by kernel_rfl)) rfl
        have e28 : z 37 = .string T := hz 28 _ (hw 28 (by kernel_rfl)) rfl
        have e31 : z 40 = .string T := hz 31 _ (hw 31 (by kernel_rfl)) rfl
        refine wpOp_want rfl (by simp [Region.wanted, yielded, e26]) ?_
        go_simp
        exact ⟨⟨by simp [hsz.out], hx.out⟩, upd z 41 (.bool true), (by unfold Hid; simp [upd, e26, e28, e31]), hz.next apx hsz.out 32 (by decide) _ (fun _ h => Option.some.inj h), hp19.keep (by decide), hp23.keep (by decide)⟩
      · have e26 : z 35 = .bool true := hz 26 _ (hw 26 (by kernel_rfl)) rfl
        have e32 : z 41 = .bool true := hz 32 _ (hw 32 (by kernel_rfl)) rfl
        refine wpOp_plain rfl rfl ?_
        go_simp
        exact ⟨⟨by simp [hsz.out], hx.out⟩, upd z 42 (.bool true), (by unfold Hid; simp [upd, e26, e32]), hz.next apx hsz.out 33 (by decide) _ (fun _ h => Option.some.inj h), hp19.keep (by decide), hp23.keep (by decide)⟩
      · have e33 : z 42 = .bool true := hz 33 _ (hw 33 (by kernel_rfl)) rfl
        refine wpOp_plain rfl rfl ?_
        go_simp
        exact ⟨⟨by simp [hsz.out], hx.out⟩, upd z 43 (.bool true), (by unfold Hid; simp [upd, e33]), hz.next apx hsz.out 34 (by decide) _ (fun _ h => Option.some.inj h), hp19.keep (by decide), hp23.keep (by decide)⟩
      · have e34 : z 43 = .bool true := hz 34 _ (hw 34 (by kernel_rfl)) rfl
        refine wpOp_want rfl (by simp [Region.wanted, yielded, e34]) ?_
        go_simp
        go_at_call 5
        refine (HAw.out wx (LL.out wx hx.out)).mono ?_
        rintro e w8 ⟨rfl, low⟩
        exact ⟨⟨by simp [hsz.out], hx.out.trans (low.mono hx.out.size)⟩, upd z 44 (.bool true), (by unfold Hid; simp [upd, e34]), hz.next apx hsz.out 35 (by decide) _ (fun _ h => Option.some.inj h), (hp19.keep (by decide)).map (fun h => h.later low), (hp23.keep (by decide)).map (fun h => h.later low)⟩
      · have e34 : z 43 = .bool true := hz 34 _ (hw 34 (by kernel_rfl)) rfl
        have e35 : z 44 = .bool true := hz 35 _ (hw 35 (by kernel_rfl)) rfl
        refine wpOp_plain rfl rfl ?_
        go_simp
        exact ⟨⟨by simp [hsz.out], hx.out⟩, upd z 45 (.bool true), (by unfold Hid; simp [upd, e34, e35]), hz.next apx hsz.out 36 (by decide) _ (fun _ h => Option.some.inj h), hp19.keep (by decide), hp23.keep (by decide)⟩
      · have e36 : z 45 = .bool true := hz 36 _ (hw 36 (by kernel_rfl)) rfl
        refine wpOp_plain rfl rfl ?_
        go_simp
        exact ⟨⟨by simp [hsz.out], hx.out⟩, upd z 4 (.bool true), (by unfold Hid; simp [upd, e36]), hz.next apx hsz.out 37 (by decide) _ (fun _ h => Option.some.inj h), hp19.keep (by decide), hp23.keep (by decide)⟩
    · exact ⟨⟨rfl, (Below.refl _ _).drew⟩, fun xx => (#[.agg (tabV v A n c), .string s, .pointer (some ⟨tb, 0, none⟩), undef, .bool false, .agg (tabV v A n c), .string s, .bool false, undef, undef, undef, undef, undef, undef, undef, undef, undef, undef, undef, undef, undef, undef, undef, undef, undef, undef, undef, undef, undef, undef, undef, undef, undef, undef, undef, undef, undef, undef, undef, undef, undef, undef, undef, undef, undef, undef] : Array Value).getD xx undef, (by rfl), Holding.start, Whn.none (by decide), Whn.none (by decide)⟩
end Go.Proofs.YtpkolmmahoopcaaGreatDoor.Rul
