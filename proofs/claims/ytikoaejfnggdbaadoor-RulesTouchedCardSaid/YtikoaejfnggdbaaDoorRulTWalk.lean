/- DERIVED. The walk of RulesTouched. Written by mktouchlaw.py. -/
import Derived.Test.YtikoaejfnggdbaaDoorRulTWalk0
import Derived.Test.YtikoaejfnggdbaaDoorRulTWalk1
namespace Go.Proofs.YtikoaejfnggdbaaDoor.Rul
open Go.RowKit Lab Pth
set_option maxRecDepth 100000 in
set_option maxHeartbeats 20000000 in
theorem touched_walk2 (v : Int) (A : Option Addr) (n c : Nat) (rs : List Rl) (q s : ByteArray) (w : World) (hn : rs.length = n) (hR : Ruls w A c rs) (hL : Laid w) (hq0 : ¬ q.data.toList = []) (hc : ¬ Pth.chk q = 0) :
    Calls Tryd.prog 5 #[.agg (tabV v A n c), .string q, .string s] w fun e w' => e = .returned (.bool true) ∧ Below w.heap.size w w' := by
  have Hn := Lib.hid hn
  have HR := Lib.hid hR
  have HL := Lib.hid hL
  have h1 := Go.heap_alloc_new w (.cells (tabV v A n c) 24)
  have k1 : Below w.heap.size w (w.alloc (.cells (tabV v A n c) 24)) := (Below.refl _ _).alloc (Nat.le_refl _) _
  obtain ⟨W1, hW1⟩ : ∃ W1, W1 = w.alloc (.cells (tabV v A n c) 24) := ⟨_, rfl⟩
  rw [← hW1] at h1 k1
  have HW1 : Hid (w.alloc (.cells (tabV v A n c) 24) = W1) := hW1.symm
  have H1 := Lib.hid h1
  have K1 := Lib.hid k1
  have HAw := Lib.hid (fun W (hb : Below w.heap.size w W) => awake_any W (hL.below hb (Nat.le_refl _)))
  clear hn hR hL h1 k1 hW1
  go_enter Tryd.func5, Tryd.ntmps5
  go_upto_region 1 with fail
  rw [HW1.out]
  obtain ⟨tb, htb⟩ : ∃ tb, tb = w.heap.size := ⟨_, rfl⟩
  rw [← htb] at H1 ⊢
  clear htb
  go_wp2_with (refine wpList_load_row rfl 24 (.tmp 3) rfl tb rfl 24 (tabV v A n c) (0, 0) _ H1.out Tryd.underlying24 rfl infoT ?_)
  refine (large_any v A n c rs s W1 Hn.out (HR.out.below K1.out (Nat.le_refl _))).mono ?_
  rintro e w2 ⟨⟨z, rfl, hz⟩, low2⟩
  have Low2 := Lib.hid (K1.out.trans (low2.mono K1.out.size))
  have H2 := Lib.hid ((low2.block _ (Array.getElem?_eq_some_iff.1 H1.out).1).trans H1.out)
  clear low2
  cases z with
  | true =>
    clear hz
    go_wp2_with (go_at_call 7; refine (HAw.out w2 Low2.out).mono ?_; rintro e w3 ⟨rfl, low3⟩; have Low3 := Lib.hid (Low2.out.trans (low3.mono Low2.out.size)); clear low3)
    go_ret
    exact ⟨rfl, Low3.out⟩
  | false =>
    have HS := Lib.hid (hz rfl)
    clear hz
    by_cases hq2 : 200 < q.size
    · have hq2I : (200 : Int) < q.size := by omega
      go_wp2_with (go_at_call 7; refine (HAw.out w2 Low2.out).mono ?_; rintro e w3 ⟨rfl, low3⟩; have Low3 := Lib.hid (Low2.out.trans (low3.mono Low2.out.size)); clear low3)
      go_ret
      exact ⟨rfl, Low3.out⟩
    · have hq2I : ¬ (200 : Int) < q.size := by omega
      have hql : (q.toList == []) = false := by rw [Lib.toList_data]; simpa using hq0
      have HP := Lib.hid (fun W (hb : Below w.heap.size w W) => Pth.check_any q W (HL.out.below hb (Nat.le_refl _)) (by omega))
      obtain ⟨y, hy⟩ : ∃ y, Pth.chk q = y := ⟨_, rfl⟩
      rw [hy] at HP hc
      clear hy
      go_wp2_with (first
        | (go_at_call 16; refine (HP.out w2 Low2.out).mono ?_; rintro e w3 ⟨rfl, low3⟩; have Low3 := Lib.hid (Low2.out.trans (low3.mono Low2.out.size)); clear low3)
        | (go_at_call 7; refine (HAw.out w3 Low3.out).mono ?_; rintro e w4 ⟨rfl, low4⟩; have Low4 := Lib.hid (Low3.out.trans (low4.mono Low3.out.size)); clear low4)
        | (exfalso; have hx : ((q.size : Nat) : Int) ≤ 200 ∧ (y != 0) = false := by assumption
           exact hc (by simpa using hx.2)))
      go_ret
      exact ⟨rfl, Low4.out⟩
theorem touched_walk (v : Int) (A : Option Addr) (n c : Nat) (rs : List Rl) (q s : ByteArray) (w : World) (hn : rs.length = n) (hR : Ruls w A c rs) (hL : Laid w) :
    Calls Tryd.prog 5 #[.agg (tabV v A n c), .string q, .string s] w fun e w' => e = .returned (.bool true) ∧ Below w.heap.size w w' := by
  by_cases hq0 : q.data.toList = []
  · exact touched_walk0 v A n c rs q s w hn hR hL hq0
  · by_cases hc : Pth.chk q = 0
    · exact touched_walk1 v A n c rs q s w hn hR hL hq0 hc
    · exact touched_walk2 v A n c rs q s w hn hR hL hq0 hc
end Go.Proofs.YtikoaejfnggdbaaDoor.Rul
