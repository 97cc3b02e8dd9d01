/- DERIVED. The contract of myers.Diff. -/
import Derived.Test.YtnpbogioehpeoaaMyrSel
namespace Go.Proofs.Ytnpbogioehpeoaa.Myr
open Go.RowKit Lns Go.Maps
theorem nums_sel (a b : List ByteArray) : sel (nums (ext [] a) a) (nums (ext (ext [] a) b) b) = sel a b := by
  obtain ⟨t, ht⟩ := ext_pre b (ext [] a)
  have ha : ∀ x ∈ a, x ∈ ext (ext [] a) b := fun x hx => by rw [ht]; exact List.mem_append_left _ (ext_mem a [] x hx)
  have hb : ∀ x ∈ b, x ∈ ext (ext [] a) b := ext_mem b _
  have e : nums (ext [] a) a = nums (ext (ext [] a) b) a := by rw [ht, nums_app t (ext_mem a [])]
  rw [e]
  exact sel_map _ a b fun x hx y hy h => plc_inj (ha x hx) (hb y hy) (by omega)
theorem below_of_grown {w w1 w2 : World} {B : Nat} (h0 : Below w.heap.size w w1) (h : w1.grownBy w2 (some B)) (hB : w.heap.size ≤ B) : Below w.heap.size w w2 :=
  ⟨h.os.trans h0.os, h.tape.trans h0.tape, h.output.trans h0.output, Nat.le_trans h0.size h.size, fun k hk => (h.block k (Nat.lt_of_lt_of_le hk h0.size) (by simp; omega)).trans (h0.block k hk)⟩
set_option maxRecDepth 100000 in
set_option maxHeartbeats 1000000 in
theorem diff_any (a b : List ByteArray) (va vb : Value) (w : World) (hA : RdT a va w) (hB : RdT b vb w) (hn : a.length ≤ 1024) (hm : b.length ≤ 1024) (hza : ∀ x ∈ a, x.size ≤ 100000) (hzb : ∀ x ∈ b, x.size ≤ 100000) :
    Calls Try.prog 9 #[va, vb] w fun e w' => ∃ v, e = .returned (.tuple #[v, .int .i64 0]) ∧ OwnS 43 w.heap.size ((sel a b).map up) v w' ∧ Below w.heap.size w w' := by
  have HA := Lib.hid hA
  have HB := Lib.hid hB
  obtain ⟨A, c, rfl, hA1, hA2⟩ := hA
  obtain ⟨B, d, rfl, hB1, hB2⟩ := hB
  clear hA1 hA2 hB1 hB2
  have hmm := @run_makeMap Try.prog
  obtain ⟨n, hn0⟩ : ∃ n, n = a.length := ⟨_, rfl⟩
  obtain ⟨m, hm0⟩ : ∃ m, m = b.length := ⟨_, rfl⟩
  have Hza := Lib.hid hza
  have Hzb := Lib.hid hzb
  rw [← hn0] at HA hn ⊢
  rw [← hm0] at HB hm ⊢
  have Hn := Lib.hid hn0
  have Hm := Lib.hid hm0
  have hnI : ¬ (1024 : Int) < n := by omega
  have hmI : ¬ (1024 : Int) < m := by omega
  clear hza hzb hn0 hm0
  go_enter Try.func9, Try.ntmps9
  go_wp2_with fail
  clear hmm
  have b0 : Below w.heap.size w (w.alloc (.map #[] 0)) := (Below.refl _ _).alloc (Nat.le_refl _) _
  refine (numbers_any a [] (.slice A n c) w.heap.size _ (HA.out.later b0) ⟨_, KM.made w⟩ (by rw [← Hn.out]; exact hn) Hza.out (by simp)).mono ?_
  rw [← Hn.out]
  rintro e w1 ⟨g1, rfl, hg1, hr1, hK1, hb1⟩
  rw [World.size_alloc] at hg1
  have b1 := below_of_grown b0 hb1 (Nat.le_refl _)
  have hu1 : (ext [] a).length ≤ 1024 := by have h := ext_len a []; have := Hn.out; simp only [List.length_nil] at h; omega
  have HR1 := Lib.hid hr1
  have HK1 := Lib.hid hK1
  have HU1 := Lib.hid hu1
  have HG1 := Lib.hid hg1
  have B1 := Lib.hid b1
  clear b0 hb1 hr1 hK1 b1 hu1 hg1
  go_wp2_with fail
  refine (numbers_any b (ext [] a) (.slice B m d) w.heap.size _ (HB.out.later B1.out) HK1.out (by rw [← Hm.out]; exact hm) Hzb.out HU1.out).mono ?_
  rw [← Hm.out]
  rintro e w2 ⟨g2, rfl, hg2, hr2, hK2, hb2⟩
  have b2 := below_of_grown B1.out hb2 (Nat.le_refl _)
  have hr1 : RowI .i64 3 w2 g1 (nums (ext [] a) a) := HR1.out.block (hb2.block _ HR1.out.lt (by have := HG1.out; simp; omega))
  have HR1' := Lib.hid hr1
  have HR2 := Lib.hid hr2
  have B2 := Lib.hid b2
  clear hb2 hr2 hK2 b2 hg2 hr1 HR1 HK1 HU1 HG1 B1
  go_wp2_with fail
  have hs := selected_any _ _ g1 g2 w2 HR1'.out HR2.out (by rw [nums_len, ← Hn.out]; exact hn) (by rw [nums_len, ← Hm.out]; exact hm)
  rw [nums_sel, nums_len, nums_len, ← Hn.out, ← Hm.out] at hs
  refine hs.mono ?_
  rintro e w3 ⟨v, rfl, ho, hb3⟩
  have H := Lib.hid (And.intro (ho.mono B2.out.size) (B2.out.trans (hb3.mono B2.out.size)))
  clear hs ho hb3
  go_wp2
  go_ret2
  exact ⟨v, rfl, H.out.1, H.out.2⟩
theorem diff_long (A B : Option Addr) (n m c d : Nat) (w : World) (h : 1024 < n ∨ 1024 < m) : Calls Try.prog 9 #[.slice A n c, .slice B m d] w fun e w' => e = .returned (.tuple #[.slice none 0 0, .int .i64 3]) ∧ w = w' := by
  by_cases h1 : 1024 < n
  · have hI : (1024 : Int) < n := by omega
    clear h
    go_enter Try.func9, Try.ntmps9
    go_wp2
    go_ret2
    exact ⟨rfl, rfl⟩
  · have hI : ¬ (1024 : Int) < n := by omega
    have hJ : (1024 : Int) < m := by omega
    clear h
    go_enter Try.func9, Try.ntmps9
    go_wp2
    go_ret2
    exact ⟨rfl, rfl⟩
end Go.Proofs.Ytnpbogioehpeoaa.Myr
