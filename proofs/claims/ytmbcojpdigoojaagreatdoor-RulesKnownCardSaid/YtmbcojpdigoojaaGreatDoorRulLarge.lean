/- DERIVED. The statements' large: is there more than is looked at? -/
import Derived.Test.YtmbcojpdigoojaaGreatDoorRulAwake
namespace Go.Proofs.YtmbcojpdigoojaaGreatDoor.Rul
open Go.RowKit Lab Pth
def Small (v : Int) (rs : List Rl) (s : ByteArray) : Prop := rs.length ≤ 60 ∧ (∀ r ∈ rs, r.p.size ≤ 200) ∧ s.size ≤ 200 ∧ v ≤ 999999999
/-- large's answer. -/
def LargeE (v : Int) (rs : List Rl) (s : ByteArray) (e : Ending) : Prop := ∃ z : Bool, e = .returned (.bool z) ∧ (z = false → Small v rs s)
set_option maxRecDepth 100000 in
set_option maxHeartbeats 2000000 in
theorem large_any (v : Int) (A : Option Addr) (n c : Nat) (rs : List Rl) (s : ByteArray) (w : World) (hn : rs.length = n) (hR : Ruls w A c rs) :
    Calls Tryz.prog 5 #[.agg (tabV v A n c), .string s] w fun e w' => LargeE v rs s e ∧ Below w.heap.size w w' := by
  have Hn := Lib.hid hn
  have HR := Lib.hid hR
  have h1 := Go.heap_alloc_new w (.cells (tabV v A n c) 24)
  have k1 : Below w.heap.size w (w.alloc (.cells (tabV v A n c) 24)) := (Below.refl _ _).alloc (Nat.le_refl _) _
  obtain ⟨W1, hW1⟩ : ∃ W1, W1 = w.alloc (.cells (tabV v A n c) 24) := ⟨_, rfl⟩
  rw [← hW1] at h1 k1
  have HW1 : Hid (w.alloc (.cells (tabV v A n c) 24) = W1) := hW1.symm
  have c0 := cell_row h1 0
  have c1 := cell_row h1 1
  simp only [List.getElem?_toArray, List.getElem?_cons_zero, List.getElem?_cons_succ] at c0 c1
  have K1 := Lib.hid k1
  clear hn hR h1 k1 hW1
  go_enter Tryz.func5, Tryz.ntmps5
  go_upto_region 1 with fail
  rw [HW1.out]
  go_wp2
  go_loopw [5] (fun i wr => ∃ k : Nat, k ≤ n ∧ k ≤ 70 ∧ i = .int .i64 k ∧ wr = W1 ∧ Hid (∀ j r, j < k → rs[j]? = some r → r.p.size ≤ 200)) (fun i _ => n - (intOf i).toNat)
  case atStart => exact ⟨0, by omega, by omega, rfl, rfl, fun j r h => absurd h (Nat.not_lt_zero _)⟩
  case round =>
    obtain ⟨k, hk, hk70, rfl, rfl, hI⟩ := hrel
    have HI := Lib.hid hI
    clear hI
    by_cases hlt : k < n
    · have hltI : (k : Int) < n := by omega
      by_cases h70 : k < 70
      · have h70I : (k : Int) < 70 := by omega
        obtain ⟨r, hr⟩ : ∃ r, rs[k]? = some r := ⟨_, List.getElem?_eq_getElem (by have := Hn.out; omega)⟩
        obtain ⟨b, off, hA, hb, hrange⟩ := HR.out.at hr
        have cr : wr.cell? ⟨b, off + k * 3, none⟩ = some (.string r.p) := (K1.out.cell (p := ⟨b, off + k * 3, none⟩) hb).trans (hrange 0 _ rfl)
        have hcap1 : n ≤ c := by have := HR.out.1; have := Hn.out; omega
        have Hr := Lib.hid hr
        subst hA
        clear hr hrange hb
        by_cases h200 : 200 < r.p.size
        · have h200I : (200 : Int) < r.p.size := by omega
          go_wp2
          go_ret
          exact ⟨⟨true, rfl, (fun h => by cases h)⟩, K1.out⟩
        · have h200I : ¬ (200 : Int) < r.p.size := by omega
          go_wp2
          go_roundw
          case rel => exact ⟨k + 1, by omega, by omega, by go_num, by trivial, fun j x hj hx => by
            by_cases e : j < k
            · exact HI.out.out j x e hx
            · obtain rfl : j = k := by omega
              rw [Hr.out] at hx
              obtain rfl := Option.some.inj hx
              omega⟩
          case measure => simp [intOf]; omega
      · have h70I : ¬ (k : Int) < 70 := by omega
        have h60 : 60 < n := by omega
        have h60I : (60 : Int) < n := by omega
        go_wp2
        go_ret
        exact ⟨⟨true, rfl, (fun h => by cases h)⟩, K1.out⟩
    · have hge : ¬ (k : Int) < n := by omega
      have ek : k = n := by omega
      have Hall : Hid (∀ r ∈ rs, r.p.size ≤ 200) := fun r hr => by
        obtain ⟨j, hj, e⟩ := List.getElem_of_mem hr
        exact HI.out.out j r (by have := Hn.out; omega) (by rw [List.getElem?_eq_getElem hj, e])
      clear HI
      by_cases h60 : 60 < n
      · have h60I : (60 : Int) < n := by omega
        go_wp2
        go_ret
        exact ⟨⟨true, rfl, (fun h => by cases h)⟩, K1.out⟩
      · have h60I : ¬ (60 : Int) < n := by omega
        by_cases hs : 200 < s.size
        · have hsI : (200 : Int) < s.size := by omega
          go_wp2
          go_ret
          exact ⟨⟨true, rfl, (fun h => by cases h)⟩, K1.out⟩
        · have hsI : ¬ (200 : Int) < s.size := by omega
          by_cases hv : 999999999 < v
          · go_wp2
            go_ret
            exact ⟨⟨true, rfl, (fun h => by cases h)⟩, K1.out⟩
          · have HS : Hid (Small v rs s) := ⟨by have := Hn.out; omega, Hall.out, by omega, by omega⟩
            by_cases hv2 : v < -999999999
            · go_wp2
              go_ret
              exact ⟨⟨true, rfl, (fun h => by cases h)⟩, K1.out⟩
            · go_wp2
              go_ret
              exact ⟨⟨false, rfl, (fun _ => HS.out)⟩, K1.out⟩
end Go.Proofs.YtmbcojpdigoojaaGreatDoor.Rul
