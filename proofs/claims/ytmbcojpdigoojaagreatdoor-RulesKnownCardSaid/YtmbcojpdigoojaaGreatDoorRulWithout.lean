/- DERIVED. The contract of rules.without: the rules with another prefix. -/
import Derived.Test.YtmbcojpdigoojaaGreatDoorRulOwn
import Derived.Test.YtmbcojpdigoojaaGreatDoorRulJust
namespace Go.Proofs.YtmbcojpdigoojaaGreatDoor.Rul
open Go.RowKit Lab Pth
theorem othersL_snoc (p : ByteArray) (rs : List Rl) (r : Rl) : othersL p (rs ++ [r]) = if bl r.p = bl p then othersL p rs else othersL p rs ++ [r] := by
  unfold othersL
  rw [List.filter_append]
  by_cases h : bl r.p = bl p
  · simp [h]
  · simp [h]
theorem othersL_len (p : ByteArray) (rs : List Rl) : (othersL p rs).length ≤ rs.length := List.length_filter_le _ _
set_option maxRecDepth 100000 in
set_option maxHeartbeats 2000000 in
theorem without_any (A : Option Addr) (n c : Nat) (rs : List Rl) (p : ByteArray) (wb w : World) (hn : rs.length = n) (hR : Ruls wb A c rs) (hwb : Below wb.heap.size wb w) (hz : ∀ r ∈ rs, r.p.size ≤ 1000) (hn9 : n ≤ 1000) :
    Calls Tryz.prog 35 #[.slice A n c, .string p] w fun e w' => ∃ u, e = .returned u ∧ OwnR w.heap.size (othersL p rs) u w' ∧ Below w.heap.size w w' := by
  have Hn := Lib.hid hn
  have HR := Lib.hid hR
  have Hwb := Lib.hid hwb
  have Hz := Lib.hid hz
  have Hst : Hid (OwnR w.heap.size (othersL p (rs.take 0)) (.slice none 0 0) w ∧ Below w.heap.size w w) := ⟨OwnR.nil w _, Below.refl _ _⟩
  clear hn hR hwb hz
  go_enter Tryz.func35, Tryz.ntmps35
  go_wp2
  go_loopw [5, 10] (fun u i wr => ∃ k : Nat, k ≤ n ∧ i = .int .i64 k ∧ Hid (OwnR w.heap.size (othersL p (rs.take k)) u wr ∧ Below w.heap.size w wr)) (fun _ i _ => n - (intOf i).toNat)
  case atStart => exact ⟨0, by omega, rfl, Hst.out⟩
  case round =>
    obtain ⟨k, hk, rfl, hI⟩ := hrel
    clear Hst
    by_cases hlt : k < n
    · have hltI : (k : Int) < n := by omega
      obtain ⟨r, hr⟩ : ∃ r, rs[k]? = some r := ⟨_, List.getElem?_eq_getElem (by have := Hn.out; omega)⟩
      have hrp := Hz.out r (List.mem_of_getElem? hr)
      have hstep : othersL p (rs.take (k + 1)) = if bl r.p = bl p then othersL p (rs.take k) else othersL p (rs.take k) ++ [r] := by rw [List.take_add_one, hr]; exact othersL_snoc p _ r
      obtain ⟨b, off, hA, hb, hrange⟩ := HR.out.at hr
      have hlow : Below wb.heap.size wb wr := Hwb.out.trans (hI.out.2.mono Hwb.out.size)
      have Hr : Hid (wr.rangeAt b (off + k * 3) (rlc r).toList) := fun j u hu => (hlow.cell (p := ⟨b, off + k * 3 + j, none⟩) hb).trans (hrange j u hu)
      have hcap1 : n ≤ c := by have := HR.out.1; have := Hn.out; omega
      have hlen : (othersL p (rs.take k)).length ≤ 1000 := by have := othersL_len p (rs.take k); rw [List.length_take] at this; omega
      have Hstep := Lib.hid hstep
      have Hlen := Lib.hid hlen
      subst hA
      clear hr hstep hrange hlow hb hlen
      go_upto_region 5 with (first
        | (with_reducible refine wpList_load_mid rfl 48 (.tmp 12) rfl b (off + k * 3) rfl (rlc r).toList _ Hr.out Tryz.underlying48 rfl infoR2 ?_)
        | (refine wpList_store_row rfl 48 (.tmp 7) (.tmp 13) rfl wr.heap.size (rlc r) rfl rfl 48 _ (Go.heap_alloc_new wr _) infoR rfl (rlc_one _) ?_; rw [World.setRow_alloc_new]))
      obtain ⟨w4, hw4⟩ : ∃ w4, w4 = wr.alloc (.cells (rlc r) 48) := ⟨_, rfl⟩
      have h4 : w4.heap[wr.heap.size]? = some (.cells (rlc r) 48 (0, 0)) := by rw [hw4]; exact Go.heap_alloc_new wr _
      have l4 : Below wr.heap.size wr w4 := by rw [hw4]; exact (Below.refl _ _).alloc (Nat.le_refl _) _
      rw [← hw4]
      clear hw4
      obtain ⟨bx, hbx⟩ : ∃ bx, bx = wr.heap.size := ⟨_, rfl⟩
      rw [← hbx] at h4 ⊢
      have own4 : OwnR w.heap.size (othersL p (rs.take k)) u5 w4 := own_stays hI.out.1 l4
      have low4 : Below w.heap.size w w4 := hI.out.2.trans (l4.mono hI.out.2.size)
      have cS := (rule_row h4).1
      have Own4 := Lib.hid own4
      have Low4 := Lib.hid low4
      have H4 := Lib.hid h4
      clear h4 l4 hbx own4 low4 hI Hr
      by_cases hp : bl r.p = bl p
      · have hpe : r.p = p := bl_inj hp
        have Hs2 : Hid (othersL p (rs.take (k + 1)) = othersL p (rs.take k)) := by show _ = _; rw [Hstep.out, if_pos hp]
        clear hp Hstep
        rw [hpe] at cS
        clear hpe
        go_wp2
        go_roundw
        case rel => exact ⟨k + 1, by omega, by go_num, by rw [Hs2.out]; exact ⟨Own4.out, Low4.out⟩⟩
        case measure => simp [intOf]; omega
      · have hne := Pth.ne_lists (a := r.p) (b := p) (fun h => hp h)
        have Hs2 : Hid (othersL p (rs.take (k + 1)) = othersL p (rs.take k) ++ [r]) := by show _ = _; rw [Hstep.out, if_neg hp]
        clear hp Hstep
        go_wp2_with (first
          | (refine wpList_load_row rfl 48 (.tmp 7) rfl bx rfl 48 (rlc r) (0, 0) _ H4.out Tryz.underlying48 rfl infoR ?_)
          | (go_at_call 36; refine (copied_any r w4 hrp).mono ?_; rintro e w5 ⟨rfl, low5⟩; have Own5 : Hid (OwnR w.heap.size (othersL p (rs.take k)) u5 w5) := own_stays Own4.out low5; have Low5 := Lib.hid (Low4.out.trans (low5.mono Low4.out.size)); clear low5)
          | (at_builtin; refine wpList_append_rul rfl (.tmp 18) (.tmp 21) rfl w.heap.size u5 (othersL p (rs.take k)) r rfl (own_stays Own5.out ((Below.refl _ _).alloc (Nat.le_refl _) _)) w5.heap.size rfl (Go.heap_alloc_new w5 _) (by have := Hlen.out; omega) (by have := Low5.out.size; rw [World.size_alloc]; omega) ?_; intro u6 w6 hown6 hgrow6; have Own6 := Lib.hid hown6; have Low6 := Lib.hid ((Low5.out.alloc Low5.out.size (.cells (rlc r) 48)).grown hgrow6 (by have := Low5.out.size; rw [World.size_alloc]; omega) (fun g hg => (World.ownsRow.lt Own5.out g hg).1)); clear hown6 hgrow6))
        go_roundw
        case rel => exact ⟨k + 1, by omega, by go_num, by rw [Hs2.out]; exact ⟨Own6.out, Low6.out⟩⟩
        case measure => simp [intOf]; omega
    · have hge : ¬ (k : Int) < n := by omega
      have ek : k = n := by omega
      have hI2 := hI.out
      rw [ek, List.take_of_length_le (Nat.le_of_eq Hn.out)] at hI2
      have HI2 := Lib.hid hI2
      clear hI hI2 ek hk hlt
      go_wp2
      go_ret
      exact ⟨_, rfl, HI2.out.1, HI2.out.2⟩
end Go.Proofs.YtmbcojpdigoojaaGreatDoor.Rul
