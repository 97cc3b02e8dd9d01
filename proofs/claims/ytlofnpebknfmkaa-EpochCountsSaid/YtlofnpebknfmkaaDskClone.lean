/- DERIVED. The contracts of bytes.Clone, Bytes, Read, Cut, Restart, Put. -/
import Derived.Test.YtlofnpebknfmkaaDskCut
import Derived.Test.YtlofnpebknfmkaaAppend
import Derived.Test.YtlofnpebknfmkaaOwn2
import Derived.Test.YtlofnpebknfmkaaSl
import Derived.WalkSpells
namespace Go.Proofs.Ytlofnpebknfmkaa.Dsk
open Go.RowKit
set_option maxHeartbeats 1000000 in
theorem clone_own {L : List Int} {g off c n : Nat} {w : World} (hB : Byt w (some ⟨g, off, none⟩) c L) (hn : L.length = n) (hle : n ≤ 4294967296) :
    Calls Try.prog 24 #[.slice (some ⟨g, off, none⟩) n c] w fun e w' => ∃ v', e = .returned v' ∧ w'.ownsRow w.heap.size 5 1 v' n (vals L) ∧ Below w.heap.size w w' := by
  have HB := Lib.hid hB
  have Hn := Lib.hid hn
  have Hle := Lib.hid hle
  have hmade := World.ownsRow_made w (base := w.heap.size) (e := 5) (size := 1) #[] 0 (Nat.le_refl _) (Nat.zero_le _) rfl
  have Hmade := Lib.hid hmade
  have hne := fun (w : World) => Lib.run_eql_slice_nil w 22 5 (some ⟨g, off, none⟩) n c 0 0 Try.underlying22
  clear hB hn hmade hle
  go_enter Try.func24, Try.ntmps24
  go_wp2_with (at_builtin; refine wpList_append_any rfl (.tmp 5) (.tmp 6) rfl w.heap.size _ 0 [] rfl Hmade.out (some ⟨g, off, none⟩) n c L rfl Hn.out (HB.out.alloc _) (by have := Hle.out; omega) (by rw [World.size_alloc]; omega) ?_; intro v1 w1 hown1 hlow1; have Hown1 := Lib.hid hown1; have Hlow1 := Lib.hid hlow1; clear hown1 hlow1)
  go_ret
  have ho := Hown1.out
  rw [List.nil_append, Nat.zero_add] at ho
  exact ⟨_, rfl, ho, Hlow1.out _ _ ((Below.refl _ _).alloc (Nat.le_refl _) _) (Nat.le_refl _)⟩
theorem own_sl {w : World} {base n : Nat} {v : Value} {L : List Int} (h : w.ownsRow base 5 1 v n (vals L)) (hl : L.length = n) : SlB L v w := by
  obtain ⟨A, c, hv, hb⟩ := own_bytK h hl
  exact ⟨A, c, by rw [hl]; exact hv, hb⟩
theorem Dsk.byt {w : World} {K : DK} {D : DS} (h : Dsk w K D) : Byt w (some ⟨K.h, 0, none⟩) (D.data.length + K.sp.length) D.data :=
  ⟨by omega, (fun h => by cases h), fun _ => ⟨K.h, 0, rfl, h.hlt, fun j hj => by rw [Nat.zero_add]; exact body_cell h.body j hj⟩⟩
theorem DS.Ok.len {D : DS} (h : D.Ok) : D.data.length ≤ 2097152 := by have := h.whole128; have := h.most; omega
set_option maxHeartbeats 1000000 in
theorem bytes_any {w : World} {K : DK} {D : DS} (h : Dsk w K D) : Calls Try.prog 17 #[K.ptr] w fun e w' => ∃ v', e = .returned v' ∧ w'.ownsRow w.heap.size 5 1 v' D.data.length (vals D.data) ∧ Below w.heap.size w w' := by
  have Hm := Lib.hid (made_any h)
  obtain ⟨_, c1, _⟩ := row0 h.row
  have Hc := Lib.hid (clone_own h.byt rfl (Nat.le_trans h.ok.len (by decide)))
  unfold DK.ptr at *
  clear h
  go_enter Try.func17, Try.ntmps17
  go_wp2_with (first
    | (go_at_call 20; refine Hm.out.mono ?_; rintro e w' ⟨rfl, rfl⟩)
    | (go_at_call 24; refine Hc.out.mono ?_; rintro e w1 ⟨v1, rfl, ho, hb⟩; have Ho := Lib.hid ho; have Hb := Lib.hid hb; clear ho hb))
  go_ret
  exact ⟨_, rfl, Ho.out, Hb.out⟩
theorem within_yes {k n : Int} {s : Nat} (h : withinI k n s = true) : ∃ a b : Nat, k = a ∧ n = b ∧ a + b ≤ s := by
  simp [withinI] at h
  exact ⟨k.toNat, n.toNat, by omega, by omega, by omega⟩
theorem within_of {a b s : Nat} (h : a + b ≤ s) : withinI a b s = true := by
  simp [withinI]; omega
set_option maxHeartbeats 1000000 in
theorem read_own {w : World} {K : DK} {D : DS} (h : Dsk w K D) (a b : Nat) (hab : a + b ≤ D.secs) (ho : D.off = false) : Calls Try.prog 10 #[K.ptr, .int .i64 a, .int .i64 b] w fun e w' => ∃ v', e = .returned (.tuple #[v', .int .i64 0]) ∧ Below w.heap.size w w' ∧ w'.ownsRow w.heap.size 5 1 v' (b * 128) (vals ((D.data.drop (a * 128)).take (b * 128))) := by
  have hm := h.ok.most
  have Hs := Lib.hid (sectors_count h)
  have Hw := Lib.hid (within_any a b D.secs w (by omega) (by omega) (by omega))
  have Hr := Lib.hid (refuses_any h (withinI a b D.secs))
  rw [within_of hab] at Hw Hr
  rw [show refE D true = 0 by simp [refE, ho]] at Hr
  have Hx := Lib.hid (sectors_any h a b hab)
  have hcap : a * 128 + b * 128 ≤ D.data.length := by have := h.ok.whole128; omega
  have hle := h.ok.len
  have Hc : Hid (Calls Try.prog 24 #[secV K a b (D.data.length + K.sp.length)] w fun e w' => ∃ v', e = .returned v' ∧ w'.ownsRow w.heap.size 5 1 v' (b * 128) (vals ((D.data.drop (a * 128)).take (b * 128))) ∧ Below w.heap.size w w') := by
    unfold secV
    by_cases e : D.data.length + K.sp.length = a * 128
    · rw [if_pos e]
      refine clone_own ⟨by simp; omega, (fun h => by cases h), fun hl => ?_⟩ (by simp; omega) (by omega)
      simp at hl; omega
    · rw [if_neg e]
      refine clone_own ⟨by simp; omega, (fun h => by cases h), fun hl => ⟨K.h, a * 128, rfl, h.hlt, fun j hj => ?_⟩⟩ (by simp; omega) (by omega)
      rw [List.length_take, List.length_drop] at hj
      rw [body_cell h.body _ (by omega)]
      simp [List.getD_eq_getElem?_getD, show j < b * 128 by omega]
  have hl : ((D.data.drop (a * 128)).take (b * 128)).length = b * 128 := by simp; omega
  obtain ⟨V, hV⟩ : ∃ V, V = secV K a b (D.data.length + K.sp.length) := ⟨_, rfl⟩
  rw [← hV] at Hx Hc
  obtain ⟨R, hR⟩ : ∃ R, R = (D.data.drop (a * 128)).take (b * 128) := ⟨_, rfl⟩
  rw [← hR] at Hc hl ⊢
  have Hl := Lib.hid hl
  obtain ⟨s, hs⟩ : ∃ s, s = D.secs := ⟨_, rfl⟩
  rw [← hs] at Hs Hw hm hab
  unfold DK.ptr at *
  clear h hs ho hV hR hl hcap hle
  go_enter Try.func10, Try.ntmps10
  go_wp2_with (first
    | (go_at_call 23; refine Hs.out.mono ?_; rintro e w' ⟨rfl, rfl⟩)
    | (go_at_call 21; refine Hw.out.mono ?_; rintro e w' ⟨rfl, rfl⟩)
    | (go_at_call 22; refine Hr.out.mono ?_; rintro e w' ⟨rfl, rfl⟩)
    | (go_at_call 25; refine Hx.out.mono ?_; rintro e w' ⟨rfl, rfl⟩)
    | (go_at_call 24; refine Hc.out.mono ?_; rintro e w1 ⟨v1, rfl, ho, hb⟩; have Ho := Lib.hid ho; have Hb := Lib.hid hb; clear ho hb))
  go_ret2
  exact ⟨_, rfl, Hb.out, Ho.out⟩
theorem read_ok {w : World} {K : DK} {D : DS} (h : Dsk w K D) (a b : Nat) (hab : a + b ≤ D.secs) (ho : D.off = false) : Calls Try.prog 10 #[K.ptr, .int .i64 a, .int .i64 b] w fun e w' => ∃ v', e = .returned (.tuple #[v', .int .i64 0]) ∧ Below w.heap.size w w' ∧ SlB ((D.data.drop (a * 128)).take (b * 128)) v' w' := by
  refine (read_own h a b hab ho).mono ?_
  rintro e w' ⟨v, rfl, hb, hown⟩
  exact ⟨v, rfl, hb, own_sl hown (by have := h.ok.whole128; simp; omega)⟩
set_option maxHeartbeats 1000000 in
theorem read_no {w : World} {K : DK} {D : DS} (h : Dsk w K D) (k n : Int) (hk : k ≤ 9223372036854775807) (e0 : refE D (withinI k n D.secs) ≠ 0) : Calls Try.prog 10 #[K.ptr, .int .i64 k, .int .i64 n] w fun e w' => e = .returned (.tuple #[.slice none 0 0, .int .i64 (refE D (withinI k n D.secs))]) ∧ w = w' := by
  have Hs := Lib.hid (sectors_count h)
  have Hw := Lib.hid (within_any k n D.secs w hk (by omega) (by have := h.ok.most; omega))
  have Hr := Lib.hid (refuses_any h (withinI k n D.secs))
  obtain ⟨s, hs⟩ : ∃ s, s = D.secs := ⟨_, rfl⟩
  rw [← hs] at Hs Hw Hr e0 ⊢
  obtain ⟨W, hW⟩ : ∃ W, W = withinI k n s := ⟨_, rfl⟩
  rw [← hW] at Hw Hr e0 ⊢
  obtain ⟨E, hE⟩ : ∃ E, E = refE D W := ⟨_, rfl⟩
  rw [← hE] at Hr e0 ⊢
  unfold DK.ptr at *
  clear h hs hW hE hk
  go_enter Try.func10, Try.ntmps10
  go_wp2_with (first
    | (go_at_call 23; refine Hs.out.mono ?_; rintro e w' ⟨rfl, rfl⟩)
    | (go_at_call 21; refine Hw.out.mono ?_; rintro e w' ⟨rfl, rfl⟩)
    | (go_at_call 22; refine Hr.out.mono ?_; rintro e w' ⟨rfl, rfl⟩))
  go_ret2
  exact ⟨rfl, rfl⟩
end Go.Proofs.Ytlofnpebknfmkaa.Dsk
