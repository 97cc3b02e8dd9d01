/- DERIVED. The contract of slots.cutSlot. -/
import Derived.Test.YthjjkbgkfikglaaSltAppend
import Derived.Laws.Cover3
namespace Go.Proofs.Ythjjkbgkfikglaa.Slt
open Go.RowKit Dsk
/-- is there a right slot at the front? -/
def goodB (L : List Int) : Prop := L.getD 0 0 = 1 ∧ lenB L ≤ 262144 ∧ tk (lenB L) * 128 ≤ L.length
/-- the slice behind a slot of k bytes. -/
def restV (g off n cap k : Nat) : Value := .slice (if cap = k then some ⟨g, off, none⟩ else some ⟨g, off + k, none⟩) (n - k) (cap - k)
theorem vals_range {w : World} {g off c : Nat} {L : List Int} (hB : Byt w (some ⟨g, off, none⟩) c L) (h : 5 ≤ L.length) : w.rangeAt g off (vals (L.take 5)) := fun j v hv => by
  obtain ⟨hj, rfl⟩ := vals_get hv
  obtain ⟨g', off', e, _, hc⟩ := hB.2.2 (by omega)
  cases e
  rw [List.length_take] at hj
  rw [hc j (by omega), getD_take' (by omega)]
theorem head_is {L : List Int} (h : 5 ≤ L.length) : ∃ a b c d e, L.take 5 = [a, b, c, d, e] ∧ a = L.getD 0 0 := by
  match L, h with
  | a :: b :: c :: d :: e :: r, _ => exact ⟨a, b, c, d, e, rfl, rfl⟩
def hd5 (a b c d e : Int) : Array Value := #[.int .u8 a, .int .u8 b, .int .u8 c, .int .u8 d, .int .u8 e]
theorem hd5_cells {w : World} {g : Nat} {a b c d e : Int} {T : TypeId} {fr : Nat × Nat} (h : w.heap[g]? = some (.cells (hd5 a b c d e) T fr)) : w.cell? ⟨g, 0, none⟩ = some (.int .u8 a) ∧ w.cell? ⟨g, 1, none⟩ = some (.int .u8 b) ∧ w.cell? ⟨g, 2, none⟩ = some (.int .u8 c) ∧ w.cell? ⟨g, 3, none⟩ = some (.int .u8 d) ∧ w.cell? ⟨g, 4, none⟩ = some (.int .u8 e) :=
  ⟨cell_row h 0, cell_row h 1, cell_row h 2, cell_row h 3, cell_row h 4⟩
set_option maxRecDepth 100000 in
set_option maxHeartbeats 2000000 in
theorem cut_yes {w : World} {g off n cap : Nat} {L : List Int} (hn : L.length = n) (h128 : 128 ≤ n) (hsm : n ≤ 4194304) (hi : InB L) (hB : Byt w (some ⟨g, off, none⟩) cap L) (hg : goodB L) :
    Calls Try.prog 47 #[.slice (some ⟨g, off, none⟩) n cap] w fun e w' => e = .returned (.tuple #[.slice (some ⟨g, off + 5, none⟩) (lenB L) (cap - 5), restV g off n cap (tk (lenB L) * 128), .int .i64 0]) ∧ Below w.heap.size w w' := by
  obtain ⟨h0, h1, h2⟩ := hg
  have hcap : n ≤ cap := by rw [← hn]; exact hB.1
  have Hrg := Lib.hid (vals_range hB (by omega))
  have hl5 : (L.take 5).length = 5 := by rw [List.length_take]; omega
  have hlen := length_any (L.take 5) hl5 (hi.take 5)
  rw [lenB_take (by omega)] at hlen
  obtain ⟨a0, a1, a2, a3, a4, h5, ha0⟩ := head_is (L := L) (by omega)
  rw [h0] at ha0
  subst ha0
  rw [h5] at hlen
  have Hlen : Hid (∀ w : World, Calls Try.prog 50 #[.agg #[.int .u8 1, .int .u8 a1, .int .u8 a2, .int .u8 a3, .int .u8 a4]] w fun e w' => e = .returned (.int .u32 (lenB L : Nat)) ∧ Below w.heap.size w w') := hlen
  obtain ⟨m, hm⟩ : ∃ m, m = lenB L := ⟨_, rfl⟩
  rw [← hm] at h1 h2 Hlen ⊢
  have Hsec := Lib.hid (sectorsOf_any m (by omega))
  obtain ⟨T, hT⟩ : ∃ T, T = tk m := ⟨_, rfl⟩
  have hTm : m + 5 ≤ T * 128 := by rw [hT]; exact tk_fit m
  have hT3 : T ≤ 3000 := by rw [hT]; unfold tk; omega
  rw [← hT] at h2 Hsec ⊢
  have Hsz : Hid ((Try.prog.info? 90).map (·.size) = some (hd5 1 a1 a2 a3 a4).size) := info_head
  have Hsz2 : Hid ((Try.prog.info? 90).map (·.size) = some (vals (L.take 5)).length) := by show _ = _; rw [vals_length, hl5]; exact info_head
  have Hone : Hid ((hd5 1 a1 a2 a3 a4).all (·.oneCell') = true) := u8s_one [1, a1, a2, a3, a4]
  have Hv5 : Hid ((vals (L.take 5)).toArray = hd5 1 a1 a2 a3 a4) := by show _ = _; rw [h5]; rfl
  rw [hn] at h2
  have hmI : (m : Int) ≤ 262144 := by omega
  have h2I : (T : Int) * 128 ≤ (n : Int) := by omega
  have hat := fun (w : World) => run_arrayAt (P := Try.prog) (w := w) 90 5 5 (some ⟨g, off, none⟩) n cap Try.underlying90 (by omega)
  clear hB hm hT hl5 hi h0 hlen h5
  go_enter Try.func47, Try.ntmps47
  go_upto_region 2 with (first
    | (refine wpList_load_mid rfl 90 (.tmp 9) rfl g off (by rfl) (vals (L.take 5)) _ Hrg.out Try.underlying90 rfl Hsz2.out ?_; rw [Hv5.out])
    | (refine wpList_store_row rfl 90 (.tmp 5) (.tmp 10) rfl w.heap.size (hd5 1 a1 a2 a3 a4) rfl rfl 90 _ (Go.heap_alloc_new w _) Hsz.out (by rfl) Hone.out ?_; rw [World.setRow_alloc_new]))
  have hrow := Go.heap_alloc_new w (.cells (hd5 1 a1 a2 a3 a4) 90)
  have hlow : Below w.heap.size w (w.alloc (.cells (hd5 1 a1 a2 a3 a4) 90)) := (Below.refl _ _).alloc (Nat.le_refl _) _
  have hlt : w.heap.size < (w.alloc (.cells (hd5 1 a1 a2 a3 a4) 90)).heap.size := by rw [World.size_alloc]; omega
  obtain ⟨w1, hw1⟩ : ∃ w1, w1 = w.alloc (.cells (hd5 1 a1 a2 a3 a4) 90) := ⟨_, rfl⟩
  rw [← hw1] at hrow hlow hlt ⊢
  obtain ⟨c0, c1, c2, c3, c4⟩ := hd5_cells hrow
  have Hrow := Lib.hid hrow
  have Hlow := Lib.hid hlow
  have Hlt := Lib.hid hlt
  clear hrow hlow hlt hw1 hat
  go_upto_region 8 with (first
    | (go_at_call 50; refine (Hlen.out w2).mono ?_; rintro e w3 ⟨rfl, hb3⟩; have Hb3 := Lib.hid (Hb2.out.trans (hb3.mono Hb2.out.size)); clear hb3)
    | (go_at_call 50; refine (Hlen.out w1).mono ?_; rintro e w2 ⟨rfl, hb2⟩; obtain ⟨d0, d1, d2, d3, d4⟩ := hd5_cells ((hb2.block _ Hlt.out).trans Hrow.out); have Hb2 := Lib.hid (Hlow.out.trans (hb2.mono Hlow.out.size)); clear hb2)
    | (go_at_call 31; refine (Hsec.out _).mono ?_; rintro e w' ⟨rfl, rfl⟩))
  clear c0 c1 c2 c3 c4 d0 d1 d2 d3 d4
  have hTc : T * 128 ≤ cap := by omega
  have hmc : 5 + m ≤ cap := by omega
  have h5c : ¬ cap = 5 := by omega
  by_cases hc : cap = T * 128
  · have HR : Hid (restV g off n cap (T * 128) = .slice (some ⟨g, off, none⟩) (n - T * 128) (cap - T * 128)) := by show _ = _; unfold restV; rw [if_pos hc]
    go_quiet (fail)
    go_wp2
    refine bodyPost_ret (results_tmp3 rfl _ _ _) rfl ?_
    refine ⟨?_, Below.drewN Hb3.out _⟩
    rw [HR.out]
    show Ending.returned (.tuple #[.slice (some ⟨g, off + 5, none⟩) (5 + m - 5) (T * 128 - 5), .slice (some ⟨g, off, none⟩) (n - T * 128) (T * 128 - T * 128), .int .i64 0]) = _
    rw [hc, Nat.add_sub_cancel_left]
  · have HR : Hid (restV g off n cap (T * 128) = .slice (some ⟨g, off + T * 128, none⟩) (n - T * 128) (cap - T * 128)) := by show _ = _; unfold restV; rw [if_neg hc]
    go_quiet (fail)
    go_wp2
    refine bodyPost_ret (results_tmp3 rfl _ _ _) rfl ?_
    refine ⟨?_, Below.drewN Hb3.out _⟩
    rw [HR.out]
    show Ending.returned (.tuple #[.slice (some ⟨g, off + 5, none⟩) (5 + m - 5) (cap - 5), .slice (some ⟨g, off + T * 128, none⟩) (n - T * 128) (cap - T * 128), .int .i64 0]) = _
    rw [Nat.add_sub_cancel_left]
set_option maxRecDepth 100000 in
set_option maxHeartbeats 2000000 in
theorem cut_no {w : World} {g off n cap : Nat} {L : List Int} (hn : L.length = n) (h128 : 128 ≤ n) (hi : InB L) (hsm : n ≤ 4194304) (hB : Byt w (some ⟨g, off, none⟩) cap L) (hg : ¬ goodB L) :
    Calls Try.prog 47 #[.slice (some ⟨g, off, none⟩) n cap] w fun e w' => e = .returned (.tuple #[.slice none 0 0, .slice none 0 0, .int .i64 9]) ∧ Below w.heap.size w w' := by
  have Hrg := Lib.hid (vals_range hB (by omega))
  have hl5 : (L.take 5).length = 5 := by rw [List.length_take]; omega
  have hlen := length_any (L.take 5) hl5 (hi.take 5)
  rw [lenB_take (by omega)] at hlen
  obtain ⟨a0, a1, a2, a3, a4, h5, ha0⟩ := head_is (L := L) (by omega)
  have hin0 : 0 ≤ a0 ∧ a0 < 256 := by rw [ha0]; exact hi 0
  have hlt : lenB L < 4294967296 := by
    have b1 := hi 1
    have b2 := hi 2
    have b3 := hi 3
    have b4 := hi 4
    unfold lenB
    omega
  unfold goodB at hg
  rw [← ha0, hn] at hg
  rw [h5] at hlen
  have Hlen : Hid (∀ w : World, Calls Try.prog 50 #[.agg #[.int .u8 a0, .int .u8 a1, .int .u8 a2, .int .u8 a3, .int .u8 a4]] w fun e w' => e = .returned (.int .u32 (lenB L : Nat)) ∧ Below w.heap.size w w') := hlen
  obtain ⟨m, hm⟩ : ∃ m, m = lenB L := ⟨_, rfl⟩
  rw [← hm] at hg Hlen hlt
  have Hsec := Lib.hid (fun hm => sectorsOf_any m hm)
  obtain ⟨T, hT⟩ : ∃ T, T = tk m := ⟨_, rfl⟩
  have hT3 : m ≤ 262144 → T ≤ 3000 := by intro h; rw [hT]; unfold tk; omega
  rw [← hT] at hg Hsec
  have Hsz : Hid ((Try.prog.info? 90).map (·.size) = some (hd5 a0 a1 a2 a3 a4).size) := info_head
  have Hsz2 : Hid ((Try.prog.info? 90).map (·.size) = some (vals (L.take 5)).length) := by show _ = _; rw [vals_length, hl5]; exact info_head
  have Hone : Hid ((hd5 a0 a1 a2 a3 a4).all (·.oneCell') = true) := u8s_one [a0, a1, a2, a3, a4]
  have Hv5 : Hid ((vals (L.take 5)).toArray = hd5 a0 a1 a2 a3 a4) := by show _ = _; rw [h5]; rfl
  have hat := fun (w : World) => run_arrayAt (P := Try.prog) (w := w) 90 5 5 (some ⟨g, off, none⟩) n cap Try.underlying90 (by omega)
  have Hg := Lib.hid hg
  have HT3 := Lib.hid hT3
  clear hB hm hT hl5 hi hlen h5 hg ha0 hT3
  go_enter Try.func47, Try.ntmps47
  go_upto_region 2 with (first
    | (refine wpList_load_mid rfl 90 (.tmp 9) rfl g off (by rfl) (vals (L.take 5)) _ Hrg.out Try.underlying90 rfl Hsz2.out ?_; rw [Hv5.out])
    | (refine wpList_store_row rfl 90 (.tmp 5) (.tmp 10) rfl w.heap.size (hd5 a0 a1 a2 a3 a4) rfl rfl 90 _ (Go.heap_alloc_new w _) Hsz.out (by rfl) Hone.out ?_; rw [World.setRow_alloc_new]))
  have hrow := Go.heap_alloc_new w (.cells (hd5 a0 a1 a2 a3 a4) 90)
  have hlow : Below w.heap.size w (w.alloc (.cells (hd5 a0 a1 a2 a3 a4) 90)) := (Below.refl _ _).alloc (Nat.le_refl _) _
  have hlt1 : w.heap.size < (w.alloc (.cells (hd5 a0 a1 a2 a3 a4) 90)).heap.size := by rw [World.size_alloc]; omega
  obtain ⟨w1, hw1⟩ : ∃ w1, w1 = w.alloc (.cells (hd5 a0 a1 a2 a3 a4) 90) := ⟨_, rfl⟩
  rw [← hw1] at hrow hlow hlt1 ⊢
  obtain ⟨c0, c1, c2, c3, c4⟩ := hd5_cells hrow
  have Hrow := Lib.hid hrow
  have Hlow := Lib.hid hlow
  have Hlt := Lib.hid hlt1
  clear hrow hlow hlt1 hw1 hat
  by_cases h0 : a0 = 1
  · subst h0
    by_cases h1 : m ≤ 262144
    · have h2 : ¬ T * 128 ≤ n := fun h => Hg.out ⟨rfl, h1, h⟩
      have hT3 := HT3.out h1
      have Hsec2 := Lib.hid (Hsec.out (by omega))
      have hmI : (m : Int) ≤ 262144 := by omega
      have h2I : (n : Int) < (T : Int) * 128 := by omega
      go_wp2_with (first
        | (go_at_call 50; refine (Hlen.out w2).mono ?_; rintro e w3 ⟨rfl, hb3⟩; have Hb3 := Lib.hid (Hb2.out.trans (hb3.mono Hb2.out.size)); clear hb3)
        | (go_at_call 50; refine (Hlen.out w1).mono ?_; rintro e w2 ⟨rfl, hb2⟩; obtain ⟨d0, d1, d2, d3, d4⟩ := hd5_cells ((hb2.block _ Hlt.out).trans Hrow.out); have Hb2 := Lib.hid (Hlow.out.trans (hb2.mono Hlow.out.size)); clear hb2)
        | (go_at_call 31; refine (Hsec2.out _).mono ?_; rintro e w' ⟨rfl, rfl⟩))
      refine bodyPost_ret (results_tmp3 rfl _ _ _) rfl ?_
      exact ⟨rfl, Hb3.out⟩
    · have hmI : (262144 : Int) < (m : Int) := by omega
      have hltI : (m : Int) < 4294967296 := by omega
      go_wp2_with (first
        | (go_at_call 50; refine (Hlen.out w1).mono ?_; rintro e w2 ⟨rfl, hb2⟩; have Hb2 := Lib.hid (Hlow.out.trans (hb2.mono Hlow.out.size)); clear hb2))
      refine bodyPost_ret (results_tmp3 rfl _ _ _) rfl ?_
      exact ⟨rfl, Hb2.out⟩
  · go_wp2
    refine bodyPost_ret (results_tmp3 rfl _ _ _) rfl ?_
    exact ⟨rfl, Hlow.out⟩
end Go.Proofs.Ythjjkbgkfikglaa.Slt
