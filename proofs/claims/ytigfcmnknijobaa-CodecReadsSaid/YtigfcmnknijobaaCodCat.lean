/- DERIVED. The contracts of slices.Grow at a nil slice and of slices.Concat at any slices of bytes; no number of a type. -/
import Derived.Test.YtigfcmnknijobaaProg
import Derived.Test.YtigfcmnknijobaaCodSpec
import Derived.Lib.AppendZeros
import Derived.Laws.AppendOwnNone
namespace Go.Proofs.Ytigfcmnknijobaa.Cod
open Go.RowKit
theorem info8 : (Try.prog.info? 5).map (fun i => (i.zero, i.size, i.bytes)) = some (some (.int .u8 0), 1, 1) := by kernel_rfl
/-- a part: where it lies, its capacity, its bytes. -/
structure Part where
  A : Option Addr
  c : Nat
  M : List Int
def Part.val (p : Part) : Value := .slice p.A p.M.length p.c
def catP (ps : List Part) : List Int := ps.flatMap (·.M)
theorem catP_snoc (ps : List Part) (j : Nat) (h : j < ps.length) : catP (ps.take (j + 1)) = catP (ps.take j) ++ ps[j].M := by
  unfold catP
  rw [List.take_succ_eq_append_getElem h, List.flatMap_append]
  simp
theorem catP_le (ps : List Part) (j : Nat) : (catP (ps.take j)).length ≤ (catP ps).length := by
  have : catP ps = catP (ps.take j) ++ (ps.drop j).flatMap (·.M) := by
    unfold catP
    rw [← List.flatMap_append, List.take_append_drop]
  rw [this, List.length_append]
  omega
set_option maxRecDepth 100000 in
set_option maxHeartbeats 1000000 in
theorem grow_any (n : Nat) (h0 : 0 < n) (h1 : n ≤ 100000) (w : World) :
    Calls Try.prog 50 #[.slice none 0 0, .int .i64 (n : Int)] w fun e' w' => ∃ c C, e' = .returned (.slice (some ⟨w.heap.size, 0, none⟩) 0 c) ∧ n ≤ c ∧ c ≤ maxLen ∧ C.size = c ∧ w'.heap[w.heap.size]? = some (.cells C 5 (0, 0)) ∧ Below w.heap.size w w' := by
  obtain ⟨i0, hi0, hz00, hz10, hz20⟩ := info_parts info8
  have hi := Lib.hid hi0
  have hz0 := Lib.hid hz00
  have hz1 := Lib.hid hz10
  have hz2 := Lib.hid hz20
  have hpos : (0 : Int) < n := by omega
  clear hi0 hz00 hz10 hz20
  go_enter Try.func50, Try.ntmps50
  go_wp2_with (at_builtin; refine Lib.wpList_append_run _ rfl (.tmp 20) (.tmp 21) 22 3 rfl _ _ rfl rfl _ _ (Lib.run_append_nil_zeros w 22 3 22 5 i0 (.int .u8 0) .i64 .i64 Try.underlying22 Try.underlying3 hi.out hz0.out n h0 (by rw [hz1.out]; decide) (by omega) (by rw [hz2.out]; omega)) ?_; generalize hc : grownCap w n 0 5 = c; have Hc := Lib.hid hc; clear hc)
  go_ret
  have h2 := grownCap_ge w n 0 5
  have h3 := grownCap_le_maxLen w n 0 5 (by unfold maxLen; omega)
  rw [Hc.out] at h2 h3
  refine ⟨c, _, rfl, h2, h3, ?_, Go.heap_alloc_new w.drew _, ((Below.refl _ _).drew).alloc (Nat.le_refl _) _⟩
  simp [Builtin.zeroCells]
  omega
/-- what the second loop of Concat keeps. -/
structure CInv (B c : Nat) (L : List Int) (w wr : World) : Prop where
  own : wr.ownsRow B 5 1 (.slice (some ⟨B, 0, none⟩) L.length c) L.length (vals L)
  low : Below B w wr
theorem own_byt1 {w : World} {base g c : Nat} {L : List Int} (h : w.ownsRow base 5 1 (.slice (some ⟨g, 0, none⟩) L.length c) L.length (vals L)) : Byt w (some ⟨g, 0, none⟩) c L := by
  obtain ⟨_, h⟩ := h
  rcases h with ⟨h, _⟩ | ⟨g', cap, cur, hv, _, hh, hcap, _, hs, ht⟩
  · cases h
  · simp only [Value.slice.injEq, Option.some.injEq, Addr.mk.injEq, and_true, true_and] at hv
    obtain ⟨rfl, rfl⟩ := hv
    refine ⟨hcap, (fun h => by cases h), fun _ => ⟨g, 0, rfl, (Array.getElem?_eq_some_iff.1 hh).1, fun j hj => ?_⟩⟩
    rw [Nat.zero_add, cell_row hh]
    have h2 : cur[j]? = cur.toList[j]? := by simp
    have h3 : (cur.toList.take (L.length * 1))[j]? = cur.toList[j]? := by rw [List.getElem?_take, if_pos (by omega)]
    rw [h2, ← h3, ht]
    simp [vals, hj]
set_option maxRecDepth 100000 in
set_option maxHeartbeats 1000000 in
theorem concat_any (ps : List Part) (gs m : Nat) (w : World) (hm : ps.length = m) (hm5 : m ≤ 1000) (hp : 0 < (catP ps).length) (hle : (catP ps).length ≤ 50000)
    (hgs : ∀ j (h : j < ps.length), w.cell? ⟨gs, j, none⟩ = some (ps[j].val)) (hb : ∀ j (h : j < ps.length), Byt w (ps[j]).A (ps[j]).c (ps[j]).M) :
    Calls Try.prog 46 #[.slice (some ⟨gs, 0, none⟩) m m] w fun e' w' => ∃ c, e' = .returned (.slice (some ⟨w.heap.size, 0, none⟩) (catP ps).length c) ∧ w'.ownsRow w.heap.size 5 1 (.slice (some ⟨w.heap.size, 0, none⟩) (catP ps).length c) (catP ps).length (vals (catP ps)) ∧ Below w.heap.size w w' := by
  have HB := Lib.hid hb
  have HG := Lib.hid hgs
  have HM := Lib.hid hm
  obtain ⟨n, hn⟩ : ∃ n, n = (catP ps).length := ⟨_, rfl⟩
  rw [← hn] at hp hle ⊢
  have HN := Lib.hid hn
  clear hb hgs hm hn
  go_enter Try.func46, Try.ntmps46
  go_wp2
  go_loop [3, 11] (fun s i => ∃ k : Nat, k ≤ m ∧ i = .int .i64 (k : Nat) ∧ s = .int .i64 ((catP (ps.take k)).length : Nat)) (fun _ i => m - (intOf i).toNat)
  case atStart => exact ⟨0, Nat.zero_le _, rfl, rfl⟩
  case round =>
    obtain ⟨k, hk, rfl, rfl⟩ := hrel
    by_cases hlt : k < m
    · have hlk : k < ps.length := by have := HM.out; omega
      have hc := HG.out k hlk
      have hsn := catP_snoc ps k hlk
      have hl1 := catP_le ps (k + 1)
      rw [hsn, List.length_append] at hl1
      obtain ⟨p, hp⟩ : ∃ p, p = ps[k] := ⟨_, rfl⟩
      rw [← hp] at hc hsn hl1
      obtain ⟨pA, pc, pM⟩ := p
      unfold Part.val at hc
      simp only at hc hsn hl1
      obtain ⟨x, hx⟩ : ∃ x, x = (catP (ps.take k)).length := ⟨_, rfl⟩
      obtain ⟨y, hy⟩ : ∃ y, y = pM.length := ⟨_, rfl⟩
      rw [← hx, ← hy] at hl1
      rw [← hy] at hc
      rw [← hx]
      have Hx := Lib.hid hx
      have Hy := Lib.hid hy
      have Hsn := Lib.hid hsn
      have hxy : x + y ≤ 50000 := by have := HN.out; omega
      have hlt' : (k : Int) < (m : Int) := by omega
      clear hp hx hy hsn hl1
      go_wp2
      go_round
      case rel => exact ⟨k + 1, by omega, by go_num, by rw [Hsn.out, List.length_append, ← Hx.out, ← Hy.out]; go_num⟩
      case measure => simp [intOf]; omega
    · have hkm : k = m := by omega
      have e : (catP (ps.take k)).length = n := by rw [hkm, ← HM.out, List.take_length]; exact HN.out.symm
      rw [e]
      have hlt' : ¬ (k : Int) < (m : Int) := by omega
      have Hg := Lib.hid (grow_any n hp (by omega) w)
      clear e hkm hlt
      go_wp2_with (go_at_call 50; refine Hg.out.mono ?_; rintro e w1 ⟨c, C, rfl, hc1, hc2, hC, hr, hlow⟩; have HC := Lib.hid hC; have Hr := Lib.hid hr; clear hC hr)
      obtain ⟨i0, hi0, hz00, hz10, hz20⟩ := info_parts info8
      have hi := Lib.hid hi0
      have hz1 := Lib.hid hz10
      clear hi0 hz00 hz10 hz20
      go_loopw [6, 27] (fun v i wr => ∃ k : Nat, k ≤ m ∧ i = .int .i64 (k : Nat) ∧ v = .slice (some ⟨w.heap.size, 0, none⟩) (catP (ps.take k)).length c ∧ CInv w.heap.size c (catP (ps.take k)) w wr) (fun _ i _ => m - (intOf i).toNat)
      case atStart => exact ⟨0, Nat.zero_le _, rfl, rfl, ⟨⟨by simp [vals, catP], .inr ⟨_, c, C, rfl, Nat.le_refl _, Hr.out, Nat.zero_le _, hc2, by rw [HC.out]; omega, by simp [vals, catP]⟩⟩, hlow⟩⟩
      case round =>
        clear Hr HC hlow
        obtain ⟨j, hj, rfl, rfl, hinv⟩ := hrel
        by_cases hltj : j < m
        · have hlk : j < ps.length := by have := HM.out; omega
          have hc := HG.out j hlk
          have hby := HB.out j hlk
          have hsn := catP_snoc ps j hlk
          have hl1 := catP_le ps (j + 1)
          rw [hsn, List.length_append] at hl1
          obtain ⟨p, hp⟩ : ∃ p, p = ps[j] := ⟨_, rfl⟩
          rw [← hp] at hc hsn hl1 hby
          obtain ⟨pA, pc, pM⟩ := p
          unfold Part.val at hc
          simp only at hc hsn hl1 hby
          obtain ⟨X, hX⟩ : ∃ X, X = catP (ps.take j) := ⟨_, rfl⟩
          rw [← hX] at hl1 hsn hinv
          rw [← hX]
          obtain ⟨x, hx⟩ : ∃ x, x = X.length := ⟨_, rfl⟩
          obtain ⟨y, hy⟩ : ∃ y, y = pM.length := ⟨_, rfl⟩
          have hown := hinv.own
          have hlw := hinv.low
          rw [← hx] at hown
          rw [← hx, ← hy] at hl1
          rw [← hy] at hc
          rw [← hx]
          have hxy : x + y ≤ n := by have := HN.out; omega
          have hgs : gs < w.heap.size := World.block_lt_of_cell? w _ hc
          have e0 : wr.cell? ⟨gs, j, none⟩ = some (.slice pA y pc) := (hlw.cell (p := ⟨gs, j, none⟩) hgs).trans hc
          have Hx := Lib.hid hx
          have Hy := Lib.hid hy
          have Hsn := Lib.hid hsn
          have Hby := Lib.hid hby
          have Hown := Lib.hid hown
          have Hlw := Lib.hid hlw
          have hsz := hlw.size
          have hlt'' : (j : Int) < (m : Int) := by omega
          clear hp hx hy hsn hl1 hby hown hlw hc hX hinv
          go_wp2_with (at_builtin; refine wpList_append_fits_any _ rfl (.tmp 31) (.tmp 32) 22 rfl w.heap.size 5 i0 1 Try.underlying22 hi.out hz1.out w.heap.size x c (vals X) rfl Hown.out pA y pc (vals pM) rfl (by rw [vals_length, Hy.out]; omega) (fun h => ⟨by have := Hby.out.1; have := Hby.out.2.1 h; have := Hy.out; omega, Hby.out.2.1 h⟩) (fun ad h => Hby.out.cells (fun p hp => Hlw.out.cell hp) ad h) (vals_one _) (by omega) ?_; intro w2 hown2 hgrow2; have low2 := Lib.hid (Hlw.out.grown hgrow2 (by omega) (fun k hk => by cases hk; exact Nat.le_refl _)); have Hown2 := Lib.hid hown2; clear hown2 hgrow2)
          go_roundw
          case rel => exact ⟨j + 1, by omega, by go_num, by rw [Hsn.out, List.length_append, ← Hx.out, ← Hy.out], ⟨by have := Hown2.out; rw [Hsn.out, List.length_append, ← Hx.out, ← Hy.out]; simpa [vals] using this, low2.out⟩⟩
          case measure => simp [intOf]; omega
        · have hjm : j = m := by omega
          have e : catP (ps.take j) = catP ps := by rw [hjm, ← HM.out, List.take_length]
          rw [e] at hinv ⊢
          rw [← HN.out]
          have hlt'' : ¬ (j : Int) < (m : Int) := by omega
          have Hinv := Lib.hid hinv
          clear e hjm hltj hinv
          go_wp2
          go_ret
          exact ⟨c, rfl, by have := Hinv.out.own; rwa [← HN.out] at this, Hinv.out.low⟩
end Go.Proofs.Ytigfcmnknijobaa.Cod
