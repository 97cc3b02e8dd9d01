/- DERIVED. The contract of sha.Text: a digest's 64 digits. -/
import Derived.Test.YtblgblhoolpmiaaDoorShaCat
import Derived.Deep.RegionLaw
import Derived.Laws.BytesArg
import Derived.Laws.IdiomCopy
import Derived.Laws.BitsAllLaws
import Derived.Deep.AppendLies
namespace Go.Proofs.YtblgblhoolpmiaaDoor
open Go.RowKit
/-- the byte of a hexadecimal digit. -/
def dig (v : Int) : Int := if v < 10 then 48 + v else 87 + v
/-- byte j of the text of the bytes l. -/
def textF (l : List Int) (j : Nat) : Int := if j % 2 = 0 then dig (l.getD (j / 2) 0 / 16) else dig (l.getD (j / 2) 0 % 16)
def textL (l : List Int) : List Int := (List.range 64).map (textF l)
theorem textL_length (l : List Int) : (textL l).length = 64 := by simp [textL]
theorem textL_getD (l : List Int) (j : Nat) (h : j < 64) : textF l j = (textL l).getD j 0 := by simp [textL, h]
theorem textF_at (l : List Int) (k : Nat) : textF l (2 * k) = dig (l.getD k 0 / 16) ∧ textF l (2 * k + 1) = dig (l.getD k 0 % 16) := by
  unfold textF
  rw [show 2 * k % 2 = 0 by omega, show (2 * k + 1) % 2 = 1 by omega, show 2 * k / 2 = k by omega, show (2 * k + 1) / 2 = k by omega]
  exact ⟨rfl, rfl⟩
attribute [irreducible] textF dig
theorem index35 (l : List Int) (hl : l.length = 32) (k : Nat) (hk : k < 32) (w : World) : (Instr.index 35 (.agg (u8s l)) (.int .i64 (k : Int))).run Tryd.prog w = .ok (.int .u8 (l.getD k 0)) w := by
  have hu : Tryd.prog.underlying 35 = some (.array 32 5) := by kernel_rfl
  have ha : ∀ w', (isAgg 5).run Tryd.prog w' = .ok false w' := fun _ => by kernel_rfl
  have hs : ∀ w', (sizeOf 5).run Tryd.prog w' = .ok 1 w' := fun _ => by kernel_rfl
  simp [Instr.index, asIntOf, run_underlying hu, part, ha, hs, u8s_get l k (by omega)]
  exact fun h => absurd hk (by omega)
def hexes : ByteArray := ⟨#[48, 49, 50, 51, 52, 53, 54, 55, 56, 57, 97, 98, 99, 100, 101, 102]⟩
theorem hexes_at : ∀ v : Fin 16, hexes[v.val]? = some (UInt8.ofNat (dig v.val).toNat) ∧ ((UInt8.ofNat (dig v.val).toNat).toNat : Int) = dig v.val := by unfold dig; decide
theorem index_hexes (v : Int) (h0 : 0 ≤ v) (h1 : v < 16) (w : World) : (Instr.index 9 (.string hexes) (.int .u8 v)).run Tryd.prog w = .ok (.int .u8 (dig v)) w := by
  obtain ⟨n, rfl⟩ := Int.eq_ofNat_of_zero_le h0
  have := hexes_at ⟨n, by omega⟩
  have hu : Tryd.prog.underlying 9 = some .string := by kernel_rfl
  simp [Instr.index, asIntOf, run_underlying hu, this.1]
  have h2 := this.2
  simpa using h2
/-- what the loop of Text keeps. -/
structure TInv (l : List Int) (N k : Nat) (w wr : World) : Prop where
  row : ∃ C : Array Value, HoldsB C 64 (2 * k) (textF l) ∧ wr.heap[N + 1]? = some (.cells C 5 (0, 0))
  low : Below N w wr
theorem and15_all : ∀ n : Fin 256, bits .and .u8 (n.val : Int) 15 = (n.val : Int) % 16 := by decide +kernel
theorem and15 (x : Int) (h0 : 0 ≤ x) (h1 : x < 256) : bits .and .u8 x 15 = x % 16 := by
  obtain ⟨n, rfl⟩ := Int.eq_ofNat_of_zero_le h0
  exact and15_all ⟨n, by omega⟩
theorem TInv.step {l : List Int} {N k : Nat} {w wr : World} (h : TInv l N k w wr) (hk : k < 32) (o : Obj) (a b : Int) (ha : a = dig (l.getD k 0 / 16)) (hb : b = dig (l.getD k 0 % 16)) :
    TInv l N (k + 1) w (((wr.alloc o).drew).setCells (N + 1) (0 + 2 * k * 1) [.int .u8 a, .int .u8 b]) := by
  obtain ⟨C, hC, hr⟩ := h.row
  have hlt := (Array.getElem?_eq_some_iff.1 hr).1
  have hr' := (Go.heap_alloc_old wr o hlt).trans hr
  have hf := textF_at l k
  have hl : Below N w (wr.alloc o).drew := (h.low.alloc (by have := h.low.size; omega) o).drew
  have e : ((wr.alloc o).drew).setCells (N + 1) (0 + 2 * k * 1) [.int .u8 a, .int .u8 b] = (((wr.alloc o).drew).setCell ⟨N + 1, 2 * k, none⟩ (.int .u8 a)).setCell ⟨N + 1, 2 * k + 1, none⟩ (.int .u8 b) := by
    show (((wr.alloc o).drew).setCell ⟨N + 1, 0 + 2 * k * 1, none⟩ (.int .u8 a)).setCell ⟨N + 1, 0 + 2 * k * 1 + 1, none⟩ (.int .u8 b) = _
    rw [show 0 + 2 * k * 1 = 2 * k by omega]
  rw [e]
  exact ⟨⟨_, (hC.set (by omega) a (by rw [ha, hf.1])).set (by omega) b (by rw [hb, hf.2]), heap_setCell_same _ _ _ _ _ _ (heap_setCell_same _ _ _ _ _ _ hr')⟩, (hl.setCell (by simp) _).setCell (by simp) _⟩
theorem own_row {w : World} {base g n cap : Nat} {xs : List Value} (h : w.ownsRow base 5 1 (.slice (some ⟨g, 0, none⟩) n cap) n xs) :
    ∃ C : Array Value, C.size = cap ∧ w.heap[g]? = some (.cells C 5 (0, 0)) := by
  obtain ⟨_, h⟩ := h
  rcases h with ⟨h, _⟩ | ⟨g', cap', cur, hv, _, hh, _, _, hs, _⟩
  · cases h
  · simp only [Value.slice.injEq, Option.some.injEq, Addr.mk.injEq, and_true, true_and] at hv
    obtain ⟨rfl, rfl⟩ := hv
    exact ⟨cur, by omega, hh⟩
set_option maxRecDepth 100000 in
set_option maxHeartbeats 1000000 in
theorem text_any (l : List Int) (hl : l.length = 32) (hb : InB l) (w : World) :
    Calls Tryd.prog 50 #[.agg (u8s l)] w fun e' w' => e' = .returned (.string (strOfNums (textL l))) ∧ Below w.heap.size w w' := by
  have Hl := Lib.hid hl
  have Hb := Lib.hid hb
  have Hsz : Hid ((Tryd.prog.info? 35).map (·.size) = some (u8s l).size) := by show _ = _; rw [u8s_size, hl]; exact info35
  clear hl hb
  obtain ⟨i0, hi0, hz00, hz10, hz20⟩ := info_parts info5
  have hi := Lib.hid hi0
  have hz0 := Lib.hid hz00
  have hz1 := Lib.hid hz10
  have hz2 := Lib.hid hz20
  clear hi0 hz00 hz10 hz20
  go_enter Tryd.func50, Tryd.ntmps50
  go_wp2_with (first
    | (refine wpList_make_own _ rfl (.const (.int .i64 0)) (.const (.int .i64 64)) 26 rfl (w.heap.size + 1) 5 i0 (.int .u8 0) 1 Tryd.underlying26 hi.out hz0.out hz1.out .i64 .i64 64 64 rfl rfl rfl (by rw [hz2.out]; decide) (by unfold maxLen; omega) (by simp) ?_; intro w1 hown hgrow; have h1 := own_row hown; have h0 := (hgrow.block w.heap.size (by simp) (by intro h; cases h)).trans (Go.heap_alloc_new w _); have low1 : Below w.heap.size w w1 := ((Below.refl _ _).alloc (Nat.le_refl _) _).grown hgrow (by simp) (fun k hk => by cases hk); have hs1 := hgrow.size; simp only [World.size_alloc] at h1 hs1 ⊢; have H1 := Lib.hid h1; have H0 := Lib.hid h0; have Low1 := Lib.hid low1; clear h1 h0 low1 hown hgrow)
    | (refine wpList_load_row rfl 35 (.tmp 1) rfl w.heap.size rfl 35 (u8s l) (0, 0) _ H0.out Tryd.underlying35 rfl Hsz.out ?_))
  go_loopw [3, 8] (fun v i wr => ∃ k : Nat, k ≤ 32 ∧ i = .int .i64 k ∧ v = .slice (some ⟨w.heap.size + 1, 0, none⟩) (2 * k) 64 ∧ TInv l w.heap.size k w wr) (fun _ i _ => 32 - (intOf i).toNat)
  case atStart =>
    obtain ⟨C, hC, hr⟩ := H1.out
    exact ⟨0, Nat.zero_le _, rfl, rfl, ⟨C, HoldsB.nil _ _ _ hC, hr⟩, Low1.out⟩
  case round =>
    obtain ⟨k, hk, rfl, rfl, hinv⟩ := hrel
    clear H1 H0 Low1 hs1
    by_cases hlt : k < 32
    · obtain ⟨C, hC, hr⟩ := hinv.row
      have hwr := (Array.getElem?_eq_some_iff.1 hr).1
      have hbb := Hb.out k
      have hix := index35 l Hl.out k hlt wr
      obtain ⟨x, hx⟩ : ∃ x, x = l.getD k 0 := ⟨_, rfl⟩
      rw [← hx] at hix hbb
      have Hx := Lib.hid hx
      obtain ⟨hx0, hx1⟩ := hbb
      have hand := and15 x hx0 hx1
      have i1 := fun W => index_hexes (x / 16) (by omega) (by omega) W
      have i2 := fun W => index_hexes (x % 16) (by omega) (by omega) W
      unfold hexes at i1 i2
      have Hroom : Hid (2 * k + 2 ≤ 64) := (by omega : 2 * k + 2 ≤ 64)
      have Hnews : Hid (∀ j u, [Value.int .u8 (dig (x / 16)), Value.int .u8 (dig (x % 16))][j]? = some u → ((wr.alloc (.cells #[.int .u8 (dig (x / 16)), .int .u8 (dig (x % 16))] 5)).drew).cell? ((⟨wr.heap.size, 0, none⟩ : Addr).add j) = some u) :=
        World.news_of_block (cs := #[.int .u8 (dig (x / 16)), .int .u8 (dig (x % 16))]) (t := 5) (fr := (0, 0)) (Go.heap_alloc_new wr _)
      have Hspare : Hid (∀ j, j < [Value.int .u8 (dig (x / 16)), Value.int .u8 (dig (x % 16))].length → (((wr.alloc (.cells #[.int .u8 (dig (x / 16)), .int .u8 (dig (x % 16))] 5)).drew).cell? ⟨w.heap.size + 1, 0 + 2 * k * 1 + j, none⟩).isSome = true ∧ ((wr.alloc (.cells #[.int .u8 (dig (x / 16)), .int .u8 (dig (x % 16))] 5)).drew).frozen? ⟨w.heap.size + 1, 0 + 2 * k * 1 + j, none⟩ = false) := by
        intro j hj
        have hj2 : j < 2 := hj
        have hr' := (Go.heap_alloc_old wr (.cells #[.int .u8 (dig (x / 16)), .int .u8 (dig (x % 16))] 5) hwr).trans hr
        refine ⟨?_, free_row hr' _⟩
        show ((wr.alloc _).cell? _).isSome = true
        rw [cell_row hr', Array.getElem?_eq_getElem (by rw [hC.1]; omega)]; rfl
      clear hx hr hC
      go_wp2
      go_region_law (refine step_append_room rfl (.tmp 11) (.tmp 18) 26 rfl 5 i0 1 Tryd.underlying26 hi.out hz1.out (w.heap.size + 1) 0 (2 * k) 64 (by simp [Act.eval]) ⟨wr.heap.size, 0, none⟩ 2 2 [.int .u8 (dig (x / 16)), .int .u8 (dig (x % 16))] (by simp [Act.eval]) rfl Hnews.out (by simp [Value.oneCell']) Hroom.out Hspare.out ?_)
      all_goals
        go_wp2
        go_roundw
        case rel =>
          have hstep := hinv.step hlt (.cells #[.int .u8 (dig (x / 16)), .int .u8 (dig (x % 16))] 5) (dig (x / 16)) (dig (x % 16)) (by rw [Hx.out]) (by rw [Hx.out])
          rw [show 0 + 2 * k * 1 = 2 * k by omega] at hstep
          exact ⟨k + 1, by omega, by go_num, by rw [Nat.mul_add], hstep⟩
        case measure => simp [intOf]; omega
    · have h32 : k = 32 := by omega
      have H32 := Lib.hid h32
      rw [h32] at hinv
      obtain ⟨C, hC, hr⟩ := hinv.row
      have low := hinv.low
      have hcv := run_convert_bytes_arg (P := Tryd.prog) wr 26 5 Tryd.underlying26 Tryd.underlying5 (w.heap.size + 1) 0 (2 * k) 64 (textL l) (by rw [textL_length]; omega) (fun i hi => by rw [Nat.zero_add, cell_row hr, hC.2 i (by omega), textL_getD l i (by omega)]) 9 Tryd.underlying9
      clear h32 hk hinv hC hr
      go_wp2
      go_ret
      exact ⟨rfl, low⟩
end Go.Proofs.YtblgblhoolpmiaaDoor
