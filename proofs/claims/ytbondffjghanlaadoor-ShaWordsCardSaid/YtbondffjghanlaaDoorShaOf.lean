/- DERIVED. Contracts of sha.digit and sha.Of: a hexadecimal digit's value; the digest that a text tells, or none. -/
import Derived.Test.YtbondffjghanlaaDoorShaResume
import Derived.Test.YtbondffjghanlaaDoorShaEq
import Derived.BigQuiet
import Derived.Lib.Bytealg
import Derived.BigCall
import Derived.Laws.Strings3
namespace Go.Proofs.YtbondffjghanlaaDoor
open Go.RowKit Go.Lib
set_option maxHeartbeats 1000000 in
set_option maxRecDepth 100000 in
theorem iByteLite_any (s : ByteArray) (c : Int) (w : World) :
    Calls Tryd.prog 74 #[.string s, .int .u8 c] w fun e w' => e = .returned (.int .i64 (Lib.indexByte s.data.toList c.toNat.toUInt8)) ∧ w' = w := by
  go_enter Tryd.func74, Tryd.ntmps74
  go_wp2
  rw [run_callFunc_extern Tryd.func75 (by kernel_rfl) (by kernel_rfl) (by kernel_rfl) (e := Extern.BytealgIndexByte.indexByte) (by kernel_rfl), Lib.run_indexByteString]
  simp only [Result.andThen]
  rw [Oper.upon_value]
  go_wp2
  go_ret
  exact ⟨rfl, rfl⟩
set_option maxHeartbeats 1000000 in
set_option maxRecDepth 100000 in
theorem iByte_any (s : ByteArray) (c : Int) (w : World) :
    Calls Tryd.prog 70 #[.string s, .int .u8 c] w fun e w' => e = .returned (.int .i64 (Lib.indexByte s.data.toList c.toNat.toUInt8)) ∧ w' = w := by
  go_enter Tryd.func70, Tryd.ntmps70
  go_wp2_with (go_at_call 74; refine (iByteLite_any _ _ _).mono ?_; rintro e w' ⟨rfl, rfl⟩)
  go_ret
  exact ⟨rfl, rfl⟩
/-- the value of a hexadecimal digit, or -1. -/
def hexv (c : Int) : Int := Lib.indexByte [48, 49, 50, 51, 52, 53, 54, 55, 56, 57, 97, 98, 99, 100, 101, 102] c.toNat.toUInt8
set_option maxHeartbeats 1000000 in
set_option maxRecDepth 100000 in
theorem digit_any (c : Int) (w : World) :
    Calls Tryd.prog 54 #[.int .u8 c] w fun e w' => e = .returned (.int .i64 (hexv c)) ∧ w' = w := by
  go_enter Tryd.func54, Tryd.ntmps54
  go_wp2_with (go_at_call 70; refine (iByte_any _ _ _).mono ?_; rintro e w' ⟨rfl, rfl⟩)
  go_ret
  exact ⟨rfl, rfl⟩
/-- what it is, by cases. -/
def hexq (c : Int) : Int := if 48 ≤ c ∧ c ≤ 57 then c - 48 else if 97 ≤ c ∧ c ≤ 102 then c - 87 else -1
theorem hexv_all : ∀ k : Fin 256, hexv ((k.val : Nat) : Int) = hexq ((k.val : Nat) : Int) := of_decide_eq_true (by kernel_rfl)
theorem hexv_eq (c : Int) (h : 0 ≤ c ∧ c < 256) : hexv c = hexq c := by
  obtain ⟨k, rfl⟩ := Int.eq_ofNat_of_zero_le h.1
  exact hexv_all ⟨k, by omega⟩
theorem digit_same (c : Int) (w : World) :
    Calls Tryd.prog 54 #[.int .u8 c] w fun e w' => e = .returned (.int .i64 (hexv c)) ∧ w = w' := (digit_any c w).mono fun _ _ h => ⟨h.1, h.2.symm⟩
theorem index_str (s : ByteArray) (n : Nat) (h : n < s.size) (w : World) : (Instr.index 9 (.string s) (.int .i64 (n : Int))).run Tryd.prog w = .ok (.int .u8 ((bytesOf s).getD n 0)) w := by
  have hu : Tryd.prog.underlying 9 = some .string := by kernel_rfl
  have h1 : s[n]? = some s[n] := getElem?_pos s n h
  have h2 : (bytesOf s).getD n 0 = (s[n].toNat : Int) := by
    have hl : n < s.data.toList.length := by rw [Array.length_toList]; exact h
    simp only [bytesOf, List.getD_eq_getElem?_getD, List.getElem?_map, List.getElem?_eq_getElem hl, Option.map_some, Option.getD_some]
    rfl
  simp [Instr.index, asIntOf, run_underlying hu, h1]
  rw [← List.getD_eq_getElem?_getD]
  exact h2.symm
/-- is pair j two digits? the byte that it tells. -/
def good (B : List Int) (j : Nat) : Bool := decide (0 ≤ hexv (B.getD (2 * j) 0)) && decide (0 ≤ hexv (B.getD (2 * j + 1) 0))
def ofF (B : List Int) (j : Nat) : Int := hexv (B.getD (2 * j) 0) * 16 + hexv (B.getD (2 * j + 1) 0)
def ofOk (B : List Int) : Bool := (B.length == 64) && (List.range 32).all (good B)
def ofX (B : List Int) : List Int := if ofOk B then (List.range 32).map (ofF B) else List.replicate 32 0
theorem ofX_length (B : List Int) : (ofX B).length = 32 := by unfold ofX; split <;> simp
theorem ofX_bad {B : List Int} (h : ofOk B = false) : ofX B = List.replicate 32 0 := by unfold ofX; rw [h]; rfl
theorem ofOk_len {B : List Int} (h : B.length ≠ 64) : ofOk B = false := by simp [ofOk, h]
theorem ofOk_bad {B : List Int} {k : Nat} (hk : k < 32) (h : good B k = false) : ofOk B = false := by
  unfold ofOk
  rw [Bool.and_eq_false_iff]
  exact .inr (by rw [List.all_eq_false]; exact ⟨k, List.mem_range.2 hk, by simp [h]⟩)
theorem ofOk_good {B : List Int} (hl : B.length = 64) (h : ∀ j, j < 32 → good B j = true) : ofOk B = true := by
  unfold ofOk
  rw [Bool.and_eq_true]
  exact ⟨by simp [hl], List.all_eq_true.2 fun j hj => h j (List.mem_range.1 hj)⟩
structure OfInv (B : List Int) (N k : Nat) (w wr : World) : Prop where
  row : ∃ S : Array Value, HoldsB S 32 k (ofF B) ∧ wr.heap[N + 1]? = some (.cells S 35 (0, 0))
  res : wr.heap[N]? = some (.cells zero32 35 (0, 0))
  all : ∀ j, j < k → good B j = true
  low : Below N w wr
theorem OfInv.below {B : List Int} {N k : Nat} {w wr w' : World} (h : OfInv B N k w wr) (hb : Below wr.heap.size wr w') : OfInv B N k w w' := by
  obtain ⟨S, hS, hr⟩ := h.row
  have h1 := (Array.getElem?_eq_some_iff.1 hr).1
  have h2 := (Array.getElem?_eq_some_iff.1 h.res).1
  exact ⟨⟨S, hS, (hb.block _ h1).trans hr⟩, (hb.block _ h2).trans h.res, h.all, h.low.trans (hb.mono (by omega))⟩
theorem OfInv.drewN {B : List Int} {N k : Nat} {w wr : World} (x : OfInv B N k w wr) (n : Nat) : OfInv B N k w (wr.drewN n) :=
  ⟨x.row, x.res, x.all, ⟨x.low.os, x.low.tape, x.low.output, x.low.size, x.low.block⟩⟩
theorem hexv_in (c : Int) (h : 0 ≤ c ∧ c < 256) : -1 ≤ hexv c ∧ hexv c ≤ 15 := by
  rw [hexv_eq c h]
  unfold hexq
  split
  · omega
  · split <;> omega
theorem byte_of_all : ∀ x y : Fin 16, bits .or .i64 (wrap64 ((x.val : Int) * 16)) (y.val : Int) % 256 = (x.val : Int) * 16 + y.val := by decide +kernel
theorem byte_of (x y : Int) (hx : 0 ≤ x ∧ x ≤ 15) (hy : 0 ≤ y ∧ y ≤ 15) : bits .or .i64 (wrap64 (x * 16)) y % 256 = x * 16 + y := by
  obtain ⟨a, rfl⟩ := Int.eq_ofNat_of_zero_le hx.1
  obtain ⟨b, rfl⟩ := Int.eq_ofNat_of_zero_le hy.1
  exact byte_of_all ⟨a, by omega⟩ ⟨b, by omega⟩
theorem OfInv.set {B : List Int} {N k : Nat} {w wr : World} (x : OfInv B N k w wr) (hk : k < 32) (v : Int) (hv : v = ofF B k) (hg : good B k = true) : OfInv B N (k + 1) w (wr.setCell ⟨N + 1, k, none⟩ (.int .u8 v)) := by
  obtain ⟨S, hS, hr⟩ := x.row
  refine ⟨⟨_, hS.set hk v hv, heap_setCell_same _ _ _ _ _ _ hr⟩, ?_, ?_, x.low.setCell (by simp) _⟩
  · rw [heap_setCell_other _ _ _ _ (by simp)]; exact x.res
  · intro j hj
    rcases Nat.lt_succ_iff_lt_or_eq.1 hj with h | rfl
    · exact x.all j h
    · exact hg
set_option maxRecDepth 100000 in
set_option maxHeartbeats 2000000 in
theorem of_any (s : ByteArray) (w : World) :
    Calls Tryd.prog 28 #[.string s] w fun e' w' => e' = .returned (.tuple #[.agg (u8s (ofX (bytesOf s))), .bool (ofOk (bytesOf s))]) ∧ Below w.heap.size w w' := by
  obtain ⟨B, hB⟩ : ∃ B, B = bytesOf s := ⟨_, rfl⟩
  have hBl : B.length = s.size := by rw [hB, bytesOf_length]
  have h2 := two_new w (.cells zero32 35) (.cells zero32 35)
  have H2 := Lib.hid h2
  have low0 := Lib.hid (((Below.refl w.heap.size w).alloc (Nat.le_refl _) (.cells zero32 35)).alloc (by simp) (.cells zero32 35))
  obtain ⟨Z, hZ⟩ : ∃ Z : List Int, Z = List.replicate 32 0 := ⟨_, rfl⟩
  have hZl : Z.length = 32 := by rw [hZ]; rfl
  have H35 : Hid ((Tryd.prog.info? 35).map (·.size) = some (u8s Z).size) := by show _ = _; rw [u8s_size, hZl]; exact info35
  have hZu : #[.int .u8 0, .int .u8 0, .int .u8 0, .int .u8 0, .int .u8 0, .int .u8 0, .int .u8 0, .int .u8 0, .int .u8 0, .int .u8 0, .int .u8 0, .int .u8 0, .int .u8 0, .int .u8 0, .int .u8 0, .int .u8 0, .int .u8 0, .int .u8 0, .int .u8 0, .int .u8 0, .int .u8 0, .int .u8 0, .int .u8 0, .int .u8 0, .int .u8 0, .int .u8 0, .int .u8 0, .int .u8 0, .int .u8 0, .int .u8 0, .int .u8 0, .int .u8 0] = u8s Z := by rw [hZ]; rfl
  have HZ := Lib.hid hZ
  have HZl := Lib.hid hZl
  have HZu := Lib.hid hZu
  clear hZ hZl hZu
  rw [← hB]
  have HB := Lib.hid hB
  have HBl := Lib.hid hBl
  unfold zero32 at H2 low0
  clear hB hBl h2
  by_cases h64 : s.size = 64
  · have h64' : (s.size : Int) = 64 := by omega
    have H64 := Lib.hid h64
    go_enter Tryd.func28, Tryd.ntmps28
    go_wp2_with fail
    go_loopw [12] (fun i wr => ∃ k : Nat, k ≤ 32 ∧ i = .int .i64 k ∧ OfInv B w.heap.size k w wr) (fun i _ => 32 - (intOf i).toNat)
    case atStart => exact ⟨0, Nat.zero_le _, rfl, ⟨_, HoldsB.nil _ _ _ rfl, H2.out.2⟩, H2.out.1, fun j hj => absurd hj (Nat.not_lt_zero _), low0.out⟩
    case round =>
      obtain ⟨k, hk, rfl, hinv⟩ := hrel
      clear H2 low0
      by_cases hlt : k < 32
      · obtain ⟨S, hS, hr⟩ := hinv.row
        have j0 := fun W => index_str s (2 * k) (by omega) W
        have j1 := fun W => index_str s (2 * k + 1) (by omega) W
        rw [← HB.out] at j0 j1
        rw [show ((2 * k : Nat) : Int) = 2 * (k : Int) by omega] at j0
        rw [show ((2 * k + 1 : Nat) : Int) = 2 * (k : Int) + 1 by omega] at j1
        obtain ⟨a, ha⟩ : ∃ a, a = B.getD (2 * k) 0 := ⟨_, rfl⟩
        obtain ⟨b, hb⟩ : ∃ b, b = B.getD (2 * k + 1) 0 := ⟨_, rfl⟩
        rw [← ha] at j0
        rw [← hb] at j1
        have e2 : IntKind.i64.wrap (2 * (k : Int)) = 2 * (k : Int) := IntWalk.i64_in _ (by omega)
        have e3 : IntKind.i64.wrap (2 * (k : Int) + 1) = 2 * (k : Int) + 1 := IntWalk.i64_in _ (by omega)
        have Ha := Lib.hid ha
        have Hb := Lib.hid hb
        clear ha hb
        go_wp2
        go_quiet (first | (go_at_call 54; refine Calls.quiet_of_same (digit_any _ _)))
        have hinq := hinv.drewN nq
        generalize wr.drewN nq = wq at hinq ⊢
        clear hinv hr hS S
        have HI := Lib.hid hinq
        obtain ⟨S, hS, hr⟩ := hinq.row
        have hbad : hexv a < 0 ∨ hexv b < 0 → ofOk B = false := fun h => ofOk_bad hlt (by unfold good; rw [← Ha.out, ← Hb.out]; rcases h with h | h <;> simp [h] <;> omega)
        have Hbad := Lib.hid hbad
        clear hbad
        by_cases hx : hexv a < 0
        · clear hinq hS hr
          go_wp2_with (first
            | (refine wpList_store_row rfl 35 (.tmp 2) (.tmp 32) rfl w.heap.size (u8s Z) rfl (congrArg Value.agg HZu.out) 35 _ HI.out.res H35.out (by rw [u8s_size, HZl.out]; rfl) (u8s_one _) ?_))
          exact bodyPost_ret (v := .tuple #[.agg (u8s Z), .bool false]) (results_row_tmp rfl _ _ w.heap.size 35 _ (0, 0) _ _ rfl rfl (setRow_heap _ _ _ _ _ _ HI.out.res) Tryd.underlying35 rfl H35.out) rfl ⟨by rw [ofX_bad (Hbad.out (.inl hx)), Hbad.out (.inl hx), HZ.out], below_setRow HI.out.low (Nat.le_refl _) _⟩
        · by_cases hy : hexv b < 0
          · clear hinq hS hr
            go_wp2_with (first
              | (refine wpList_store_row rfl 35 (.tmp 2) (.tmp 32) rfl w.heap.size (u8s Z) rfl (congrArg Value.agg HZu.out) 35 _ HI.out.res H35.out (by rw [u8s_size, HZl.out]; rfl) (u8s_one _) ?_))
            exact bodyPost_ret (v := .tuple #[.agg (u8s Z), .bool false]) (results_row_tmp rfl _ _ w.heap.size 35 _ (0, 0) _ _ rfl rfl (setRow_heap _ _ _ _ _ _ HI.out.res) Tryd.underlying35 rfl H35.out) rfl ⟨by rw [ofX_bad (Hbad.out (.inr hy)), Hbad.out (.inr hy), HZ.out], below_setRow HI.out.low (Nat.le_refl _) _⟩
          · have hvs : (wq.cell? ⟨w.heap.size + 1, k, none⟩).isSome = true := by rw [cell_row hr, Array.getElem?_eq_getElem (by rw [hS.1]; omega)]; rfl
            obtain ⟨v, hv⟩ := Option.isSome_iff_exists.1 hvs
            have hfz := free_row hr k
            clear hinq hS hr hvs
            go_wp2
            go_roundw
            case rel =>
              have hb1 : 0 ≤ a ∧ a < 256 := by rw [Ha.out, HB.out]; exact bytesOf_in s _
              have hb2 : 0 ≤ b ∧ b < 256 := by rw [Hb.out, HB.out]; exact bytesOf_in s _
              have q1 := hexv_in a hb1
              have q2 := hexv_in b hb2
              exact ⟨k + 1, by omega, by go_num, HI.out.set hlt _ (by rw [byte_of _ _ (by omega) (by omega)]; unfold ofF; rw [← Ha.out, ← Hb.out]) (by unfold good; rw [← Ha.out, ← Hb.out]; simp; omega)⟩
            case measure => simp [intOf]; omega
      · have h32 : k = 32 := by omega
        rw [h32] at hinv
        clear h32 hk
        obtain ⟨S, hS, hr⟩ := hinv.row
        have hok : ofOk B = true := ofOk_good (by rw [HBl.out]; exact h64) hinv.all
        have hXl := ofX_length B
        have hSX : S = u8s (ofX B) := hS.whole hXl (fun j hj => by unfold ofX; rw [hok]; simp [hj])
        subst hSX
        have hsX : (Tryd.prog.info? 35).map (·.size) = some (u8s (ofX B)).size := by rw [u8s_size, hXl]; exact info35
        have HsX := Lib.hid hsX
        have Hr := Lib.hid hr
        have HI := Lib.hid hinv
        have HXl := Lib.hid hXl
        obtain ⟨X, hX⟩ : ∃ X, X = ofX B := ⟨_, rfl⟩
        rw [← hX] at HsX Hr HXl
        have HX := Lib.hid hX
        have Hok := Lib.hid hok
        clear hr hinv hS hXl hsX hX hok
        go_wp2_with (first
          | (refine wpList_load_row rfl 35 (.tmp 4) rfl (w.heap.size + 1) rfl 35 (u8s X) (0, 0) _ Hr.out Tryd.underlying35 rfl HsX.out ?_)
          | (refine wpList_store_row rfl 35 (.tmp 2) (.tmp 41) rfl w.heap.size (u8s X) rfl rfl 35 _ HI.out.res HsX.out (by rw [u8s_size, HXl.out]; rfl) (u8s_one _) ?_))
        exact bodyPost_ret (v := .tuple #[.agg (u8s X), .bool true]) (results_row_tmp rfl _ _ w.heap.size 35 _ (0, 0) _ _ rfl rfl (setRow_heap _ _ _ _ _ _ HI.out.res) Tryd.underlying35 rfl HsX.out) rfl ⟨by rw [Hok.out, ← HX.out], below_setRow HI.out.low (Nat.le_refl _) _⟩
  · have h64' : ¬ (s.size : Int) = 64 := by omega
    have hbad : ofOk B = false := ofOk_len (by rw [HBl.out]; exact h64)
    go_enter Tryd.func28, Tryd.ntmps28
    go_wp2_with (first
      | (refine wpList_store_row rfl 35 (.tmp 2) (.tmp 11) rfl w.heap.size (u8s Z) rfl (congrArg Value.agg HZu.out) 35 _ H2.out.1 H35.out (by rw [u8s_size, HZl.out]; rfl) (u8s_one _) ?_))
    exact bodyPost_ret (v := .tuple #[.agg (u8s Z), .bool false]) (results_row_tmp rfl _ _ w.heap.size 35 _ (0, 0) _ _ rfl rfl (setRow_heap _ _ _ _ _ _ H2.out.1) Tryd.underlying35 rfl H35.out) rfl ⟨by rw [ofX_bad hbad, hbad, HZ.out], below_setRow low0.out (Nat.le_refl _) _⟩
end Go.Proofs.YtbondffjghanlaaDoor
