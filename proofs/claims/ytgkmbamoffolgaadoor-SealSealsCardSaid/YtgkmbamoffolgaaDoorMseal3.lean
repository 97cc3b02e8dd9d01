/- DERIVED. Texts of ours, merged: XHmacEqual XShaSum XShaDigest XShaBytes XHmacSpec XHmacBlock. -/
import Derived.Test.YtgkmbamoffolgaaDoorMseal2
import Derived.Laws.BitsAllLaws
import Derived.BigQuiet
import Derived.Deep.QuietTactic
import Derived.Deep.RegionWith
import Derived.Lib.ConvBytes
/- DERIVED. The contract of hmac.Equal: whether two slices of bytes are the same. -/
namespace Go.Proofs.YtgkmbamoffolgaaDoor
open Go.RowKit
theorem xor_zero (a b : Int) (h1 : 0 ≤ a) (h2 : a < 256) (h3 : 0 ≤ b) (h4 : b < 256) : bits .xor .u8 a b = 0 ↔ a = b := by
  rw [u8_xor a b h1 h2 h3 h4]
  constructor
  · intro h
    have h' : a.toNat ^^^ b.toNat = 0 := by omega
    have h2' := congrArg (a.toNat ^^^ ·) h'
    simp only [← Nat.xor_assoc, Nat.xor_self, Nat.zero_xor, Nat.xor_zero] at h2'
    omega
  · rintro rfl
    simp
theorem or_zero (a b : Int) (h1 : 0 ≤ a) (h2 : a < 256) (h3 : 0 ≤ b) (h4 : b < 256) : bits .or .u8 a b = 0 ↔ a = 0 ∧ b = 0 := by
  rw [u8_or a b h1 h2 h3 h4]
  constructor
  · intro h
    have h' : a.toNat ||| b.toNat = 0 := by omega
    have := Nat.or_eq_zero_iff.1 h'
    omega
  · rintro ⟨rfl, rfl⟩
    rfl
theorem or_in (a b : Int) (h1 : 0 ≤ a) (h2 : a < 256) (h3 : 0 ≤ b) (h4 : b < 256) : 0 ≤ bits .or .u8 a b ∧ bits .or .u8 a b < 256 := by
  rw [u8_or a b h1 h2 h3 h4]
  have : a.toNat ||| b.toNat < 2 ^ 8 := Nat.or_lt_two_pow (by omega) (by omega)
  omega
theorem xor_in (a b : Int) (h1 : 0 ≤ a) (h2 : a < 256) (h3 : 0 ≤ b) (h4 : b < 256) : 0 ≤ bits .xor .u8 a b ∧ bits .xor .u8 a b < 256 := by
  rw [u8_xor a b h1 h2 h3 h4]
  have : a.toNat ^^^ b.toNat < 2 ^ 8 := Nat.xor_lt_two_pow (by omega) (by omega)
  omega
/-- d tells whether the first k bytes are the same. -/
def Same (L M : List Int) (k : Nat) (d : Int) : Prop := 0 ≤ d ∧ d < 256 ∧ (d = 0 ↔ ∀ j, j < k → L.getD j 0 = M.getD j 0)
theorem Same.next {L M : List Int} {k : Nat} {d : Int} (h : Same L M k d) (hL : InB L) (hM : InB M) : Same L M (k + 1) (bits .or .u8 d (bits .xor .u8 (L.getD k 0) (M.getD k 0))) := by
  obtain ⟨h1, h2, h3⟩ := h
  have hl := hL k
  have hm := hM k
  have hx := xor_in _ _ hl.1 hl.2 hm.1 hm.2
  refine ⟨(or_in _ _ h1 h2 hx.1 hx.2).1, (or_in _ _ h1 h2 hx.1 hx.2).2, ?_⟩
  rw [or_zero _ _ h1 h2 hx.1 hx.2, xor_zero _ _ hl.1 hl.2 hm.1 hm.2, h3]
  constructor
  · rintro ⟨ha, hb⟩ j hj
    by_cases e : j = k
    · rw [e]; exact hb
    · exact ha j (by omega)
  · intro h
    exact ⟨fun j hj => h j (by omega), h k (by omega)⟩
theorem Same.eq {L M : List Int} {n : Nat} {d : Int} (h : Same L M n d) (hL : L.length = n) (hM : M.length = n) : d = 0 ↔ L = M := by
  rw [h.2.2]
  constructor
  · intro h
    apply List.ext_getElem (by omega)
    intro j h1 h2
    have := h j (by omega)
    simpa [List.getD_eq_getElem?_getD, h1, h2] using this
  · rintro rfl j _
    rfl
def EqPost (L M : List Int) (n : Nat) (w : World) (e : Ending) (w' : World) : Prop := ∃ d q, Same L M n d ∧ e = .returned (.bool (d == 0)) ∧ w' = w.drewN q
set_option maxRecDepth 100000 in
set_option maxHeartbeats 1000000 in
theorem equal_loop (L M : List Int) (A A2 : Option Addr) (c c2 n : Nat) (w : World) (hn : L.length = n) (hm : M.length = n) (hb : InB L) (hb2 : InB M) (hB : Byt w A c L) (hB2 : Byt w A2 c2 M) (hx : n ≤ 9223372036854775807) :
    Calls Tryd.prog 32 #[.slice A n c, .slice A2 n c2] w (EqPost L M n w) := by
  have Hn := Lib.hid hn
  have Hm := Lib.hid hm
  have Hb := Lib.hid hb
  have Hb2 := Lib.hid hb2
  have HB := Lib.hid hB
  have HB2 := Lib.hid hB2
  clear hn hm hb hb2 hB hB2
  go_enter Tryd.func32, Tryd.ntmps32
  go_wp2
  go_loopw [5, 14] (fun v i wr => ∃ (k q : Nat) (d : Int), k ≤ n ∧ v = .int .u8 d ∧ i = .int .i64 k ∧ Hid (Same L M k d) ∧ Hid (wr = w.drewN q)) (fun _ i _ => n - (intOf i).toNat)
  case atStart => exact ⟨0, 0, 0, Nat.zero_le _, rfl, rfl, ⟨by omega, by omega, by simp⟩, rfl⟩
  case round =>
    obtain ⟨k, q, d, hk, rfl, rfl, hs, hwr⟩ := hrel
    by_cases hlt : k < n
    · obtain ⟨g, off, rfl, hg, hc⟩ := HB.out.2.2 (by rw [Hn.out]; omega)
      obtain ⟨g2, off2, rfl, hg2, hc2⟩ := HB2.out.2.2 (by rw [Hm.out]; omega)
      have c1 : wr.cell? ⟨g, off + k, none⟩ = some (.int .u8 (L.getD k 0)) := by rw [hwr.out]; exact hc k (by rw [Hn.out]; exact hlt)
      have c3 : wr.cell? ⟨g2, off2 + k, none⟩ = some (.int .u8 (M.getD k 0)) := by rw [hwr.out]; exact hc2 k (by rw [Hm.out]; exact hlt)
      obtain ⟨a, ha⟩ : ∃ a, a = L.getD k 0 := ⟨_, rfl⟩
      obtain ⟨b, hbb⟩ : ∃ b, b = M.getD k 0 := ⟨_, rfl⟩
      rw [← ha] at c1
      rw [← hbb] at c3
      have Ha := Lib.hid ha
      have Hbb := Lib.hid hbb
      have hlt' : (k : Int) < n := by omega
      clear hc hc2 ha hbb
      go_wp2
      go_quiet (fail)
      go_wp2
      go_roundw
      case rel =>
        refine ⟨k + 1, q + nq, _, by omega, rfl, by go_num, ?_, ?_⟩
        · show Same _ _ _ _
          rw [Ha.out, Hbb.out]; exact hs.out.next Hb.out Hb2.out
        · show wr.drewN nq = _
          rw [hwr.out, World.drewN_drewN]
      case measure => simp [intOf]; omega
    · have h64 : k = n := by omega
      rw [h64] at hs
      clear h64
      by_cases hd : d = 0
      · go_wp2
        go_ret
        exact ⟨d, q, hs.out, by rw [hd]; rfl, hwr.out⟩
      · go_wp2
        go_ret
        exact ⟨d, q, hs.out, by simp, hwr.out⟩
theorem equal_yes (L : List Int) (A A2 : Option Addr) (c c2 n : Nat) (w : World) (hn : L.length = n) (hb : InB L) (hB : Byt w A c L) (hB2 : Byt w A2 c2 L) (hx : n ≤ 9223372036854775807) :
    Calls Tryd.prog 32 #[.slice A n c, .slice A2 n c2] w fun e w' => e = .returned (.bool true) ∧ ∃ q, w' = w.drewN q := by
  refine (equal_loop L L A A2 c c2 n w hn hn hb hb hB hB2 hx).mono ?_
  rintro e w' ⟨d, q, hs, rfl, rfl⟩
  have := (hs.eq hn hn).2 rfl
  exact ⟨by rw [this]; rfl, q, rfl⟩
theorem equal_no (L M : List Int) (A A2 : Option Addr) (c c2 n m : Nat) (w : World) (hn : L.length = n) (hm : M.length = m) (hb : InB L) (hb2 : InB M) (hB : Byt w A c L) (hB2 : Byt w A2 c2 M) (hx : n ≤ 9223372036854775807) (hne : L ≠ M) :
    Calls Tryd.prog 32 #[.slice A n c, .slice A2 m c2] w fun e w' => e = .returned (.bool false) ∧ ∃ q, w' = w.drewN q := by
  by_cases e : n = m
  · subst e
    refine (equal_loop L M A A2 c c2 n w hn hm hb hb2 hB hB2 hx).mono ?_
    rintro e w' ⟨d, q, hs, rfl, rfl⟩
    have : d ≠ 0 := fun h => hne ((hs.eq hn hm).1 h)
    exact ⟨by simp [this], q, rfl⟩
  · have h1 : ¬ (n : Int) = m := by omega
    clear hB hB2 hn hm hb hb2
    go_enter Tryd.func32, Tryd.ntmps32
    go_wp2
    go_ret
    exact ⟨rfl, 0, rfl⟩
end Go.Proofs.YtgkmbamoffolgaaDoor
/- DERIVED. The contract of sha.finish: some bytes and the padding, mixed into a state, as a digest. -/
namespace Go.Proofs.YtgkmbamoffolgaaDoor
open Go.RowKit
/-- a state's words, loaded and stored as a whole. -/
noncomputable def opLoad (v : Value) (w : World) : Result Next := (do pure (.value (← Instr.loadAt 77 v)) : Sem Next).run Tryd.prog w
noncomputable def opStore (v x : Value) (w : World) : Result Next := (do Instr.storeAt 77 v x; pure .skip : Sem Next).run Tryd.prog w
theorem exec_load24 (ρ : Operand → Value) (d : Option Tmp) (x : Operand) (t : TypeId) (p : String) (af : Array Edge) (gd : Option (Nat × Bool)) (w : World) :
    (execOp ρ { dst := d, op := Op.load 77 x, type := t, pos := p, after := af, guard := gd }).run Tryd.prog w = opLoad (ρ x) w := rfl
theorem exec_store24 (ρ : Operand → Value) (d : Option Tmp) (x y : Operand) (t : TypeId) (p : String) (af : Array Edge) (gd : Option (Nat × Bool)) (w : World) :
    (execOp ρ { dst := d, op := Op.store 77 x y, type := t, pos := p, after := af, guard := gd }).run Tryd.prog w = opStore (ρ x) (ρ y) w := rfl
theorem opLoad_eq {w : World} {g : Nat} {s : W8} (h : w.heap[g]? = some (.cells (u32s s.list) 77 (0, 0))) : opLoad (.pointer (some ⟨g, 0, none⟩)) w = .ok (.value (.agg (u32s s.list))) w := by
  unfold opLoad
  simp only [Instr.loadAt, Instr.sureAddr, Sem.run_bind, Sem.run_pure, Result.andThen_ok, run_loadVar_row w g 77 77 _ (0, 0) _ h Tryd.underlying77 rfl info24]
theorem opStore_eq {w : World} {g : Nat} {s t : W8} (h : w.heap[g]? = some (.cells (u32s s.list) 77 (0, 0))) : opStore (.pointer (some ⟨g, 0, none⟩)) (.agg (u32s t.list)) w = .ok .skip (w.setRow g (u32s t.list)) := by
  unfold opStore
  simp only [Instr.storeAt, Instr.sureAddr, Sem.run_bind, Sem.run_pure, Result.andThen_ok, run_storeVar_row w g 77 77 _ (u32s t.list) h info24 rfl (u32s_one _)]
attribute [irreducible] opLoad opStore
attribute [local go_sem ↓] exec_load24 exec_store24
/-- the state behind all blocks of the bytes. -/
def foldAll (s : W8) (L : List Int) : W8 := foldB s L (L.length / 64)
/-- what finish tells: the bytes L mixed into s, and the padding behind n bytes. -/
def fin (s : W8) (L : List Int) (n : Nat) : List Int := hashL (foldAll (foldAll s L) (L.drop (64 * (L.length / 64)) ++ padL n)).list
def zero32 : Array Value := #[.int .u8 0, .int .u8 0, .int .u8 0, .int .u8 0, .int .u8 0, .int .u8 0, .int .u8 0, .int .u8 0, .int .u8 0, .int .u8 0, .int .u8 0, .int .u8 0, .int .u8 0, .int .u8 0, .int .u8 0, .int .u8 0, .int .u8 0, .int .u8 0, .int .u8 0, .int .u8 0, .int .u8 0, .int .u8 0, .int .u8 0, .int .u8 0, .int .u8 0, .int .u8 0, .int .u8 0, .int .u8 0, .int .u8 0, .int .u8 0, .int .u8 0, .int .u8 0]
/-- what finish keeps: its own state's row, its result's row. -/
structure FInv (t : W8) (N : Nat) (w wr : World) : Prop where
  st : wr.heap[N]? = some (.cells (u32s t.list) 77 (0, 0))
  res : ∃ Z : Array Value, Z.size = 32 ∧ wr.heap[N + 1]? = some (.cells Z 23 (0, 0))
  low : Below N w wr
theorem FInv.size {t : W8} {N : Nat} {w wr : World} (h : FInv t N w wr) : N + 2 ≤ wr.heap.size := by
  obtain ⟨Z, _, hz⟩ := h.res
  have := (Array.getElem?_eq_some_iff.1 hz).1
  omega
theorem FInv.below {t : W8} {N : Nat} {w wr w' : World} (h : FInv t N w wr) (hb : Below wr.heap.size wr w') : FInv t N w w' := by
  have hs := h.size
  obtain ⟨Z, hZ, hz⟩ := h.res
  exact ⟨(hb.block _ (by omega)).trans h.st, ⟨Z, hZ, (hb.block _ (by omega)).trans hz⟩, h.low.trans (hb.mono (by omega))⟩
theorem FInv.drew {t : W8} {N : Nat} {w wr : World} (h : FInv t N w wr) : FInv t N w wr.drew := h.below ((Below.refl _ _).drew)
theorem FInv.alloc {t : W8} {N : Nat} {w wr : World} (h : FInv t N w wr) (o : Obj) : FInv t N w (wr.alloc o) := h.below ((Below.refl _ _).alloc (Nat.le_refl _) _)
theorem FInv.set {t : W8} {N : Nat} {w wr : World} (h : FInv t N w wr) (t' : W8) : FInv t' N w (wr.setRow N (u32s t'.list)) := by
  obtain ⟨Z, hZ, hz⟩ := h.res
  exact ⟨setRow_heap wr _ _ _ _ _ h.st, ⟨Z, hZ, by rw [setRow_other wr _ _ _ (by omega)]; exact hz⟩, below_setRow h.low (Nat.le_refl _) _⟩
theorem FInv.load {t : W8} {N : Nat} {w wr : World} (h : FInv t N w wr) : opLoad (.pointer (some ⟨N, 0, none⟩)) wr = .ok (.value (.agg (u32s t.list))) wr := opLoad_eq h.st
theorem FInv.store {t : W8} {N : Nat} {w wr : World} (h : FInv t N w wr) (t' : W8) : opStore (.pointer (some ⟨N, 0, none⟩)) (.agg (u32s t'.list)) wr = .ok .skip (wr.setRow N (u32s t'.list)) := opStore_eq h.st
theorem FInv.cells {a b c d e f g h : Int} {N : Nat} {w wr : World} (k : FInv ⟨a, b, c, d, e, f, g, h⟩ N w wr) :
    wr.cell? ⟨N, 0, none⟩ = some (.int .u32 a) ∧ wr.cell? ⟨N, 1, none⟩ = some (.int .u32 b) ∧ wr.cell? ⟨N, 2, none⟩ = some (.int .u32 c) ∧ wr.cell? ⟨N, 3, none⟩ = some (.int .u32 d) ∧
    wr.cell? ⟨N, 4, none⟩ = some (.int .u32 e) ∧ wr.cell? ⟨N, 5, none⟩ = some (.int .u32 f) ∧ wr.cell? ⟨N, 6, none⟩ = some (.int .u32 g) ∧ wr.cell? ⟨N, 7, none⟩ = some (.int .u32 h) ∧ N < wr.heap.size :=
  ⟨cell_row k.st 0, cell_row k.st 1, cell_row k.st 2, cell_row k.st 3, cell_row k.st 4, cell_row k.st 5, cell_row k.st 6, cell_row k.st 7, by have := k.size; omega⟩
theorem FInv.free {t : W8} {N : Nat} {w wr : World} (k : FInv t N w wr) :
    wr.frozen? ⟨N, 0, none⟩ = false ∧ wr.frozen? ⟨N, 1, none⟩ = false ∧ wr.frozen? ⟨N, 2, none⟩ = false ∧ wr.frozen? ⟨N, 3, none⟩ = false ∧ wr.frozen? ⟨N, 4, none⟩ = false ∧ wr.frozen? ⟨N, 5, none⟩ = false ∧ wr.frozen? ⟨N, 6, none⟩ = false ∧ wr.frozen? ⟨N, 7, none⟩ = false :=
  ⟨free_row k.st 0, free_row k.st 1, free_row k.st 2, free_row k.st 3, free_row k.st 4, free_row k.st 5, free_row k.st 6, free_row k.st 7⟩
/-- the same, the row whatever. -/
structure RInv (C : Array Value) (N : Nat) (w wr : World) : Prop where
  st : wr.heap[N]? = some (.cells C 77 (0, 0))
  res : ∃ Z : Array Value, Z.size = 32 ∧ wr.heap[N + 1]? = some (.cells Z 23 (0, 0))
  low : Below N w wr
theorem RInv.set {C : Array Value} {N : Nat} {w wr : World} (k : RInv C N w wr) (i : Nat) (v : Value) : RInv (C.setIfInBounds i v) N w (wr.setCell ⟨N, i, none⟩ v) := by
  obtain ⟨Z, hZ, hz⟩ := k.res
  exact ⟨heap_setCell_same _ _ _ _ _ _ k.st, ⟨Z, hZ, by rw [heap_setCell_other _ _ _ _ (by simp)]; exact hz⟩, k.low.setCell (by simp) _⟩
theorem eight_row (s : W8) (a b c d e f g h : Int) : ((((((((u32s s.list).setIfInBounds 0 (.int .u32 a)).setIfInBounds 1 (.int .u32 b)).setIfInBounds 2 (.int .u32 c)).setIfInBounds 3 (.int .u32 d)).setIfInBounds 4 (.int .u32 e)).setIfInBounds 5 (.int .u32 f)).setIfInBounds 6 (.int .u32 g)).setIfInBounds 7 (.int .u32 h) = u32s (W8.mk a b c d e f g h).list := by
  simp [u32s, W8.list]
theorem FInv.eight {s : W8} {N : Nat} {w wr : World} (k : FInv s N w wr) (a b c d e f g h : Int) :
    FInv ⟨a, b, c, d, e, f, g, h⟩ N w ((((((((wr.setCell ⟨N, 0, none⟩ (.int .u32 a)).setCell ⟨N, 1, none⟩ (.int .u32 b)).setCell ⟨N, 2, none⟩ (.int .u32 c)).setCell ⟨N, 3, none⟩ (.int .u32 d)).setCell ⟨N, 4, none⟩ (.int .u32 e)).setCell ⟨N, 5, none⟩ (.int .u32 f)).setCell ⟨N, 6, none⟩ (.int .u32 g)).setCell ⟨N, 7, none⟩ (.int .u32 h)) := by
  have r : RInv (u32s s.list) N w wr := ⟨k.st, k.res, k.low⟩
  have r8 := (((((((r.set 0 (.int .u32 a)).set 1 (.int .u32 b)).set 2 (.int .u32 c)).set 3 (.int .u32 d)).set 4 (.int .u32 e)).set 5 (.int .u32 f)).set 6 (.int .u32 g)).set 7 (.int .u32 h)
  rw [eight_row] at r8
  exact ⟨r8.st, r8.res, r8.low⟩
theorem byt_row {w : World} {g : Nat} {l : List Int} (h : w.heap[g]? = some (.cells (u8s l) 5 (0, 0))) : Byt w (some ⟨g, 0, none⟩) l.length l :=
  ⟨Nat.le_refl _, (fun h => by cases h), fun _ => ⟨g, 0, rfl, (Array.getElem?_eq_some_iff.1 h).1, fun j hj => by rw [Nat.zero_add, cell_row h, u8s_get l j hj]⟩⟩
theorem padF_in (n j : Nat) : 0 ≤ padF n j ∧ padF n j < 256 := by
  by_cases h : j < padLen n
  · by_cases h0 : j = 0
    · rw [h0, padF_zero]; omega
    · by_cases h1 : j < 1 + zeros n
      · rw [padF_mid n j h0 h1]; omega
      · have := padF_tail n (padLen n - 1 - j) (by unfold padLen; omega)
        rw [show padLen n - 1 - (padLen n - 1 - j) = j by omega] at this
        rw [this]; omega
  · have : padF n j = padF n j := rfl
    unfold padF
    split
    · omega
    · split
      · omega
      · omega
theorem padL_in (n : Nat) : InB (padL n) := by
  intro j
  by_cases h : j < padLen n
  · rw [← padL_getD n j h]; exact padF_in n j
  · rw [getD_out _ _ (by rw [padL_length]; omega)]; omega
set_option maxRecDepth 100000 in
set_option maxHeartbeats 2000000 in
theorem finish_any (s : W8) (L : List Int) (A : Option Addr) (c m n : Nat) (w : World) (hm : L.length = m) (hb : InB L) (hB : Byt w A c L) (hL : Laid w) (hn : n < 2305843009213693952) :
    Calls Tryd.prog 47 #[.agg (u32s s.list), .slice A m c, .int .u64 (n : Int)] w fun e' w' => e' = .returned (.agg (u8s (fin s L n))) ∧ Below w.heap.size w w' := by
  have Hm := Lib.hid hm
  have Hb := Lib.hid hb
  have HB := Lib.hid hB
  have HL := Lib.hid hL
  have Hn := Lib.hid hn
  have hsz := hL.sz
  have h2 := Lib.hid (two_new w (.cells (u32s s.list) 77))
  clear hm hb hB hL hn
  go_enter Tryd.func47, Tryd.ntmps47
  have i0 : ∀ Z : Array Value, Z.size = 32 → FInv s w.heap.size w ((w.alloc (.cells (u32s s.list) 77)).alloc (.cells Z 23)) := fun Z hZ => ⟨(h2.out _).1, ⟨Z, hZ, (h2.out _).2⟩, ((Below.refl _ _).alloc (Nat.le_refl _) _).alloc (by simp) _⟩
  have l0 := fun Z hZ => (i0 Z hZ).load
  have I0 := Lib.hid i0
  clear i0 h2
  have l0' := l0 zero32 rfl
  unfold zero32 at l0'
  clear l0
  go_wp2_with fail
  have i0 := I0.out zero32 rfl
  unfold zero32 at i0
  refine (mixBlocks_any s L A c m w _ Hm.out Hb.out HB.out i0.low (HL.out.below i0.low hsz)).mono ?_
  rintro e w1 ⟨A', c', rfl, byt1, low1⟩
  have i1 := i0.below low1
  have s1 := i1.store (foldB s L (m / 64))
  have j1 := (i1.set (foldB s L (m / 64)))
  obtain ⟨t, ht⟩ : ∃ t, t = foldB s L (m / 64) := ⟨_, rfl⟩
  rw [← ht] at s1 j1
  rw [← ht]
  obtain ⟨v1, hv1⟩ : ∃ v1, v1 = w1.setRow w.heap.size (u32s t.list) := ⟨_, rfl⟩
  rw [← hv1] at s1 j1
  have HT := Lib.hid ht
  have Byt1 := Lib.hid byt1
  have hs1 := j1.size
  clear ht hv1 byt1 i0 i1 low1 l0'
  go_wp2_with fail
  obtain ⟨ta, tb, tc, td, te, tf, tg, th⟩ := t
  obtain ⟨p0, p1, p2, p3, p4, p5, p6, p7, p8⟩ := j1.cells
  have hlow1 := Lib.hid j1.low
  have Hd : Hid ((L.drop (64 * (m / 64))).length = m % 64) := by show _ = _; rw [List.length_drop, Hm.out]; omega
  have hpl : padLen n ≤ 72 := by have := zeros_lt n; unfold padLen; omega
  have hpl2 : 0 < m % 64 + padLen n := by unfold padLen; omega
  have hmod : m % 64 ≤ 200000 := by omega
  go_region_with (first
    | (go_at_call 60; refine (padding_any n Hn.out _).mono ?_; rintro e w2 ⟨rfl, hp2, low2⟩; have j2 := j1.drew.below low2; obtain ⟨q0, q1, q2, q3, q4, q5, q6, q7, q8⟩ := j2.cells; have Hp2 := Lib.hid (byt_row hp2); clear hp2 low2)
    | (go_at_call 38; refine (concat_any A' (some ⟨v1.heap.size, 0, none⟩) c' (padLen n) w2.heap.size (m % 64) (padLen n) (L.drop (64 * (m / 64))) (padL n) _ Hd.out (padL_length n) hmod (by omega) hpl2 (Go.heap_alloc_new w2 _) (Byt1.out.below (j2.alloc _).low (Nat.le_refl _)) (by have := Hp2.out; rw [padL_length] at this; exact this.alloc _)).mono ?_; rintro e w3 ⟨g3, c3, rfl, byt3, low3⟩; have j3 := (j2.alloc _).below low3; obtain ⟨r0, r1, r2, r3, r4, r5, r6, r7, r8⟩ := j3.cells; have Byt3 := Lib.hid byt3; clear byt3 low3)
    | (go_at_call 59; refine (mixBlocks_any ⟨ta, tb, tc, td, te, tf, tg, th⟩ (L.drop (64 * (m / 64)) ++ padL n) (some ⟨g3, 0, none⟩) c3 (m % 64 + padLen n) w3 w3 (by rw [List.length_append, Hd.out, padL_length]) ((Hb.out.drop _).append (padL_in n)) Byt3.out (Below.refl _ _) (HL.out.below j3.low hsz)).mono ?_; rintro e w4 ⟨A4, c4, rfl, byt4, low4⟩; have j4 := j3.below low4; obtain ⟨y0, y1, y2, y3, y4, y5, y6, y7, y8⟩ := j4.cells; obtain ⟨z0, z1, z2, z3, z4, z5, z6, z7⟩ := j4.free; generalize hq : foldB _ _ _ = q; obtain ⟨qa, qb, qc, qd, qe, qf, qg, qh⟩ := q; have HQ := Lib.hid hq; simp only [u32s, W8.list, List.map_cons, List.map_nil]; clear hq byt4 low4))
  all_goals
    have f5 := j4.eight qa qb qc qd qe qf qg qh
    obtain ⟨w5, hw5⟩ : ∃ w5, w5 = ((((((((w4.setCell ⟨w.heap.size, 0, none⟩ (.int .u32 qa)).setCell ⟨w.heap.size, 1, none⟩ (.int .u32 qb)).setCell ⟨w.heap.size, 2, none⟩ (.int .u32 qc)).setCell ⟨w.heap.size, 3, none⟩ (.int .u32 qd)).setCell ⟨w.heap.size, 4, none⟩ (.int .u32 qe)).setCell ⟨w.heap.size, 5, none⟩ (.int .u32 qf)).setCell ⟨w.heap.size, 6, none⟩ (.int .u32 qg)).setCell ⟨w.heap.size, 7, none⟩ (.int .u32 qh)) := ⟨_, rfl⟩
    rw [← hw5] at f5 ⊢
    clear hw5 y0 y1 y2 y3 y4 y5 y6 y7 y8 z0 z1 z2 z3 z4 z5 z6 z7 r0 r1 r2 r3 r4 r5 r6 r7 r8 q0 q1 q2 q3 q4 q5 q6 q7 q8 p0 p1 p2 p3 p4 p5 p6 p7 p8 j1 j2 j3 j4
    obtain ⟨Z, hZ, hz⟩ := f5.res
    have Hz := Lib.hid hz
    have HZ := Lib.hid hZ
    have F5 := Lib.hid f5
    have H35 : Hid ((Tryd.prog.info? 23).map (·.size) = some (u8s (hashL (W8.mk qa qb qc qd qe qf qg qh).list)).size) := by show _ = _; rw [u8s_size, hashL_length]; exact info35
    have H8 : Hid ((Tryd.prog.info? 77).map (·.size) = some (u32s (W8.mk qa qb qc qd qe qf qg qh).list).size) := info24
    clear hz hZ f5
    go_wp2_with (first
      | (refine wpList_load_row rfl 77 (.tmp 3) rfl w.heap.size rfl 77 (u32s (W8.mk qa qb qc qd qe qf qg qh).list) (0, 0) _ F5.out.st Tryd.underlying77 rfl H8.out ?_)
      | (go_at_call 61; refine (hashOf_any (W8.mk qa qb qc qd qe qf qg qh).list rfl _).mono ?_; rintro e w6 ⟨rfl, low6⟩)
      | (refine wpList_store_row rfl 23 (.tmp 6) (.tmp 25) rfl (w.heap.size + 1) (u8s (hashL (W8.mk qa qb qc qd qe qf qg qh).list)) rfl rfl 23 Z ((low6.block _ (Array.getElem?_eq_some_iff.1 Hz.out).1).trans Hz.out) H35.out (by rw [u8s_size, hashL_length, HZ.out]) (u8s_one _) ?_))
    have hfin : hashL (W8.mk qa qb qc qd qe qf qg qh).list = fin s L n := by
      unfold fin foldAll
      rw [Hm.out, List.length_append, Hd.out, padL_length, ← HT.out, HQ.out]
    refine bodyPost_ret (v := .agg (u8s (hashL (W8.mk qa qb qc qd qe qf qg qh).list))) (results_cell_row rfl _ _ (w.heap.size + 1) 23 _ (0, 0) _ rfl (setRow_heap w6 _ _ _ _ _ ((low6.block _ (Array.getElem?_eq_some_iff.1 Hz.out).1).trans Hz.out)) Tryd.underlying23 rfl H35.out) rfl ?_
    rw [hfin]
    exact ⟨rfl, below_setRow (F5.out.low.trans (low6.mono F5.out.low.size)) (by omega) _⟩
end Go.Proofs.YtgkmbamoffolgaaDoor
/- DERIVED. The contract of sha.Sum: the digest of some bytes. -/
namespace Go.Proofs.YtgkmbamoffolgaaDoor
open Go.RowKit
/-- the digest of the bytes L. -/
def sumL (L : List Int) : List Int := fin S0 L L.length
set_option maxRecDepth 100000 in
set_option maxHeartbeats 1000000 in
theorem sum_any (L : List Int) (A : Option Addr) (c m : Nat) (w : World) (hm : L.length = m) (hb : InB L) (hB : Byt w A c L) (hL : Laid w) (hn : m < 2305843009213693952) :
    Calls Tryd.prog 37 #[.slice A m c] w fun e' w' => e' = .returned (.agg (u8s (sumL L))) ∧ Below w.heap.size w w' := by
  have Hm := Lib.hid hm
  have Hb := Lib.hid hb
  have HB := Lib.hid hB
  have HL := Lib.hid hL
  have Hn := Lib.hid hn
  have hsz := hL.sz
  have hw : (IntKind.u64.wrap (m : Int)) = m := by rw [show IntKind.u64.wrap (m : Int) = (m : Int) % 18446744073709551616 by simp [IntKind.wrap, IntKind.bits, IntKind.signed]]; omega
  have Hw := Lib.hid hw
  have low0 := Lib.hid ((Below.refl w.heap.size w).alloc (Nat.le_refl _) (.cells zero32 23))
  have new0 := Lib.hid (Go.heap_alloc_new w (.cells zero32 23))
  unfold zero32 at low0 new0
  clear hm hb hB hL hn hw
  have Hs : Hid (fin S0 L m = sumL L) := by show _ = _; unfold sumL; rw [Hm.out]
  go_enter Tryd.func37, Tryd.ntmps37
  have H35 : Hid ((Tryd.prog.info? 23).map (·.size) = some (u8s (fin S0 L m)).size) := by show _ = _; rw [u8s_size, fin, hashL_length]; exact info35
  go_wp2_with (first
    | (go_at_call 48; refine (start_any _ (HL.out.below low0.out hsz)).mono ?_; rintro e w1 ⟨rfl, low1⟩)
    | (go_at_call 47; rw [Hw.out]; refine (finish_any S0 L A c m m w1 Hm.out Hb.out (HB.out.below (low0.out.trans (low1.mono low0.out.size)) (Nat.le_refl _)) (HL.out.below (low0.out.trans (low1.mono low0.out.size)) hsz) Hn.out).mono ?_; rintro e w2 ⟨rfl, low2⟩; have hz := (low2.block _ (Nat.lt_of_lt_of_le (Array.getElem?_eq_some_iff.1 new0.out).1 low1.size)).trans ((low1.block _ (Array.getElem?_eq_some_iff.1 new0.out).1).trans new0.out); have Hz := Lib.hid hz; clear hz)
    | (refine wpList_store_row rfl 23 (.tmp 2) (.tmp 8) rfl w.heap.size (u8s (fin S0 L m)) rfl rfl 23 _ Hz.out H35.out (by rw [u8s_size, fin, hashL_length]; rfl) (u8s_one _) ?_))
  refine bodyPost_ret (v := .agg (u8s (fin S0 L m))) (results_cell_row rfl _ _ w.heap.size 23 _ (0, 0) _ rfl (setRow_heap w2 _ _ _ _ _ Hz.out) Tryd.underlying23 rfl H35.out) rfl ?_
  rw [Hs.out]
  exact ⟨rfl, below_setRow ((low0.out.trans (low1.mono low0.out.size)).trans (low2.mono (Nat.le_trans low0.out.size low1.size))) (Nat.le_refl _) _⟩
end Go.Proofs.YtgkmbamoffolgaaDoor
/- DERIVED. Texts as bytes; digests are bytes. -/
namespace Go.Proofs.YtgkmbamoffolgaaDoor
open Go.RowKit
def bytesOf (s : ByteArray) : List Int := s.data.toList.map fun b => (b.toNat : Int)
theorem bytesOf_length (s : ByteArray) : (bytesOf s).length = s.size := by rw [bytesOf, List.length_map, Array.length_toList]; rfl
theorem bytesOf_in (s : ByteArray) : InB (bytesOf s) := by
  intro j
  by_cases h : j < (bytesOf s).length
  · have h' : j < s.data.toList.length := by simpa [bytesOf] using h
    have e : (bytesOf s).getD j 0 = ((s.data.toList[j]).toNat : Int) := by simp [bytesOf, List.getD_eq_getElem?_getD, List.getElem?_map, List.getElem?_eq_getElem h']
    rw [e]
    have := (s.data.toList[j]).toNat_lt
    omega
  · rw [getD_out _ _ (Nat.le_of_not_lt h)]; omega
theorem hashL_in (l : List Int) : InB (hashL l) := by
  intro j
  by_cases h : j < 32
  · rw [← hashL_getD l j h]
    have hf := hashF_at l (j / 4)
    have h4 : j % 4 = 0 ∨ j % 4 = 1 ∨ j % 4 = 2 ∨ j % 4 = 3 := by omega
    rcases h4 with e | e | e | e
    · rw [show j = 4 * (j / 4) by omega, hf.1]; omega
    · rw [show j = 4 * (j / 4) + 1 by omega, hf.2.1]; omega
    · rw [show j = 4 * (j / 4) + 2 by omega, hf.2.2.1]; omega
    · rw [show j = 4 * (j / 4) + 3 by omega, hf.2.2.2]; omega
  · rw [getD_out _ _ (by rw [hashL_length]; omega)]; omega
theorem fin_in (s : W8) (L : List Int) (n : Nat) : InB (fin s L n) := hashL_in _
theorem sumL_in (L : List Int) : InB (sumL L) := fin_in _ _ _
theorem sumL_length (L : List Int) : (sumL L).length = 32 := hashL_length _
theorem byt_string (w : World) (s : ByteArray) : Byt (Lib.bytesWorld w 5 s) (some ⟨w.heap.size, 0, none⟩) (grownCap w s.size 0 5) (bytesOf s) := by
  refine ⟨by rw [bytesOf_length]; exact grownCap_ge _ _ _ _, (fun h => by cases h), fun _ => ⟨w.heap.size, 0, rfl, by rw [Lib.bytesWorld_size]; omega, fun j hj => ?_⟩⟩
  rw [bytesOf_length] at hj
  rw [Nat.zero_add, Lib.bytesWorld_cell w 5 s j hj]
  have h' : j < s.data.toList.length := by simpa using hj
  simp [bytesOf, List.getD_eq_getElem?_getD, List.getElem?_map, List.getElem?_eq_getElem h']
theorem below_string (w : World) (s : ByteArray) : Below w.heap.size w (Lib.bytesWorld w 5 s) := by
  refine ⟨?_, ?_, ?_, by rw [Lib.bytesWorld_size]; omega, fun k hk => Lib.bytesWorld_at_old w 5 s k hk⟩
  all_goals (simp only [Lib.bytesWorld, World.freeze]; rfl)
end Go.Proofs.YtgkmbamoffolgaaDoor
/- DERIVED. PLAIN MATHEMATICS: HMAC on lists of bytes. -/
namespace Go.Proofs.YtgkmbamoffolgaaDoor
open Go.RowKit
def pad64 (k : List Int) : List Int := k ++ List.replicate (64 - k.length) 0
def keyL (K : List Int) : List Int := if K.length ≤ 64 then K else sumL K
def blockL (K : List Int) : List Int := pad64 (keyL K)
def xorL (m : Int) (l : List Int) : List Int := l.map fun x => bits .xor .u8 x m
def hmacL (K T : List Int) : List Int := sumL (xorL 92 (blockL K) ++ sumL (xorL 54 (blockL K) ++ T))
theorem keyL_le (K : List Int) : (keyL K).length ≤ 64 := by
  unfold keyL
  split
  · assumption
  · rw [sumL_length]; omega
theorem pad64_length {k : List Int} (h : k.length ≤ 64) : (pad64 k).length = 64 := by simp [pad64]; omega
theorem blockL_length (K : List Int) : (blockL K).length = 64 := pad64_length (keyL_le K)
theorem xorL_length (m : Int) (l : List Int) : (xorL m l).length = l.length := by simp [xorL]
theorem hmacL_length (K T : List Int) : (hmacL K T).length = 32 := sumL_length _
theorem hmacL_in (K T : List Int) : InB (hmacL K T) := sumL_in _
theorem InB.zeros (n : Nat) : InB (List.replicate n 0) := by
  intro j
  by_cases h : j < n
  · simp [List.getD_eq_getElem?_getD, h]
  · rw [getD_out _ _ (by simp; omega)]; omega
theorem InB.keyL {K : List Int} (h : InB K) : InB (keyL K) := by
  unfold Go.Proofs.YtgkmbamoffolgaaDoor.keyL
  split
  · exact h
  · exact sumL_in _
theorem InB.blockL {K : List Int} (h : InB K) : InB (blockL K) := h.keyL.append (InB.zeros _)
theorem InB.xorL {l : List Int} (h : InB l) (m : Int) (h0 : 0 ≤ m) (h1 : m < 256) : InB (xorL m l) := by
  intro j
  by_cases hj : j < l.length
  · have := h j
    have e : (Go.Proofs.YtgkmbamoffolgaaDoor.xorL m l).getD j 0 = bits .xor .u8 (l.getD j 0) m := by simp [Go.Proofs.YtgkmbamoffolgaaDoor.xorL, List.getD_eq_getElem?_getD, hj]
    rw [e]
    exact xor_in _ _ this.1 this.2 h0 h1
  · rw [getD_out _ _ (by rw [xorL_length]; omega)]; omega
/-- bytes 0 behind a key of up to 64 bytes. -/
theorem blockL_zeros (K : List Int) (n : Nat) (h : K.length + n ≤ 64) : blockL (K ++ List.replicate n 0) = blockL K := by
  unfold blockL keyL
  rw [if_pos (by simp; omega), if_pos (by omega)]
  unfold pad64
  rw [List.append_assoc, List.replicate_append_replicate]
  simp
  omega
theorem zero64_eq : zero64 = u8s (List.replicate 64 0) := rfl
theorem splice_key (k : List Int) : (splice (vals (List.replicate 64 0)) 0 (vals k)).toArray = u8s (pad64 k) := by
  simp only [splice, List.take_zero, List.nil_append, Nat.zero_add, vals, List.map_replicate, List.drop_replicate, u8s, pad64, List.map_append, List.length_map]
end Go.Proofs.YtgkmbamoffolgaaDoor
/- DERIVED. The contract of hmac.blockOf: a key's block. -/
namespace Go.Proofs.YtgkmbamoffolgaaDoor
open Go.RowKit
theorem info79 : (Tryd.prog.info? 62).map (·.size) = some 64 := by kernel_rfl
/-- the copied key, as the block. -/
structure KInv (k : List Int) (N g : Nat) (w wr : World) : Prop where
  row : wr.heap[g]? = some (.cells (u8s (pad64 k)) 62 (0, 0))
  res : wr.heap[N]? = some (.cells zero64 62 (0, 0))
  low : Below N w wr
set_option maxRecDepth 100000 in
set_option maxHeartbeats 1000000 in
theorem block_short (K : List Int) (A : Option Addr) (c n : Nat) (w : World) (hn : K.length = n) (hB : Byt w A c K) (hs : n ≤ 64) :
    Calls Tryd.prog 35 #[.slice A n c] w fun e w' => e = .returned (.agg (u8s (pad64 K))) ∧ Below w.heap.size w w' := by
  have hs' : ¬ (64 : Int) < n := by omega
  have h2 := two_new w (.cells zero64 62) (.cells zero64 62)
  have b1 : Below w.heap.size w (w.alloc (.cells zero64 62)) := (Below.refl _ _).alloc (Nat.le_refl _) _
  have b2 : Below (w.heap.size + 1) (w.alloc (.cells zero64 62)) ((w.alloc (.cells zero64 62)).alloc (.cells zero64 62)) := (Below.refl _ _).alloc (by simp) _
  have hmin : (vals K).length = Nat.min n 64 := by rw [vals_length, hn]; exact (Nat.min_eq_left hs).symm
  have hpos : 0 < (vals K).length → ∃ ad, A = some ad ∧ ∀ j v, (vals K)[j]? = some v → ((w.alloc (.cells zero64 62)).alloc (.cells zero64 62)).cell? (ad.add j) = some v := by
    intro h
    rw [vals_length] at h
    obtain ⟨g, off, rfl, hg, hc⟩ := hB.2.2 h
    exact ⟨_, rfl, hB.cells (fun p hp => by rw [World.cell?_alloc_lt _ _ _ (by simp; omega), World.cell?_alloc_lt _ _ _ hp]) _ rfl⟩
  have Hmin := Lib.hid hmin
  have Hpos := Lib.hid hpos
  have hrow : ((w.alloc (.cells zero64 62)).alloc (.cells zero64 62)).heap[w.heap.size + 1]? = some (.cells (vals (List.replicate 64 0)).toArray 62 (0, 0)) := by
    rw [h2.2, zero64_eq]; rfl
  have Hrow := Lib.hid hrow
  have H1 := Lib.hid h2.1
  have B1 := Lib.hid b1
  have B2 := Lib.hid b2
  have Hn := Lib.hid hn
  have Hi : Hid ((Tryd.prog.info? 62).map (·.size) = some (u8s (pad64 K)).size) := by show _ = _; rw [u8s_size, pad64_length (by omega)]; exact info79
  unfold zero64 at Hpos Hrow H1 B1 B2
  clear h2 b1 b2 hmin hpos hrow hn hB
  go_enter Tryd.func35, Tryd.ntmps35
  go_wp2_with (first
    | (refine wpList_copy_splice rfl (.tmp 11) (.tmp 12) 24 24 rfl 5 Tryd.underlying24 info26 (some ⟨w.heap.size + 1, 0, none⟩) A 64 64 n c (by rfl) (by rfl) (w.heap.size + 1) 0 (vals (List.replicate 64 0)) 62 Hrow.out (vals K) Hmin.out (fun h => ⟨rfl, Hpos.out h⟩) (by rw [Hmin.out, vals_length, List.length_replicate, Nat.zero_add]; exact Nat.min_le_right _ _) (vals_one _) (w.heap.size + 1) _ B2.out (Nat.le_refl _) ?_; intro w2 h2 low2; have h3 := h2.out; rw [splice_key K] at h3; have H3 := Lib.hid h3; have H0 := Lib.hid ((low2.block _ (Nat.lt_succ_self _)).trans (Go.heap_alloc_new w _)); have Low := Lib.hid (B1.out.trans (low2.mono (Nat.le_succ _))); clear h2 h3 low2)
    | (refine wpList_load_row rfl 62 (.tmp 4) rfl (w.heap.size + 1) (by rfl) 62 (u8s (pad64 K)) (0, 0) _ H3.out Tryd.underlying62 rfl Hi.out ?_)
    | (refine wpList_store_row rfl 62 (.tmp 2) (.tmp 14) rfl w.heap.size (u8s (pad64 K)) (by rfl) (by rfl) 62 _ H0.out Hi.out (by rw [u8s_size, pad64_length (by rw [Hn.out]; exact hs)]; rfl) (u8s_one _) ?_))
  exact bodyPost_ret (v := .agg (u8s (pad64 K))) (results_cell_row rfl _ _ w.heap.size 62 _ (0, 0) _ rfl (setRow_heap w2 _ _ _ _ _ H0.out) Tryd.underlying62 rfl Hi.out) rfl ⟨rfl, below_setRow Low.out (Nat.le_refl _) _⟩
theorem long_row (w : World) (X : List Int) : ((w.alloc (.cells (u8s X) 23)).alloc (.cells zero64 62)).heap[w.heap.size + 1]? = some (.cells (vals (List.replicate 64 0)).toArray 62 (0, 0)) := by
  rw [(two_new w _ _).2, zero64_eq]; rfl
theorem long_src (w : World) (X : List Int) : ∀ j v, (vals X)[j]? = some v → ((w.alloc (.cells (u8s X) 23)).alloc (.cells zero64 62)).cell? ((⟨w.heap.size, 0, none⟩ : Addr).add j) = some v := by
  intro j v hv
  obtain ⟨hj, rfl⟩ := vals_get hv
  rw [Addr.add_mid, cell_row (two_new w _ _).1, Nat.zero_add, u8s_get _ _ hj]
theorem long_low (w : World) (X : List Int) : Below (w.heap.size + 1) (w.alloc (.cells (u8s X) 23)) ((w.alloc (.cells (u8s X) 23)).alloc (.cells zero64 62)) := (Below.refl _ _).alloc (by simp) _
set_option maxRecDepth 100000 in
set_option maxHeartbeats 1000000 in
theorem block_long (K : List Int) (A : Option Addr) (c n : Nat) (w : World) (hn : K.length = n) (hb : InB K) (hB : Byt w A c K) (hL : Laid w) (hs : 64 < n) (hx : n < 2305843009213693952) :
    Calls Tryd.prog 35 #[.slice A n c] w fun e w' => e = .returned (.agg (u8s (pad64 (sumL K)))) ∧ Below w.heap.size w w' := by
  have hs' : (64 : Int) < n := by omega
  have b1 : Below w.heap.size w (w.alloc (.cells zero64 62)) := (Below.refl _ _).alloc (Nat.le_refl _) _
  have H1 := Lib.hid (Go.heap_alloc_new w (.cells zero64 62))
  have B1 := Lib.hid b1
  have HS := Lib.hid (sum_any K A c n (w.alloc (.cells zero64 62)) hn hb (hB.below b1 (Nat.le_refl _)) (hL.below b1 hL.sz) hx)
  have Hl := Lib.hid (sumL_length K)
  obtain ⟨X, hX⟩ : ∃ X, X = sumL K := ⟨_, rfl⟩
  rw [← hX] at HS Hl ⊢
  have Hi : Hid ((Tryd.prog.info? 62).map (·.size) = some (u8s (pad64 X)).size) := by show _ = _; rw [u8s_size, pad64_length (by rw [Hl.out]; omega)]; exact info79
  have H35 : Hid ((Tryd.prog.info? 23).map (·.size) = some (u8s X).size) := by show _ = _; rw [u8s_size, Hl.out]; exact info35
  have Hmin : Hid ((vals X).length = Nat.min 32 64) := by show _ = _; rw [vals_length, Hl.out]; rfl
  unfold zero64 at HS H1 B1
  clear b1 hn hb hB hL hX
  go_enter Tryd.func35, Tryd.ntmps35
  go_wp2_with (first
    | (go_at_call 37; refine HS.out.mono ?_; rintro e w1 ⟨rfl, low1⟩; have R1 := Lib.hid ((low1.block _ (Array.getElem?_eq_some_iff.1 H1.out).1).trans H1.out); have Low1 := Lib.hid (B1.out.trans (low1.mono (by simp))); clear low1)
    | (refine wpList_store_row rfl 23 (.tmp 3) (.tmp 9) rfl w1.heap.size (u8s X) (by rfl) (by rfl) 23 _ (Go.heap_alloc_new w1 _) H35.out (by rw [u8s_size, Hl.out]; rfl) (u8s_one _) ?_; rw [World.setRow_alloc_new])
    | (refine wpList_copy_splice rfl (.tmp 11) (.tmp 12) 24 24 rfl 5 Tryd.underlying24 info26 (some ⟨w1.heap.size + 1, 0, none⟩) (some ⟨w1.heap.size, 0, none⟩) 64 64 32 32 (by rfl) (by rfl) (w1.heap.size + 1) 0 (vals (List.replicate 64 0)) 62 (long_row w1 X) (vals X) Hmin.out (fun _ => ⟨rfl, _, rfl, long_src w1 X⟩) (by rw [Hmin.out, vals_length, List.length_replicate, Nat.zero_add]; exact Nat.min_le_right _ _) (vals_one _) (w1.heap.size + 1) _ (long_low w1 X) (Nat.le_refl _) ?_; intro w2 h2 low2; have h3 := h2.out; rw [splice_key X] at h3; have H3 := Lib.hid h3; have H0 := Lib.hid ((low2.block _ (Nat.lt_succ_of_lt (Array.getElem?_eq_some_iff.1 R1.out).1)).trans ((Go.heap_alloc_old w1 _ (Array.getElem?_eq_some_iff.1 R1.out).1).trans R1.out)); have Low := Lib.hid ((Low1.out.alloc Low1.out.size _).trans (low2.mono (Nat.le_trans Low1.out.size (Nat.le_succ _)))); clear h2 h3 low2)
    | (refine wpList_load_row rfl 62 (.tmp 4) rfl (w1.heap.size + 1) (by rfl) 62 (u8s (pad64 X)) (0, 0) _ H3.out Tryd.underlying62 rfl Hi.out ?_)
    | (refine wpList_store_row rfl 62 (.tmp 2) (.tmp 14) rfl w.heap.size (u8s (pad64 X)) (by rfl) (by rfl) 62 _ H0.out Hi.out (by rw [u8s_size, pad64_length (by rw [Hl.out]; omega)]; rfl) (u8s_one _) ?_))
  exact bodyPost_ret (v := .agg (u8s (pad64 X))) (results_cell_row rfl _ _ w.heap.size 62 _ (0, 0) _ rfl (setRow_heap w2 _ _ _ _ _ H0.out) Tryd.underlying62 rfl Hi.out) rfl ⟨rfl, below_setRow Low.out (Nat.le_refl _) _⟩
/-- hmac.blockOf: what it returns. -/
theorem block_any (K : List Int) (A : Option Addr) (c n : Nat) (w : World) (hn : K.length = n) (hb : InB K) (hB : Byt w A c K) (hL : Laid w) (hx : n < 2305843009213693952) :
    Calls Tryd.prog 35 #[.slice A n c] w fun e w' => e = .returned (.agg (u8s (blockL K))) ∧ Below w.heap.size w w' := by
  by_cases hs : n ≤ 64
  · have h := block_short K A c n w hn hB hs
    unfold blockL keyL
    rw [if_pos (by omega)]
    exact h
  · have h := block_long K A c n w hn hb hB hL (by omega) hx
    unfold blockL keyL
    rw [if_neg (by omega)]
    exact h
end Go.Proofs.YtgkmbamoffolgaaDoor
