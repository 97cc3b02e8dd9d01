/- DERIVED. The contract of sha.mixBlocks: the whole blocks of some bytes, mixed into a state; the bytes that are left. -/
import Derived.Test.YtblgblhoolpmiaaDoorShaCat
import Derived.Laws.ResultCell
import Derived.Laws.CopyOwn
namespace Go.Proofs.YtblgblhoolpmiaaDoor
open Go.RowKit
/-- block number k of the bytes L. -/
def blk (L : List Int) (k : Nat) : List Int := (L.drop (64 * k)).take 64
/-- the state behind the first k blocks. -/
def foldB (s : W8) (L : List Int) : Nat → W8
  | 0 => s
  | k + 1 => mixK KW (foldB s L k) (blk L k)
theorem blk_length {L : List Int} {k : Nat} (h : 64 * k + 64 ≤ L.length) : (blk L k).length = 64 := by simp [blk]; omega
theorem InB.blk {L : List Int} (h : InB L) (k : Nat) : InB (blk L k) := (h.drop _).take _
def zero64 : Array Value := #[.int .u8 0, .int .u8 0, .int .u8 0, .int .u8 0, .int .u8 0, .int .u8 0, .int .u8 0, .int .u8 0, .int .u8 0, .int .u8 0, .int .u8 0, .int .u8 0, .int .u8 0, .int .u8 0, .int .u8 0, .int .u8 0, .int .u8 0, .int .u8 0, .int .u8 0, .int .u8 0, .int .u8 0, .int .u8 0, .int .u8 0, .int .u8 0, .int .u8 0, .int .u8 0, .int .u8 0, .int .u8 0, .int .u8 0, .int .u8 0, .int .u8 0, .int .u8 0, .int .u8 0, .int .u8 0, .int .u8 0, .int .u8 0, .int .u8 0, .int .u8 0, .int .u8 0, .int .u8 0, .int .u8 0, .int .u8 0, .int .u8 0, .int .u8 0, .int .u8 0, .int .u8 0, .int .u8 0, .int .u8 0, .int .u8 0, .int .u8 0, .int .u8 0, .int .u8 0, .int .u8 0, .int .u8 0, .int .u8 0, .int .u8 0, .int .u8 0, .int .u8 0, .int .u8 0, .int .u8 0, .int .u8 0, .int .u8 0, .int .u8 0, .int .u8 0]
theorem copied (cur : Array Value) (l : List Int) (h1 : cur.size = 64) (h2 : l.length = 64) : (cur.toList.take 0 ++ (vals l ++ cur.toList.drop (0 + (vals l).length))).toArray = u8s l := by
  have : cur.toList.drop (0 + (vals l).length) = [] := List.drop_eq_nil_of_le (by rw [vals_length]; simp; omega)
  rw [this]
  simp [u8s, vals]
structure MInv (s : W8) (L : List Int) (N k c : Nat) (A : Option Addr) (wb w wr : World) : Prop where
  byt : Byt wb A c (L.drop (64 * k))
  st : wr.heap[N]? = some (.cells (u32s (foldB s L k).list) 24 (0, 0))
  res : ∃ Z : Array Value, Z.size = 8 ∧ wr.heap[N + 1]? = some (.cells Z 24 (0, 0))
  low : Below N w wr
theorem info26 : (Tryd.prog.info? 5).map (·.size) = some 1 := by kernel_rfl

set_option maxRecDepth 100000 in
set_option maxHeartbeats 1000000 in
theorem mixBlocks_any (s : W8) (L : List Int) (A : Option Addr) (c n : Nat) (wb w : World) (hn : L.length = n) (hb : InB L) (hB : Byt wb A c L) (hwb : Below wb.heap.size wb w) (hL : Laid w) :
    Calls Tryd.prog 51 #[.agg (u32s s.list), .slice A n c] w fun e' w' => ∃ A' c', e' = .returned (.tuple #[.agg (u32s (foldB s L (n / 64)).list), .slice A' (n % 64) c']) ∧ Byt wb A' c' (L.drop (64 * (n / 64))) ∧ Below w.heap.size w w' := by
  have Hn := Lib.hid hn
  have Hb := Lib.hid hb
  have HB := Lib.hid hB
  have HL := Lib.hid hL
  have h2 := Lib.hid (two_new w (.cells (u32s s.list) 24))
  clear hn hb hB hL
  go_enter Tryd.func51, Tryd.ntmps51
  go_wp2
  go_loopw [1] (fun v wr => ∃ (k c' : Nat) (A' : Option Addr), 64 * k ≤ n ∧ v = .slice A' (n - 64 * k) c' ∧ MInv s L w.heap.size k c' A' wb w wr) (fun v _ => match v with | .slice _ m _ => m | _ => 0)
  case atStart => exact ⟨0, c, A, Nat.zero_le _, rfl, by simpa using HB.out, (h2.out _).1, ⟨_, rfl, (h2.out _).2⟩, ((Below.refl _ _).alloc (Nat.le_refl _) _).alloc (by simp) _⟩
  case round =>
    obtain ⟨k, c', A', hk, rfl, hinv⟩ := hrel
    clear h2
    by_cases hlt : 64 ≤ n - 64 * k
    · have hlen : (blk L k).length = 64 := blk_length (by have := Hn.out; omega)
      have hdl : (L.drop (64 * k)).length = n - 64 * k := by simp [Hn.out]
      obtain ⟨g, off, rfl, hg, hcell⟩ := hinv.byt.2.2 (by rw [hdl]; omega)
      have hcc := hinv.byt.1
      rw [hdl] at hcc
      have hwr := hinv.low.size
      have hwbs := hwb.size
      have hsz := HL.out.sz
      obtain ⟨w2, hw2⟩ : ∃ w2, w2 = wr.alloc (.cells (u8s (blk L k)) 25) := ⟨_, rfl⟩
      have low2 : Below w.heap.size w w2 := by rw [hw2]; exact hinv.low.alloc hwr _
      have hNlt : w.heap.size < wr.heap.size := (Array.getElem?_eq_some_iff.1 hinv.st).1
      have st2 : w2.heap[w.heap.size]? = some (.cells (u32s (foldB s L k).list) 24) := by rw [hw2]; exact (Go.heap_alloc_old wr _ hNlt).trans hinv.st
      have bl2 : w2.heap[wr.heap.size]? = some (.cells (u8s (blk L k)) 25) := by rw [hw2]; exact Go.heap_alloc_new wr _
      have hs2 : wr.heap.size + 1 = w2.heap.size := by rw [hw2]; simp
      have laid2 : Laid w2 := HL.out.below low2 hsz
      have Hsrc : Hid (∀ j v, (vals (blk L k))[j]? = some v → (wr.alloc (.cells zero64 25)).cell? ((⟨g, off, none⟩ : Addr).add j) = some v) := by
        intro j v hv
        obtain ⟨hj, rfl⟩ := vals_get hv
        rw [Addr.add_mid, World.cell?_alloc_past _ _ _ (by omega), hinv.low.cell (p := ⟨g, off + j, none⟩) (Nat.lt_of_lt_of_le hg hwb.size), hwb.cell (p := ⟨g, off + j, none⟩) hg, hcell j (by rw [hdl]; omega)]
        simp [blk, List.getD_eq_getElem?_getD, List.getElem?_drop, show j < 64 by omega]
      have Hlen := Lib.hid hlen
      have Hw2 := Lib.hid hw2
      have St2 := Lib.hid st2
      have Bl2 := Lib.hid bl2
      have Hcell := Lib.hid hcell
      have Hi8 : Hid ((Tryd.prog.info? 24).map (·.size) = some (u32s (foldB s L k).list).size) := info24
      have Hi64 : Hid ((Tryd.prog.info? 25).map (·.size) = some (u8s (blk L k)).size) := by show _ = _; rw [u8s_size, hlen]; exact info25
      have Hi8' : Hid ((Tryd.prog.info? 24).map (·.size) = some (u32s (foldB s L (k + 1)).list).size) := info24
      have Hmin : Hid ((vals (blk L k)).length = Nat.min (n - 64 * k) 64) := by show _ = _; rw [vals_length, hlen]; exact (Nat.min_eq_right hlt).symm
      have hst : w2.heap.size ≤ w2.heap.size := Nat.le_refl _
      clear hw2 st2 bl2 hcell hlen hdl hs2
      go_wp2_with (first
        | (refine wpList_copy_own rfl (.tmp 10) (.tmp 11) 26 26 rfl 5 Tryd.underlying26 info26 wr.heap.size 0 64 64 ⟨g, off, none⟩ (n - 64 * k) c' rfl rfl zero64 25 (Go.heap_alloc_new _ _) (vals (blk L k)) Hmin.out Hsrc.out (by rw [vals_length, Hlen.out]; decide) (vals_one _) ?_; rw [World.setRow_alloc_new, copied _ _ rfl Hlen.out, ← Hw2.out])
        | (refine wpList_load_row rfl 24 (.tmp 2) rfl w.heap.size rfl 24 (u32s (foldB s L k).list) (0, 0) _ St2.out Tryd.underlying24 rfl Hi8.out ?_)
        | (refine wpList_load_row rfl 25 (.tmp 6) rfl wr.heap.size rfl 25 (u8s (blk L k)) (0, 0) _ Bl2.out Tryd.underlying25 rfl Hi64.out ?_)
        | (go_at_call 10; refine (mix_any (foldB s L k) (blk L k) Hlen.out (Hb.out.blk k) _ laid2).mono ?_; rintro e w3 ⟨rfl, low3⟩)
        | (refine wpList_store_row rfl 24 (.tmp 2) (.tmp 15) rfl w.heap.size (u32s (foldB s L (k + 1)).list) rfl rfl 24 _ ((low3.block _ (Nat.lt_of_le_of_lt (Nat.le_refl _) (Array.getElem?_eq_some_iff.1 St2.out).1)).trans St2.out) Hi8'.out rfl (u32s_one _) ?_))
      go_roundw
      case rel =>
        have hw2 := Hw2.out
        have hcut := hinv.byt.cut (n := 64) (by simp [Hn.out]; omega)
        rw [List.drop_drop] at hcut
        refine ⟨k + 1, c' - 64, if c' = 64 then some ⟨g, off, none⟩ else some ⟨g, off + 64, none⟩, by omega, by rw [show n - 64 * (k + 1) = n - 64 * k - 64 by omega], ?_, ?_, ?_, ?_⟩
        · simpa [Addr.add_mid, Nat.mul_add, Nat.add_comm, Nat.add_left_comm] using hcut
        · exact setRow_heap w3 _ _ _ _ _ ((low3.block _ (Array.getElem?_eq_some_iff.1 St2.out).1).trans St2.out)
        · obtain ⟨Z, hZ, hz⟩ := hinv.res
          have hzlt := (Array.getElem?_eq_some_iff.1 hz).1
          refine ⟨Z, hZ, ?_⟩
          rw [setRow_other w3 _ _ _ (by omega), low3.block _ (by rw [hw2]; simp; omega), hw2]
          exact (Go.heap_alloc_old wr _ hzlt).trans hz
        · exact below_setRow (low2.trans (low3.mono low2.size)) (Nat.le_refl _) _
      case measure =>
        show n - 64 * k - 64 < n - 64 * k
        omega
    · have hk64 : k = n / 64 := by omega
      have hmod : n - 64 * k = n % 64 := by omega
      obtain ⟨Z, hZ, hz⟩ := hinv.res
      have byt := hinv.byt
      have low := hinv.low
      have St := Lib.hid hinv.st
      have Hz := Lib.hid hz
      have HZ := Lib.hid hZ
      have Hk64 := Lib.hid hk64
      have Hmod := Lib.hid hmod
      have Hi8 : Hid ((Tryd.prog.info? 24).map (·.size) = some (u32s (foldB s L k).list).size) := info24
      clear hz hZ hinv hk64 hmod
      go_wp2_with (first
        | (refine wpList_load_row rfl 24 (.tmp 2) rfl w.heap.size rfl 24 (u32s (foldB s L k).list) (0, 0) _ St.out Tryd.underlying24 rfl Hi8.out ?_)
        | (refine wpList_store_row rfl 24 (.tmp 4) (.tmp 18) rfl (w.heap.size + 1) (u32s (foldB s L k).list) rfl rfl 24 _ Hz.out Hi8.out HZ.out (u32s_one _) ?_))
      refine bodyPost_ret (v := .tuple #[.agg (u32s (foldB s L k).list), .slice A' (n - 64 * k) c']) (results_row_tmp rfl _ _ (w.heap.size + 1) 24 _ (0, 0) _ _ rfl rfl (setRow_heap wr _ _ _ _ _ Hz.out) Tryd.underlying24 rfl Hi8.out) rfl ?_
      rw [← Hk64.out, ← Hmod.out]
      have low' : Below w.heap.size w (wr.setRow (w.heap.size + 1) (u32s (foldB s L k).list)) := below_setRow low (by omega) _
      exact ⟨A', c', rfl, byt, low'⟩
end Go.Proofs.YtblgblhoolpmiaaDoor
