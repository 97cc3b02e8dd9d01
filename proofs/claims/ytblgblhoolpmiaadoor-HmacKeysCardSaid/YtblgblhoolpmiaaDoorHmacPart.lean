/- DERIVED. The contracts of hmac.appendPart and of the statements' own piece: a length, four bytes, and the bytes, behind others. -/
import Derived.Test.YtblgblhoolpmiaaDoorHmacKeep
namespace Go.Proofs.YtblgblhoolpmiaaDoor
open Go.RowKit lawAnybody
/-- a length as four bytes. -/
def lenL (m : Nat) : List Int := [(m : Int) / 16777216 % 256, (m : Int) / 65536 % 256, (m : Int) / 256 % 256, (m : Int) % 256]
def partL (M : List Int) : List Int := lenL M.length ++ M
theorem lenL_in (m : Nat) : InB (lenL m) := by
  intro j
  match j with
  | 0 => simp [lenL]; omega
  | 1 => simp [lenL]; omega
  | 2 => simp [lenL]; omega
  | 3 => simp [lenL]; omega
  | j + 4 => simp [lenL]
theorem partL_in {M : List Int} (h : InB M) : InB (partL M) := (lenL_in _).append h
theorem partL_length (M : List Int) : (partL M).length = 4 + M.length := by simp [partL, lenL]; omega
/-- what such a call leaves. -/
def Behind4 (base n m : Nat) (L M : List Int) (w : World) (e : Ending) (w' : World) : Prop :=
  ∃ v', e = .returned v' ∧ w'.ownsRow base 5 1 v' (n + (4 + m)) (vals (L ++ partL M)) ∧ ∀ B u, Below B u w → B ≤ base → Below B u w'
theorem byt_four (w : World) (a b c d : Int) : Byt (w.alloc (.cells #[.int .u8 a, .int .u8 b, .int .u8 c, .int .u8 d] 5)) (some ⟨w.heap.size, 0, none⟩) 4 [a, b, c, d] := byt_rowF (l := [a, b, c, d]) (fr := (0, 0)) (t := 5) (Go.heap_alloc_new w _) rfl
theorem lenL_small (m : Nat) (h : m ≤ 100000) : lenL m = [(m : Int) / 16777216, (m : Int) / 65536, (m : Int) / 256 % 256, (m : Int) % 256] := by
  unfold lenL
  rw [show (m : Int) / 16777216 % 256 = (m : Int) / 16777216 by omega, show (m : Int) / 65536 % 256 = (m : Int) / 65536 by omega]
theorem byt_len (w : World) (m : Nat) (h : m ≤ 100000) : Byt (w.alloc (.cells #[.int .u8 ((m : Int) / 16777216), .int .u8 ((m : Int) / 65536), .int .u8 ((m : Int) / 256 % 256), .int .u8 ((m : Int) % 256)] 5)) (some ⟨w.heap.size, 0, none⟩) 4 (lenL m) := by
  rw [lenL_small m h]; exact byt_four w _ _ _ _
set_option maxRecDepth 100000 in
set_option maxHeartbeats 1000000 in
theorem part_any (base : Nat) (v : Value) (n : Nat) (L : List Int) (A : Option Addr) (c m : Nat) (M : List Int) (wb w : World) (hown : w.ownsRow base 5 1 v n (vals L)) (hm : M.length = m) (hB : Byt wb A c M) (hwb : Below wb.heap.size wb w) (hbb : wb.heap.size ≤ base) (hs : n + 4 + m ≤ 100000) (hbase : base ≤ w.heap.size) :
    Calls Tryd.prog 43 #[v, .slice A m c] w (Behind4 base n m L M w) := by
  have Ho := Lib.hid hown
  have Hm := Lib.hid hm
  have HB := Lib.hid hB
  have Hwb := Lib.hid hwb
  have hmI : (m : Int) ≤ 100000 := by omega
  have hb4 := byt_len w m (by omega)
  clear hown hm hB hwb
  go_enter Tryd.func43, Tryd.ntmps43
  go_wp2_with (first
    | (at_builtin; refine wpList_append_byt rfl (.tmp 9) (.tmp 21) rfl base v n L rfl (own_below Ho.out ((Below.refl _ _).alloc (Nat.le_refl _) _)) (some ⟨w.heap.size, 0, none⟩) 4 4 (lenL m) rfl rfl hb4 (by omega) (Nat.le_trans hbase (by simp)) ?_; intro v1 w1 hown1 hlow1 _; have Own1 := Lib.hid hown1; have hs1 := (hlow1 base w ((Below.refl _ _).alloc hbase _) (Nat.le_refl _)).size; have Byt1 := Lib.hid (HB.out.below (hlow1 wb.heap.size wb (Hwb.out.alloc Hwb.out.size _) hbb) (Nat.le_refl _)); have Hlow1 := Lib.hid hlow1; clear hown1 hlow1 hb4)
    | (at_builtin; refine wpList_append_byt rfl (.tmp 23) (.tmp 24) rfl base v1 (n + 4) (L ++ lenL m) rfl Own1.out A m c M rfl Hm.out Byt1.out (by omega) (Nat.le_trans hbase hs1) ?_; intro v2 w2 hown2 hlow2 _; have Own2 := Lib.hid hown2; have Hlow2 := Lib.hid hlow2; clear hown2 hlow2))
  go_ret
  refine ⟨v2, rfl, ?_, fun B u hu hBb => Hlow2.out B u (Hlow1.out B u (hu.alloc (Nat.le_trans hBb hbase) _) hBb) hBb⟩
  have h := Own2.out
  rw [List.append_assoc] at h
  rw [show n + (4 + m) = n + 4 + m by omega, partL, Hm.out]
  exact h
end Go.Proofs.YtblgblhoolpmiaaDoor
