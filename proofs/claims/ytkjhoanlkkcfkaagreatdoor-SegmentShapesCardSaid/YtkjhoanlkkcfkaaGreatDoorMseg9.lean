/- DERIVED. Texts of ours, merged: XChaBackMath XSealSpec XSealFew XSealNum XChg XRegionCall XCopyChg XAppend. -/
import Derived.Test.YtkjhoanlkkcfkaaGreatDoorMseg8
import Derived.Laws.BytesArg
import Derived.Test.YtkjhoanlkkcfkaaGreatDoorMseg4
import Derived.Laws.CopyOwn
import Derived.Laws.IdiomCopy
import Derived.Test.YtkjhoanlkkcfkaaGreatDoorMseg5
import Derived.Test.YtkjhoanlkkcfkaaGreatDoorProg
import Derived.Maps.AppendAt
import Derived.Laws.AppendOwnNone
import Derived.OwnWalk
/- DERIVED. What a stream's stream is; a stream's beginning; a stream from a later block on. -/
namespace Go.Proofs.YtkjhoanlkkcfkaaGreatDoor.Cha
open Go.RowKit
theorem xor8_back {a k : Int} (h1 : 0 ≤ a) (h2 : a < 256) (h3 : 0 ≤ k) (h4 : k < 256) : bits .xor .u8 (bits .xor .u8 a k) k = a := by
  have hx : (0 : Int) ≤ bits .xor .u8 a k ∧ bits .xor .u8 a k < 256 := by
    rw [u8_xor a k h1 h2 h3 h4]
    have : a.toNat ^^^ k.toNat < 2 ^ 8 := Nat.xor_lt_two_pow (by omega) (by omega)
    omega
  rw [u8_xor _ k hx.1 hx.2 h3 h4, u8_xor a k h1 h2 h3 h4, Int.toNat_natCast, Nat.xor_assoc, Nat.xor_self, Nat.xor_zero]
  omega
theorem strF_in (K : List Int) (c : Int) (Nn L : List Int) (hL : InB L) (j : Nat) : 0 ≤ strF K c Nn L j ∧ strF K c Nn L j < 256 := by
  have ha := hL j
  have hk := blockL_in K (c + (j / 64 : Nat)) Nn (j % 64)
  unfold strF
  rw [u8_xor _ _ ha.1 ha.2 hk.1 hk.2]
  have : (L.getD j 0).toNat ^^^ ((blockL K (c + (j / 64 : Nat)) Nn).getD (j % 64) 0).toNat < 2 ^ 8 := Nat.xor_lt_two_pow (by omega) (by omega)
  omega
theorem streamL_in (K : List Int) (c : Int) (Nn L : List Int) (hL : InB L) : InB (streamL K c Nn L) := by
  intro j
  by_cases h : j < L.length
  · rw [streamL_getD _ _ _ _ _ h]; exact strF_in K c Nn L hL j
  · rw [getD_out _ _ (by rw [streamL_length]; omega)]; omega
theorem stream_twice (K : List Int) (c : Int) (Nn L : List Int) (hL : InB L) : streamL K c Nn (streamL K c Nn L) = L := by
  apply List.ext_getElem (by rw [streamL_length, streamL_length])
  intro j h1 h2
  have e1 : (streamL K c Nn (streamL K c Nn L))[j] = (streamL K c Nn (streamL K c Nn L)).getD j 0 := by simp [List.getD_eq_getElem?_getD, h1]
  have e2 : L[j] = L.getD j 0 := by simp [List.getD_eq_getElem?_getD, h2]
  rw [e1, e2, streamL_getD _ _ _ _ _ (by rw [streamL_length]; exact h2)]
  unfold strF
  rw [streamL_getD _ _ _ _ _ h2]
  exact xor8_back (hL j).1 (hL j).2 (blockL_in _ _ _ _).1 (blockL_in _ _ _ _).2
theorem stream_take (K : List Int) (c : Int) (Nn L : List Int) (k : Nat) (hk : k ≤ L.length) : streamL K c Nn (L.take k) = (streamL K c Nn L).take k := by
  apply List.ext_getElem?
  intro j
  rw [List.getElem?_take]
  unfold streamL
  rw [List.getElem?_map, List.getElem?_map, List.length_take]
  by_cases h : j < k
  · rw [if_pos h, List.getElem?_range (by rw [Nat.min_eq_left hk]; exact h), List.getElem?_range (by omega)]
    simp only [Option.map_some]
    unfold strF
    rw [show (L.take k).getD j 0 = L.getD j 0 by simp [List.getD_eq_getElem?_getD, h]]
  · rw [if_neg h, List.getElem?_eq_none (by rw [List.length_range, Nat.min_eq_left hk]; omega)]
    simp only [Option.map_none]
theorem stream_drop (K : List Int) (c : Int) (Nn L : List Int) (q : Nat) : streamL K (c + (q : Nat)) Nn (L.drop (64 * q)) = (streamL K c Nn L).drop (64 * q) := by
  apply List.ext_getElem?
  intro j
  rw [List.getElem?_drop]
  unfold streamL
  rw [List.getElem?_map, List.getElem?_map, List.length_drop]
  by_cases h : j < L.length - 64 * q
  · rw [List.getElem?_range h, List.getElem?_range (by omega)]
    simp only [Option.map_some]
    unfold strF
    rw [show (L.drop (64 * q)).getD j 0 = L.getD (64 * q + j) 0 by simp [List.getD_eq_getElem?_getD, List.getElem?_drop], show (64 * q + j) / 64 = q + j / 64 by omega, show (64 * q + j) % 64 = j % 64 by omega, show c + ((q : Nat) : Int) + ((j / 64 : Nat) : Int) = c + ((q + j / 64 : Nat) : Int) by omega]
  · rw [List.getElem?_eq_none (by simp; omega), List.getElem?_eq_none (by simp; omega)]
    simp only [Option.map_none]
/-- a slice of bytes as a text, empty ones let in. -/
theorem conv_any {w : World} {A : Option Addr} {c n : Nat} {L : List Int} (hB : Byt w A c L) (hn : L.length = n) : (convert 38 9 (.slice A n c)).run Tryz.prog w = .ok (.string (strOfNums L)) w := by
  by_cases h0 : 0 < n
  · obtain ⟨g, off, rfl, _, hc⟩ := hB.2.2 (by omega)
    exact run_convert_bytes_arg w 38 5 Tryz.underlying38 Tryz.underlying5 g off n c L hn (fun i hi => hc i (by omega)) 9 Tryz.underlying9
  · obtain rfl : n = 0 := by omega
    obtain rfl : L = [] := List.eq_nil_of_length_eq_zero hn
    cases A with
    | none => exact run_convert_bytes_nil w 38 5 Tryz.underlying38 Tryz.underlying5 0 c 9 Tryz.underlying9
    | some a =>
      rw [run_convert_bytes_string w 38 9 5 _ 0 c Tryz.underlying38 Tryz.underlying5 Tryz.underlying9]
      simp [Conv.bytesToString, loadCells, loadCellsFrom, strOfNums]
      rfl
/-- a slice's beginning. -/
theorem byt_take {w : World} {A : Option Addr} {c : Nat} {L : List Int} (h : Byt w A c L) (k : Nat) : Byt w A c (L.take k) := by
  obtain ⟨h1, h2, h3⟩ := h
  refine ⟨by rw [List.length_take]; omega, h2, fun h0 => ?_⟩
  rw [List.length_take] at h0
  obtain ⟨g, off, e, hg, hc⟩ := h3 (by omega)
  refine ⟨g, off, e, hg, fun j hj => ?_⟩
  rw [List.length_take] at hj
  rw [hc j (by omega)]
  simp [List.getD_eq_getElem?_getD, show j < k by omega]
theorem nbl_mono {a b : Nat} (h : a ≤ b) : nbl a ≤ nbl b := by unfold nbl; omega
theorem nbl_drop {n q : Nat} (h : 64 * q < n) : nbl n = q + nbl (n - 64 * q) := by unfold nbl; omega
theorem streamL_nil (K : List Int) (c : Int) (Nn : List Int) : streamL K c Nn [] = [] := rfl
end Go.Proofs.YtkjhoanlkkcfkaaGreatDoor.Cha
/- DERIVED. Sealed records (layer 11), on plain lists; no program but chapter 3's stream and chapter 2's tags. -/
namespace Go.Proofs.YtkjhoanlkkcfkaaGreatDoor.Seal
open Go.RowKit
/-- the bucket: at most k doublings are left. -/
def bkA (n : Nat) : Nat → Nat → Nat
  | 0, b => b
  | k + 1, b => if b < n + 4 then bkA n k (2 * b) else b
def bkt (n : Nat) : Nat := bkA n 11 64
def bktI (n : Int) : Int := if n < 0 ∨ 131068 < n then 0 else (bkt n.toNat : Int)
/-- what the loop keeps: k doublings are left. -/
def BkI (n b : Nat) : Prop := ∃ k, bkA n k b = bkt n ∧ b * 2 ^ k = 131072
theorem BkI.start (n : Nat) : BkI n 64 := ⟨11, rfl, by decide⟩
theorem BkI.next {n b : Nat} (h : BkI n b) (hb : b < n + 4) (hn : n ≤ 131068) : BkI n (2 * b) := by
  obtain ⟨k, hk, he⟩ := h
  cases k with
  | zero => simp at he; omega
  | succ k =>
    refine ⟨k, ?_, ?_⟩
    · rw [← hk]; show _ = (if b < n + 4 then _ else _); rw [if_pos hb]
    · rw [← he, Nat.pow_succ]; rw [Nat.mul_comm 2 b, Nat.mul_assoc, Nat.mul_comm 2]
theorem BkI.le {n b : Nat} (h : BkI n b) : b ≤ 131072 := by
  obtain ⟨k, _, he⟩ := h
  rw [← he]; exact Nat.le_mul_of_pos_right _ (Nat.two_pow_pos _)
theorem BkI.pos {n b : Nat} (h : BkI n b) : 0 < b := by
  obtain ⟨k, _, he⟩ := h
  rcases Nat.eq_zero_or_pos b with rfl | h
  · simp at he
  · exact h
theorem BkI.end {n b : Nat} (h : BkI n b) (hb : ¬ b < n + 4) : b = bkt n := by
  obtain ⟨k, hk, _⟩ := h
  cases k with
  | zero => exact hk
  | succ k => rw [← hk]; show _ = (if b < n + 4 then _ else _); rw [if_neg hb]
/-- what buckets are. -/
theorem bkt_is (n : Nat) (hn : n ≤ 131068) : n + 4 ≤ bkt n ∧ (∃ j, j < 12 ∧ bkt n = 64 * 2 ^ j) := by
  have go : ∀ k j b, b = 64 * 2 ^ j → j + k = 11 → n + 4 ≤ bkA n k b ∧ ∃ j, j < 12 ∧ bkA n k b = 64 * 2 ^ j := by
    intro k
    induction k with
    | zero => intro j b hb hj; obtain rfl : j = 11 := by omega
              refine ⟨?_, 11, by decide, hb⟩
              show n + 4 ≤ b
              rw [hb]; show n + 4 ≤ 131072; omega
    | succ k ih =>
      intro j b hb hj
      show n + 4 ≤ (if b < n + 4 then _ else _) ∧ ∃ j, j < 12 ∧ (if b < n + 4 then _ else _) = 64 * 2 ^ j
      by_cases h : b < n + 4
      · rw [if_pos h]
        exact ih (j + 1) (2 * b) (by rw [hb, Nat.pow_succ]; omega) (by omega)
      · rw [if_neg h]
        exact ⟨by omega, j, by omega, hb⟩
  exact go 11 0 64 rfl rfl
theorem bkt_ge {n : Nat} (hn : n ≤ 131068) : n + 4 ≤ bkt n := (bkt_is n hn).1
theorem bkt_le {n : Nat} (hn : n ≤ 131068) : bkt n ≤ 131072 ∧ 64 ≤ bkt n := by
  obtain ⟨_, j, hj, e⟩ := bkt_is n hn
  rw [e]
  have h1 : 2 ^ j ≤ 2 ^ 11 := Nat.pow_le_pow_right (by decide) (by omega)
  have h2 : 0 < 2 ^ j := Nat.two_pow_pos _
  exact ⟨by omega, by omega⟩
/-- the buckets: 64 to 131072. -/
def isBk (n : Int) : Prop := n = 64 ∨ n = 128 ∨ n = 256 ∨ n = 512 ∨ n = 1024 ∨ n = 2048 ∨ n = 4096 ∨ n = 8192 ∨ n = 16384 ∨ n = 32768 ∨ n = 65536 ∨ n = 131072
instance (n : Int) : Decidable (isBk n) := by unfold isBk; infer_instance
theorem bkt_bk {n : Nat} (hn : n ≤ 131068) : isBk (bkt n : Int) := by
  obtain ⟨_, j, hj, e⟩ := bkt_is n hn
  rw [e]
  obtain rfl | rfl | rfl | rfl | rfl | rfl | rfl | rfl | rfl | rfl | rfl | rfl : j = 0 ∨ j = 1 ∨ j = 2 ∨ j = 3 ∨ j = 4 ∨ j = 5 ∨ j = 6 ∨ j = 7 ∨ j = 8 ∨ j = 9 ∨ j = 10 ∨ j = 11 := by omega
  all_goals decide
theorem isBk_iff (n : Int) : isBk n ↔ 64 ≤ n ∧ bktI (n - 4) = n := by
  constructor
  · rintro (rfl | rfl | rfl | rfl | rfl | rfl | rfl | rfl | rfl | rfl | rfl | rfl) <;> decide
  · rintro ⟨h1, h2⟩
    unfold bktI at h2
    split at h2
    · omega
    · rename_i h3
      rw [← h2]
      exact bkt_bk (by omega)
/-- a number as so many bytes, the greatest first. -/
def numL (n : Nat) : Nat → List Int
  | 0 => []
  | k + 1 => ((n / 256 ^ k % 256 : Nat) : Int) :: numL n k
theorem numL_length (n k : Nat) : (numL n k).length = k := by
  induction k with
  | zero => rfl
  | succ k ih => simp [numL, ih]
theorem numL_in (n k : Nat) : InB (numL n k) := by
  induction k with
  | zero => intro j; simp [numL]
  | succ k ih =>
    intro j
    cases j with
    | zero => simp [numL]; omega
    | succ j => simpa [numL] using ih j
/-- the number of four bytes. -/
def be4 (L : List Int) : Int := L.getD 0 0 * 16777216 + L.getD 1 0 * 65536 + L.getD 2 0 * 256 + L.getD 3 0
theorem numL4 (n : Nat) : numL n 4 = [((n / 16777216 % 256 : Nat) : Int), ((n / 65536 % 256 : Nat) : Int), ((n / 256 % 256 : Nat) : Int), ((n % 256 : Nat) : Int)] := by
  simp [numL]
theorem be4_numL (n : Nat) (h : n < 4294967296) : be4 (numL n 4) = n := by
  rw [numL4]; simp [be4]; omega
theorem be4_in {L : List Int} (h : InB L) : 0 ≤ be4 L ∧ be4 L < 4294967296 := by
  have := h 0; have := h 1; have := h 2; have := h 3
  unfold be4; omega
theorem numL_be4 {L : List Int} (h : InB L) (hl : L.length = 4) : numL (be4 L).toNat 4 = L := by
  obtain ⟨a, b, c, d, rfl⟩ : ∃ a b c d, L = [a, b, c, d] := by
    match L, hl with
    | [a, b, c, d], _ => exact ⟨a, b, c, d, rfl⟩
  have h0 := h 0; have h1 := h 1; have h2 := h 2; have h3 := h 3
  simp at h0 h1 h2 h3
  rw [numL4]
  simp only [be4, List.getD_cons_zero, List.getD_cons_succ]
  congr 1
  · omega
  congr 1
  · omega
  congr 1
  · omega
  congr 1
  · omega
theorem getD_take4 {L : List Int} {n j : Nat} (h : j < n) : (L.take n).getD j 0 = L.getD j 0 := by
  simp [List.getD_eq_getElem?_getD, h]
theorem be4_take (L : List Int) : be4 (L.take 4) = be4 L := by
  unfold be4
  rw [getD_take4 (by decide), getD_take4 (by decide), getD_take4 (by decide), getD_take4 (by decide)]
def zeros (n : Nat) : List Int := List.replicate n 0
theorem zeros_in (n : Nat) : InB (zeros n) := by
  intro j; unfold zeros
  rw [List.getD_eq_getElem?_getD, List.getElem?_replicate]; split <;> simp
/-- the padded plaintext. -/
def padL (L : List Int) : List Int := numL L.length 4 ++ (L ++ zeros (bkt L.length - 4 - L.length))
theorem padL_length {L : List Int} (h : L.length ≤ 131068) : (padL L).length = bkt L.length := by
  have := bkt_ge h
  simp [padL, numL_length, zeros]; omega
theorem padL_in {L : List Int} (h : InB L) : InB (padL L) := (numL_in _ _).append (h.append (zeros_in _))
/-- the record whose padded plaintext it is. -/
def unpad (P : List Int) : Option (List Int) :=
  if bktI (be4 P) = P.length ∧ P.drop (4 + (be4 P).toNat) = zeros (P.length - (4 + (be4 P).toNat)) then some ((P.drop 4).take (be4 P).toNat) else none
theorem be4_pad (L : List Int) (h : L.length ≤ 131068) : be4 (padL L) = L.length := by
  have e : be4 (padL L) = be4 (numL L.length 4) := by
    rw [← be4_take]; unfold padL
    rw [List.take_append_of_le_length (by rw [numL_length]; exact Nat.le_refl _), List.take_of_length_le (by rw [numL_length]; exact Nat.le_refl _)]
  rw [e, be4_numL _ (by omega)]
theorem pad_drop4 (L : List Int) : (padL L).drop 4 = L ++ zeros (bkt L.length - 4 - L.length) := by
  unfold padL
  rw [List.drop_append_of_le_length (by rw [numL_length]; exact Nat.le_refl _), List.drop_of_length_le (by rw [numL_length]; exact Nat.le_refl _), List.nil_append]
theorem unpad_pad (L : List Int) (h : L.length ≤ 131068) : unpad (padL L) = some L := by
  have hg := bkt_ge h
  unfold unpad
  rw [be4_pad L h, padL_length h, Int.toNat_natCast, if_pos, pad_drop4, List.take_append_of_le_length (Nat.le_refl _), List.take_length]
  refine ⟨?_, ?_⟩
  · unfold bktI; rw [if_neg (by omega), Int.toNat_natCast]
  · rw [← List.drop_drop, pad_drop4, List.drop_append_of_le_length (Nat.le_refl _), List.drop_length, List.nil_append]
    congr 1; omega
theorem pad_unpad {P L : List Int} (hP : InB P) (h : unpad P = some L) : P = padL L ∧ L.length ≤ 131068 ∧ be4 P = L.length := by
  unfold unpad at h
  split at h
  · rename_i hc
    obtain ⟨h1, h2⟩ := hc
    cases h
    have hb := be4_in hP
    obtain ⟨n, hn⟩ : ∃ n : Nat, be4 P = n := ⟨(be4 P).toNat, by omega⟩
    rw [hn] at h1 h2 ⊢
    rw [Int.toNat_natCast] at h2 ⊢
    have hb1 : n ≤ 131068 := by
      unfold bktI at h1
      split at h1
      · exfalso
        have h0 : P = [] := List.eq_nil_of_length_eq_zero (by omega)
        subst h0
        have : be4 [] = 0 := by decide
        omega
      · omega
    have hbk : bkt n = P.length := by
      unfold bktI at h1
      rw [if_neg (by omega), Int.toNat_natCast] at h1; omega
    have hge := bkt_ge hb1
    have hl : ((P.drop 4).take n).length = n := by rw [List.length_take, List.length_drop]; omega
    refine ⟨?_, by omega, by rw [hl]⟩
    have h4 : P = P.take 4 ++ (P.drop 4) := (List.take_append_drop 4 P).symm
    unfold padL
    rw [hl, hbk]
    have e1 : numL n 4 = P.take 4 := by
      have := numL_be4 (L := P.take 4) (hP.take 4) (by rw [List.length_take]; omega)
      rw [be4_take, hn, Int.toNat_natCast] at this
      exact this
    rw [e1]
    have e2 : (P.drop 4).take n ++ zeros (P.length - 4 - n) = P.drop 4 := by
      have h3 : P.drop (4 + n) = (P.drop 4).drop n := by rw [List.drop_drop]
      rw [show P.length - 4 - n = P.length - (4 + n) by omega, ← h2, h3, List.take_append_drop]
    rw [e2, List.take_append_drop]
  · cases h
/-- a place's nonce; the keys; the body; the tag. -/
def nonceL (pos ep : Nat) : List Int := numL ep 4 ++ numL pos 8
theorem nonceL_length (pos ep : Nat) : (nonceL pos ep).length = 12 := by simp [nonceL, numL_length]
theorem nonceL_in (pos ep : Nat) : InB (nonceL pos ep) := (numL_in _ _).append (numL_in _ _)
def encName : List Int := [101, 110, 99, 114, 121, 112, 116]
def tagName : List Int := [116, 97, 103]
def keyL (k nm cx : List Int) : List Int := hmacL k (partL nm ++ partL cx)
def bodyL (k cx : List Int) (pos ep : Nat) (P : List Int) : List Int := Cha.streamL (keyL k encName cx) 1 (nonceL pos ep) P
def taggedL (cx : List Int) (pos ep : Nat) (B : List Int) : List Int := numL cx.length 4 ++ cx ++ numL pos 8 ++ numL ep 4 ++ B
def tagL (k cx : List Int) (pos ep : Nat) (B : List Int) : List Int := hmacL (keyL k tagName cx) (taggedL cx pos ep B)
def sealL (k cx : List Int) (pos ep : Nat) (L : List Int) : List Int := numL ep 4 ++ bodyL k cx pos ep (padL L) ++ tagL k cx pos ep (bodyL k cx pos ep (padL L))
/-- what is opened: none is ErrTamper. -/
def openL (k cx : List Int) (pos : Nat) (S : List Int) : Option (List Int × Nat) :=
  if isBk ((S.length : Int) - 36) then
    if tagL k cx pos (be4 S).toNat ((S.drop 4).take (S.length - 36)) = S.drop (S.length - 32) then
      (unpad (bodyL k cx pos (be4 S).toNat ((S.drop 4).take (S.length - 36)))).map fun L => (L, (be4 S).toNat)
    else none
  else none
end Go.Proofs.YtkjhoanlkkcfkaaGreatDoor.Seal
/- DERIVED. The contracts of seal.Bucket, Most, isBucket, read. -/
namespace Go.Proofs.YtkjhoanlkkcfkaaGreatDoor.Seal
open Go.RowKit
theorem most_any (w : World) : Calls Tryz.prog 87 #[] w fun e w' => e = .returned (.int .i64 131068) ∧ w = w' := by
  go_enter Tryz.func87, Tryz.ntmps87
  go_wp2
  go_ret
  exact ⟨rfl, rfl⟩
theorem ret_i64 {a b : Int} (h : a = b) : Ending.returned (.int .i64 a) = .returned (.int .i64 b) := by rw [h]
set_option maxRecDepth 100000 in
theorem bucket_any (n : Int) (w : World) : Calls Tryz.prog 88 #[.int .i64 n] w fun e w' => e = .returned (.int .i64 (bktI n)) ∧ w = w' := by
  by_cases h0 : n < 0
  · have e : Hid (0 = bktI n) := by unfold Hid bktI; rw [if_pos (Or.inl h0)]
    go_enter Tryz.func88, Tryz.ntmps88
    go_wp2
    go_ret
    exact ⟨ret_i64 e.out, rfl⟩
  by_cases h1 : 131068 < n
  · have e : Hid (0 = bktI n) := by unfold Hid bktI; rw [if_pos (Or.inr h1)]
    go_enter Tryz.func88, Tryz.ntmps88
    go_wp2_with (go_at_call 87; refine (most_any _).mono ?_; rintro e w' ⟨rfl, rfl⟩)
    go_ret
    exact ⟨ret_i64 e.out, rfl⟩
  obtain ⟨m, rfl⟩ : ∃ m : Nat, n = m := ⟨n.toNat, by omega⟩
  have hm : m ≤ 131068 := by omega
  have E : Hid (((bkt m : Nat) : Int) = bktI m) := by unfold Hid bktI; rw [if_neg (by omega), Int.toNat_natCast]
  have h1' : ¬ (131068 < (m : Int)) := by omega
  go_enter Tryz.func88, Tryz.ntmps88
  go_upto_region 4 with (go_at_call 87; refine (most_any _).mono ?_; rintro e w' ⟨rfl, rfl⟩)
  go_loopw [3] (fun v wr => ∃ b : Nat, v = .int .i64 b ∧ Hid (BkI m b) ∧ wr = w) (fun v _ => 131072 - (intOf v).toNat)
  case atStart => exact ⟨64, rfl, BkI.start m, rfl⟩
  case round =>
    obtain ⟨b, rfl, hb, rfl⟩ := hrel
    have hle := hb.out.le
    have hps := hb.out.pos
    have hmI : (m : Int) ≤ 131068 := by omega
    have hbI : (b : Int) ≤ 131072 := by omega
    by_cases hlt : b < m + 4
    · have hltI : (b : Int) < 4 + (m : Int) := by omega
      have Hn := Lib.hid (hb.out.next hlt hm)
      have hn2 := Hn.out.le
      have hn2I : 2 * (b : Int) ≤ 131072 := by omega
      go_wp2
      refine ⟨⟨2 * b, by go_num, Hn.out, trivial⟩, by simp [intOf]; omega⟩
    · have hltI : ¬ (b : Int) < 4 + (m : Int) := by omega
      have He := Lib.hid (hb.out.end hlt)
      go_wp2
      go_ret
      exact ⟨ret_i64 (by rw [He.out, E.out]), rfl⟩
theorem isBk_pos {n : Int} (h : isBk n) : 64 ≤ n ∧ n ≤ 131072 ∧ bktI (n - 4) = n := by
  refine ⟨((isBk_iff n).1 h).1, ?_, ((isBk_iff n).1 h).2⟩
  rcases h with rfl | rfl | rfl | rfl | rfl | rfl | rfl | rfl | rfl | rfl | rfl | rfl <;> decide
set_option maxRecDepth 100000 in
theorem isBucket_any (n : Int) (h1 : -36 ≤ n) (hmx : n ≤ 9223372036854775807) (w : World) : Calls Tryz.prog 109 #[.int .i64 n] w fun e w' => e = .returned (.bool (decide (isBk n))) ∧ w = w' := by
  by_cases h0 : n < 64
  · have e : decide (isBk n) = false := decide_eq_false fun h => by have := isBk_pos h; omega
    rw [e]
    have h0' : ¬ (64 : Int) ≤ n := by omega
    go_enter Tryz.func109, Tryz.ntmps109
    go_wp2
    go_ret
    exact ⟨rfl, rfl⟩
  have h0' : (64 : Int) ≤ n := by omega
  obtain ⟨z, hz⟩ : ∃ z, z = bktI (n - 4) := ⟨_, rfl⟩
  have hb : Hid (∀ w, Calls Tryz.prog 88 #[.int .i64 (n - 4)] w fun e w' => e = .returned (.int .i64 z) ∧ w = w') := fun w => by rw [hz]; exact bucket_any (n - 4) w
  have e : decide (isBk n) = decide (z = n) := by
    have := isBk_iff n
    rw [← hz] at this
    by_cases h2 : z = n
    · rw [decide_eq_true h2, decide_eq_true (this.2 ⟨h0', h2⟩)]
    · rw [decide_eq_false h2, decide_eq_false fun h => h2 (this.1 h).2]
  rw [e]
  clear e hz
  by_cases h2 : z = n
  · subst h2
    rw [decide_eq_true rfl]
    go_enter Tryz.func109, Tryz.ntmps109
    go_wp2_with (go_at_call 88; refine (hb.out _).mono ?_; rintro e w' ⟨rfl, rfl⟩)
    go_ret
    simp
  · rw [decide_eq_false h2]
    have hne : (z == n) = false := beq_eq_false_iff_ne.2 h2
    go_enter Tryz.func109, Tryz.ntmps109
    go_wp2_with (go_at_call 88; refine (hb.out _).mono ?_; rintro e w' ⟨rfl, rfl⟩)
    go_ret
    simp
end Go.Proofs.YtkjhoanlkkcfkaaGreatDoor.Seal
/- DERIVED. The contracts of seal.number and seal.read. -/
namespace Go.Proofs.YtkjhoanlkkcfkaaGreatDoor.Seal
open Go.RowKit
theorem info8 : (Tryz.prog.info? 5).map (fun i => (i.zero, i.size, i.bytes)) = some (some (.int .u8 0), 1, 1) := by kernel_rfl
theorem made_zeros (n : Nat) : madeCells (Value.cells (.int .u8 0)) n = u8s (zeros n) := by
  apply Array.ext_getElem?
  intro j
  by_cases h : j < n
  · simp [madeCells, u8s, zeros, h, Value.cells, Nat.mod_one]
  · simp [madeCells, u8s, zeros, h]
theorem mk_any (n : Nat) (hn : n ≤ 4294967296) (w : World) : (Instr.makeSlice 38 (.int .i64 n) (.int .i64 n)).run Tryz.prog w = .ok (.slice (some ⟨w.heap.size, 0, none⟩) n n) (w.alloc (.cells (u8s (zeros n)) 5)) := by
  obtain ⟨i0, hi, hz0, hz1, hz2⟩ := info_parts info8
  have h := run_make (P := Tryz.prog) w 38 5 i0 (.int .u8 0) Tryz.underlying38 hi hz0 .i64 .i64 n n (by omega) (by omega) (by rw [hz2]; omega) (by omega)
  rw [hz1] at h
  rw [h, Int.toNat_natCast, Nat.mul_one, made_zeros]
/-- what the loop has written behind i rounds. -/
def numI (n k i : Nat) : List Int := zeros (k - i) ++ numL n i
theorem numI_length {n k i : Nat} (h : i ≤ k) : (numI n k i).length = k := by simp [numI, zeros, numL_length]; omega
theorem numI_set {n k i : Nat} (h : i < k) : (numI n k i).set (k - 1 - i) ((n / 256 ^ i % 256 : Nat) : Int) = numI n k (i + 1) := by
  unfold numI zeros
  obtain ⟨m, hm⟩ : ∃ m, k - i = m + 1 := ⟨k - i - 1, by omega⟩
  rw [hm, show k - 1 - i = m by omega, show k - (i + 1) = m by omega, List.replicate_succ', List.append_assoc, List.set_append_right _ _ (by simp), List.length_replicate, Nat.sub_self]
  rfl
theorem shr_wrap (n i : Nat) : (n : Int) / 2 ^ (8 * i) % 256 = ((n / 256 ^ i % 256 : Nat) : Int) := by
  have e : (2 : Int) ^ (8 * i) = ((256 ^ i : Nat) : Int) := by
    rw [Int.pow_mul]; simp
  rw [e]; omega
set_option maxRecDepth 100000 in
set_option maxHeartbeats 1000000 in
theorem number_any (n k : Nat) (hk : k ≤ 8) (hn : n < 18446744073709551616) (w : World) : Calls Tryz.prog 93 #[.int .u64 (n : Int), .int .i64 (k : Int)] w fun e w' => e = .returned (.slice (some ⟨w.heap.size, 0, none⟩) k k) ∧ w'.heap[w.heap.size]? = some (.cells (u8s (numL n k)) 5 (0, 0)) ∧ Below w.heap.size w w' := by
  have km := Lib.hid (fun w => mk_any k (by omega) w)
  have hkI : (k : Int) ≤ 8 := by omega
  have hnI : (n : Int) < 18446744073709551616 := by omega
  go_enter Tryz.func93, Tryz.ntmps93
  have km0 := km.out w
  go_upto_region 3 with (fail)
  have r0 := Go.heap_alloc_new w (.cells (u8s (zeros k)) 5)
  have b0 : Below w.heap.size w (w.alloc (.cells (u8s (zeros k)) 5)) := (Below.refl _ _).alloc (Nat.le_refl _) _
  have s0 : w.heap.size < (w.alloc (.cells (u8s (zeros k)) 5)).heap.size := by rw [World.size_alloc]; omega
  clear km0 km
  generalize w.alloc _ = w0 at r0 b0 s0 ⊢
  go_loopw [11] (fun v wr => ∃ i : Nat, i ≤ k ∧ v = .int .i64 i ∧ Hid (wr.heap[w.heap.size]? = some (.cells (u8s (numI n k i)) 5 (0, 0))) ∧ Hid (Below w.heap.size w wr)) (fun v _ => k - (intOf v).toNat)
  case atStart => exact ⟨0, Nat.zero_le _, rfl, by show _ = _; rw [r0]; simp [numI, numL], b0⟩
  case round =>
    obtain ⟨i, hi, rfl, hr, hb⟩ := hrel
    clear r0 b0 s0
    by_cases hlt : i < k
    · have hltI : (i : Int) < (k : Int) := by omega
      obtain ⟨j, hj⟩ : ∃ j, j = k - 1 - i := ⟨_, rfl⟩
      have e : (k : Int) - 1 - (i : Int) = (j : Int) := by omega
      have hjk : (j : Int) < (k : Int) := by omega
      have hjn : j < k := by omega
      have hset := numI_set (n := n) hlt
      rw [← hj] at hset
      have hsh := shr_wrap n i
      obtain ⟨d, hd⟩ : ∃ d : Int, d = ((n / 256 ^ i % 256 : Nat) : Int) := ⟨_, rfl⟩
      rw [← hd] at hset hsh
      have hc := row8_cell hr.out j (by rw [numI_length hi]; exact hjn)
      have hf := free_row hr.out j
      have Hr2 := row8_set hr.out j d
      rw [hset] at Hr2
      have HR := Lib.hid Hr2
      have Hset := Lib.hid hset
      have hiI : (i : Int) < 8 := by omega
      clear Hr2 hset hd hj
      have Hsh := Lib.hid hsh
      clear hsh
      go_wp2
      rw [Hsh.out]
      exact ⟨⟨i + 1, by omega, by go_num, HR.out, Below.setCell (p := ⟨w.heap.size, j, none⟩) hb.out (Nat.le_refl _) _⟩, by simp [intOf]; omega⟩
    · have hltI : ¬ (i : Int) < (k : Int) := by omega
      obtain rfl : i = k := by omega
      go_wp2
      go_ret
      exact ⟨rfl, by have := hr.out; rwa [numI, Nat.sub_self, zeros, List.replicate_zero, List.nil_append] at this, hb.out⟩
theorem or_shift8 (a b i : Nat) (hb : b < 2 ^ i) : a * 2 ^ i ||| b = a * 2 ^ i + b := by
  have h := Nat.shiftLeft_add_eq_or_of_lt hb a
  rw [Nat.shiftLeft_eq] at h
  exact h.symm
theorem u32_sum8 (a b i : Nat) (hb : b < 2 ^ i) (ha : a * 2 ^ i < 4294967296) (hb2 : b < 4294967296) : bits .or .u32 ((a * 2 ^ i : Nat) : Int) (b : Int) = ((a * 2 ^ i + b : Nat) : Int) := by
  rw [u32_or_nat _ _ ha hb2, or_shift8 a b i hb]
theorem word4_be (a b c d : Int) (ha : 0 ≤ a ∧ a < 256) (hb : 0 ≤ b ∧ b < 256) (hc : 0 ≤ c ∧ c < 256) (hd : 0 ≤ d ∧ d < 256) : word4 a b c d = a * 16777216 + b * 65536 + c * 256 + d := by
  obtain ⟨A, rfl⟩ := Int.eq_ofNat_of_zero_le ha.1
  obtain ⟨B, rfl⟩ := Int.eq_ofNat_of_zero_le hb.1
  obtain ⟨C, rfl⟩ := Int.eq_ofNat_of_zero_le hc.1
  obtain ⟨D, rfl⟩ := Int.eq_ofNat_of_zero_le hd.1
  have h1 := u32_sum8 A (B * 65536) 24 (by omega) (by omega) (by omega)
  have h2 := u32_sum8 (A * 256 + B) (C * 256) 16 (by omega) (by omega) (by omega)
  have h3 := u32_sum8 ((A * 256 + B) * 256 + C) D 8 (by omega) (by omega) (by omega)
  unfold word4
  rw [show ((A : Int) * 16777216) = ((A * 2 ^ 24 : Nat) : Int) by omega, show ((B : Int) * 65536) = ((B * 65536 : Nat) : Int) by omega, h1,
    show ((A * 2 ^ 24 + B * 65536 : Nat) : Int) = (((A * 256 + B) * 2 ^ 16 : Nat) : Int) by omega, show ((C : Int) * 256) = ((C * 256 : Nat) : Int) by omega, h2,
    show (((A * 256 + B) * 2 ^ 16 + C * 256 : Nat) : Int) = ((((A * 256 + B) * 256 + C) * 2 ^ 8 : Nat) : Int) by omega, h3]
  omega
theorem read_cells (g off len cap : Nat) (a b c d : Int) (hl : 4 ≤ len) (w : World)
    (h0 : w.cell? ⟨g, off, none⟩ = some (.int .u8 a)) (h1 : w.cell? ⟨g, off + 1, none⟩ = some (.int .u8 b)) (h2 : w.cell? ⟨g, off + 2, none⟩ = some (.int .u8 c)) (h3 : w.cell? ⟨g, off + 3, none⟩ = some (.int .u8 d))
    (ha : 0 ≤ a ∧ a < 256) (hb : 0 ≤ b ∧ b < 256) (hc : 0 ≤ c ∧ c < 256) (hd : 0 ≤ d ∧ d < 256) :
    Calls Tryz.prog 110 #[.slice (some ⟨g, off, none⟩) len cap] w fun e w' => e = .returned (.int .u32 (word4 a b c d)) ∧ ∃ n, w' = w.drewN n := by
  obtain ⟨ha0, ha1⟩ := ha
  obtain ⟨hb0, hb1⟩ := hb
  obtain ⟨hc0, hc1⟩ := hc
  obtain ⟨hd0, hd1⟩ := hd
  have l0 : (0 : Int) < len := by omega
  have l1 : (1 : Int) < len := by omega
  have l2 : (2 : Int) < len := by omega
  have l3 : (3 : Int) < len := by omega
  go_enter Tryz.func110, Tryz.ntmps110
  go_wp2
  go_quiet (fail)
  go_wp2
  go_ret
  exact ⟨rfl, nq, rfl⟩
/-- read of a slice of four bytes or more. -/
theorem read_any (A : Option Addr) (n cap : Nat) (L : List Int) (w : World) (hB : Byt w A cap L) (hn : 4 ≤ n) (hl : 4 ≤ L.length) (hb : InB L) :
    Calls Tryz.prog 110 #[.slice A n cap] w fun e w' => e = .returned (.int .u32 (be4 L)) ∧ Below w.heap.size w w' := by
  obtain ⟨g, off, rfl, hg, hc⟩ := hB.2.2 (by omega)
  have h := read_cells g off n cap _ _ _ _ hn w (hc 0 (by omega)) (hc 1 (by omega)) (hc 2 (by omega)) (hc 3 (by omega)) (hb 0) (hb 1) (hb 2) (hb 3)
  refine h.mono ?_
  rintro e w' ⟨rfl, q, rfl⟩
  refine ⟨?_, Below.drewN (Below.refl _ _) q⟩
  rw [word4_be _ _ _ _ (hb 0) (hb 1) (hb 2) (hb 3)]
  rfl
end Go.Proofs.YtkjhoanlkkcfkaaGreatDoor.Seal
/- DERIVED. Blocks that were there are as they were, but for some. No program. -/
namespace Go.Proofs.YtkjhoanlkkcfkaaGreatDoor
open Go.RowKit
structure Chg (S : List Nat) (w w' : World) : Prop where
  os : w'.os = w.os
  tape : w'.tape = w.tape
  output : w'.output = w.output
  size : w.heap.size ≤ w'.heap.size
  block : ∀ k, k < w.heap.size → k ∉ S → w'.heap[k]? = w.heap[k]?
theorem Chg.refl (S : List Nat) (w : World) : Chg S w w := ⟨rfl, rfl, rfl, Nat.le_refl _, fun _ _ _ => rfl⟩
theorem Chg.trans {S : List Nat} {a b c : World} (h : Chg S a b) (k : Chg S b c) : Chg S a c :=
  ⟨k.os.trans h.os, k.tape.trans h.tape, k.output.trans h.output, Nat.le_trans h.size k.size, fun i hi hS => (k.block i (Nat.lt_of_lt_of_le hi h.size) hS).trans (h.block i hi hS)⟩
theorem Chg.mono {S T : List Nat} {a b : World} (h : Chg S a b) (hs : ∀ k ∈ S, k ∈ T ∨ a.heap.size ≤ k) : Chg T a b :=
  ⟨h.os, h.tape, h.output, h.size, fun i hi hS => h.block i hi (fun hm => by rcases hs i hm with h | h; exact hS h; omega)⟩
theorem Chg.of_below {S : List Nat} {a b : World} (h : Below a.heap.size a b) : Chg S a b := ⟨h.os, h.tape, h.output, h.size, fun k hk _ => h.block k hk⟩
theorem Chg.below {S : List Nat} {B : Nat} {u a b : World} (h : Chg S a b) (hb : Below B u a) (hB : B ≤ a.heap.size) (hS : ∀ k ∈ S, B ≤ k) : Below B u b :=
  hb.trans ⟨h.os, h.tape, h.output, h.size, fun k hk => h.block k (by omega) (fun hm => by have := hS k hm; omega)⟩
theorem Chg.setCell {S : List Nat} {a b : World} (h : Chg S a b) {p : Addr} (hp : p.block ∈ S) (u : Value) : Chg S a (b.setCell p u) :=
  h.trans ⟨rfl, rfl, rfl, by simp [World.setCell], fun k _ hS => Below.heap_setCell _ _ _ _ (fun e => hS (by rw [e]; exact hp))⟩
theorem Chg.alloc {S : List Nat} {a b : World} (h : Chg S a b) (o : Obj) : Chg S a (b.alloc o) := h.trans (Chg.of_below ((Below.refl _ _).alloc (Nat.le_refl _) _))
theorem Chg.at {S : List Nat} {a b : World} (h : Chg S a b) {g : Nat} {o : Obj} (hg : a.heap[g]? = some o) (hS : g ∉ S) : b.heap[g]? = some o :=
  (h.block g (Array.getElem?_eq_some_iff.1 hg).1 hS).trans hg
theorem Chg.setCells {S : List Nat} {a b : World} (h : Chg S a b) {g : Nat} (hp : g ∈ S) : ∀ (vs : List Value) (o : Nat), Chg S a (b.setCells g o vs) := by
  intro vs
  induction vs generalizing b with
  | nil => exact fun _ => h
  | cons v r ih => exact fun o => ih (h.setCell (p := ⟨g, o, none⟩) hp v) (o + 1)
/-- bytes in a block that stays. -/
theorem Byt.chg {S : List Nat} {L : List Int} {A : Option Addr} {c : Nat} {w w' : World} (h : Byt w A c L) (hc : Chg S w w') (hS : ∀ a, A = some a → a.block ∉ S) : Byt w' A c L := by
  obtain ⟨h1, h2, h3⟩ := h
  refine ⟨h1, h2, fun hl => ?_⟩
  obtain ⟨g, off, hA, hg, hb⟩ := h3 hl
  exact ⟨g, off, hA, Nat.lt_of_lt_of_le hg hc.size, fun j hj => (World.cell?_of_block (hc.block g hg (hS _ hA))).trans (hb j hj)⟩
theorem splice_set {α : Type} (L : List α) (o : Nat) (v : α) (r : List α) (h : o < L.length) : splice (L.set o v) (o + 1) r = splice L o (v :: r) := by
  have e1 : (L.set o v).take (o + 1) = L.take o ++ [v] := by
    rw [List.take_succ_eq_append_getElem (by simpa using h), List.take_set_of_le (Nat.le_refl _)]; simp
  have e2 : (L.set o v).drop (o + 1 + r.length) = L.drop (o + 1 + r.length) := List.drop_set_of_lt (by omega)
  unfold splice
  rw [e1, e2, List.length_cons, List.append_assoc, show o + 1 + r.length = o + (r.length + 1) by omega]
  rfl
/-- the cells of a row, many written at once. -/
theorem heap_setCells {T : Nat} {g : Nat} : ∀ (vs : List Value) (o : Nat) (w : World) (C : Array Value), w.heap[g]? = some (.cells C T (0, 0)) → o + vs.length ≤ C.size →
    (w.setCells g o vs).heap[g]? = some (.cells (splice C.toList o vs).toArray T (0, 0)) := by
  intro vs
  induction vs with
  | nil => intro o w C h _; simpa [World.setCells, splice] using h
  | cons v r ih =>
    intro o w C h hs
    simp only [List.length_cons] at hs
    rw [World.setCells]
    have h1 : (w.setCell ⟨g, o, none⟩ v).heap[g]? = some (.cells (C.setIfInBounds o v) T (0, 0)) := heap_setCell_same _ _ _ _ _ _ h
    rw [ih (o + 1) _ _ h1 (by rw [Array.size_setIfInBounds]; omega)]
    rw [Array.toList_setIfInBounds, splice_set C.toList o v r (by rw [Array.length_toList]; omega)]
end Go.Proofs.YtkjhoanlkkcfkaaGreatDoor
/- DERIVED. A region that draws its order and holds one call, what comes ahead of it and behind it being pure. -/
namespace Go.Proofs.YtkjhoanlkkcfkaaGreatDoor
section
variable {P : Program} {ops : Array Oper} {Q : Exit → Act → World → Prop} {md : Region.Mode}
/-- what has come up has come behind all that it waits for. -/
def Closed (md : Region.Mode) (ops : Array Oper) (l : Array Bool) : Prop := ∀ i j, l.getD i false = true → waitsB md ops i j = true → l.getD j false = true
theorem Closed.next {l : Array Bool} (h : Closed md ops l) (i : Nat) (hw : ∀ j, waitsB md ops i j = true → l.getD j false = true) : Closed md ops (l.setIfInBounds i true) := fun k j hk hj => by
  rcases getD_listed hk with rfl | hk
  · exact getD_set_true (hw j hj)
  · exact getD_set_true (h k j hk hj)
theorem Closed.none (n : Nat) : Closed md ops (Array.replicate n false) := fun i j h _ => by
  by_cases hi : i < n <;> simp [Array.getD_eq_getD_getElem?, hi] at h
theorem wpAny_inv2 (I : Array Bool → Act → World → Prop) (hs : ∀ l a w, I l a w → l.size = ops.size) (hb : backB md ops = true)
    (hfin : ∀ l a w, I l a w → (∀ i, i < ops.size → l.getD i false = true) → Q .normal a w)
    (hstep : ∀ l a w i, I l a w → Closed md ops l → i < ops.size → l.getD i false = false → (∀ j, waitsB md ops i j = true → l.getD j false = true) → wpOp P ops Q i (I (l.setIfInBounds i true)) a w)
    (n : Nat) (hn : n = ops.size) (a : Act) (w : World) (h0 : I (Array.replicate n false) a w) : wpAny P md ops Q n (Array.replicate n false) a w := by
  subst hn
  refine wpAny_inv (fun l a w => I l a w ∧ Closed md ops l) (fun l a w h => hs l a w h.1) hb (fun l a w h => hfin l a w h.1) ?_ _ _ _ _ (unlisted_none _) ⟨h0, Closed.none _⟩
  intro l a w i h hi hu hw
  exact wpOp_mono (fun a' w' h' => ⟨h', h.2.next i hw⟩) (hstep l a w i h.1 h.2 hi hu hw)
end
theorem Holding.swap {dsts : List Nat} {vl vl' : List (Option Value)} {l : Array Bool} {s : Nat → Value} (h : Holding dsts vl l s) (he : ∀ j, l.getD j false = true → vl'.getD j none = vl.getD j none) : Holding dsts vl' l s := fun j v hl hj => h j v hl (by rw [← he j hl]; exact hj)
/-- the world, by whether the call (operation q of n) has come. -/
structure CI (n q : Nat) (W0 : World) (P : World → Prop) (L : Array Bool) (wx : World) : Prop where
  sz : L.size = n
  bef : L.getD q false = false → wx = W0
  aft : L.getD q false = true → P wx
theorem CI.read {n q : Nat} {W0 : World} {P : World → Prop} {L : Array Bool} {wx : World} (h : CI n q W0 P L wx) (i : Nat) (hi : i ≠ q) : CI n q W0 P (L.setIfInBounds i true) wx :=
  ⟨by simp [h.sz], by rw [getD_set_ne false hi]; exact h.bef, by rw [getD_set_ne false hi]; exact h.aft⟩
theorem CI.call {n q : Nat} {W0 : World} {P P' : World → Prop} {L : Array Bool} {wx wy : World} (h : CI n q W0 P L wx) (hq : q < n) (hp : P' wy) : CI n q W0 P' (L.setIfInBounds q true) wy :=
  ⟨by simp [h.sz], fun hl => by simp [h.sz, hq] at hl, fun _ => hp⟩
theorem not_listed {a b : Bool} (h : a = true → b = true) (hb : b = false) : a = false := by
  cases a with
  | false => rfl
  | true => rw [h rfl] at hb; cases hb
end Go.Proofs.YtkjhoanlkkcfkaaGreatDoor
/- DERIVED. copy of any slice of bytes into a row, as an operation of a plain region or of one that draws; what holds until the last operation that changes memory comes. No number of a type. -/
namespace Go.Proofs.YtkjhoanlkkcfkaaGreatDoor
open Go.RowKit
theorem chg_row {S : List Nat} {g : Nat} (w : World) (C : Array Value) (hg : g ∈ S) : Chg S w (w.setRow g C) :=
  ⟨rfl, rfl, rfl, by simp [World.setRow], fun k _ hS => setRow_other w g k C (fun e => hS (by rw [e]; exact hg))⟩
theorem infoC1 : (Tryz.prog.info? 5).map (·.size) = some 1 := by kernel_rfl
theorem wp_copy_chg {w : World} {o : Oper} {a : Act} {K : Act → World → Prop} {Q : Exit → Act → World → Prop} (d s : Operand)
    (ho : o.op = .call { callee := .builtin .copy, args := #[d, s], argTypes := #[38, 38] })
    (dp : Option Addr) (dLen dCap : Nat) (A : Option Addr) (m c : Nat) (b : List Int) (hd : a.eval d = .slice dp dLen dCap) (hs : a.eval s = .slice A m c) (hm : b.length = m) (hB : Byt w A c b) (hmd : m ≤ dLen)
    (g off : Nat) (cur : List Value) (T : TypeId) (hg : w.heap[g]? = some (.cells cur.toArray T (0, 0))) (hdp : 0 < m → dp = some ⟨g, off, none⟩) (hfit : off + m ≤ cur.length)
    (h : ∀ w', w'.heap[g]? = some (.cells (splice cur off (vals b)).toArray T (0, 0)) → Chg [g] w w' → K (a.put o.dst (goInt m)) w') :
    Oper.wp Tryz.prog o a w K Q := by
  by_cases h0 : m = 0
  · subst h0
    obtain rfl : b = [] := List.eq_nil_of_length_eq_zero hm
    have hrun := run_copy_none (P := Tryz.prog) w 38 38 o.type 5 dp A dLen dCap 0 c Tryz.underlying38 infoC1 (by simp)
    unfold Oper.wp
    simp [execOp, ho, resolve, invoke, builtin, hd, hs, hrun, Result.andThen]
    exact h w (by simpa [splice, vals] using hg) (Chg.refl _ _)
  · have hdp' := hdp (by omega)
    subst hdp'
    obtain ⟨gb, ob, rfl, hgb, hc⟩ := hB.2.2 (by omega)
    have hv : (vals b).length = m := by rw [vals_length, hm]
    have hrun := run_copy_row (P := Tryz.prog) w 38 38 o.type 5 g off dLen dCap ⟨gb, ob, none⟩ m c cur.toArray T (vals b) Tryz.underlying38 infoC1 hg (by rw [hv]; exact (Nat.min_eq_left hmd).symm)
      (fun j v hj => by obtain ⟨hj', rfl⟩ := vals_get hj; rw [Addr.add_mid]; exact hc j hj') (by rw [hv]; simpa using hfit) (vals_one _)
    unfold Oper.wp
    simp [execOp, ho, resolve, invoke, builtin, hd, hs, hrun, Result.andThen]
    rw [hv]
    refine h _ ?_ (chg_row _ _ (List.mem_singleton.2 rfl))
    rw [setRow_heap w g _ _ T _ hg]
    simp [splice, hv]
theorem wpList_copy_chgT {w : World} {ops : Array Oper} {rest : List Oper} {o : Oper} {a : Act} {Q : Exit → Act → World → Prop} (hgd : o.guard = none) (d s : Operand)
    (ho : o.op = .call { callee := .builtin .copy, args := #[d, s], argTypes := #[38, 38] })
    (dp : Option Addr) (dLen dCap : Nat) (A : Option Addr) (m c : Nat) (b : List Int) (hd : a.eval d = .slice dp dLen dCap) (hs : a.eval s = .slice A m c) (hm : b.length = m) (hB : Byt w A c b) (hmd : m ≤ dLen)
    (g off : Nat) (cur : List Value) (T : TypeId) (hg : w.heap[g]? = some (.cells cur.toArray T (0, 0))) (hdp : 0 < m → dp = some ⟨g, off, none⟩) (hfit : off + m ≤ cur.length)
    (h : ∀ w', w'.heap[g]? = some (.cells (splice cur off (vals b)).toArray T (0, 0)) → Chg [g] w w' → wpList Tryz.prog ops Q rest (a.put o.dst (goInt m)) w') :
    wpList Tryz.prog ops Q (o :: rest) a w := by
  by_cases h0 : m = 0
  · subst h0
    obtain rfl : b = [] := List.eq_nil_of_length_eq_zero hm
    refine wpList_copy_nothing hgd d s 38 38 ho 5 Tryz.underlying38 infoC1 dp A dLen dCap 0 c hd hs (by simp) ?_
    exact h w (by simpa [splice, vals] using hg) (Chg.refl _ _)
  · have hdp' := hdp (by omega)
    subst hdp'
    obtain ⟨gb, ob, rfl, hgb, hc⟩ := hB.2.2 (by omega)
    have hv : (vals b).length = m := by rw [vals_length, hm]
    refine wpList_copy_own hgd d s 38 38 ho 5 Tryz.underlying38 infoC1 g off dLen dCap ⟨gb, ob, none⟩ m c hd hs cur.toArray T hg (vals b) (by rw [hv]; exact (Nat.min_eq_left hmd).symm)
      (fun j v hj => by obtain ⟨hj', rfl⟩ := vals_get hj; rw [Addr.add_mid]; exact hc j hj') (by rw [hv]; simpa using hfit) (vals_one _) ?_
    rw [hv]
    refine h _ ?_ (chg_row _ _ (List.mem_singleton.2 rfl))
    rw [setRow_heap w g _ _ _ _ hg]
    simp [splice, hv]
/-- until operation q comes, nothing that was there changes; then P holds. -/
structure LastR (q : Nat) (W : World) (P : World → Prop) (ll : Array Bool) (wx : World) : Prop where
  bef : ll.getD q false = false → Below W.heap.size W wx
  aft : ll.getD q false = true → P wx
theorem LastR.start {q : Nat} {W : World} {P : World → Prop} {n : Nat} : LastR q W P (Array.replicate n false) W.drew :=
  ⟨fun _ => (Below.refl _ _).drew, fun hl => by
    have : (Array.replicate n false).getD q false = false := by
      by_cases hn : q < n <;> simp [Array.getD_eq_getD_getElem?, hn]
    rw [this] at hl; cases hl⟩
theorem LastR.same {q : Nat} {W wx : World} {P : World → Prop} {ll : Array Bool} {i : Nat} (h : LastR q W P ll wx) (hi : i ≠ q) : LastR q W P (ll.setIfInBounds i true) wx :=
  ⟨by rw [getD_set_ne false hi]; exact h.bef, by rw [getD_set_ne false hi]; exact h.aft⟩
theorem LastR.call {q : Nat} {W wx w' : World} {P : World → Prop} {ll : Array Bool} {i : Nat} (h : LastR q W P ll wx) (hi : i ≠ q) (hnl : ll.getD q false = false) (hb : Below wx.heap.size wx w') : LastR q W P (ll.setIfInBounds i true) w' :=
  ⟨fun _ => (h.bef hnl).trans (hb.mono (h.bef hnl).size), fun hl => by rw [getD_set_ne false hi, hnl] at hl; cases hl⟩
theorem LastR.done {q : Nat} {W w' wx : World} {P : World → Prop} {ll : Array Bool} (_h : LastR q W P ll wx) (hs : q < ll.size) (hp : P w') : LastR q W P (ll.setIfInBounds q true) w' :=
  ⟨fun hl => by simp [hs] at hl, fun _ => hp⟩
theorem notlisted {ll : Array Bool} {i q : Nat} (hu : ll.getD i false = false) (h : ll.getD q false = true → ll.getD i false = true) : ll.getD q false = false := by
  cases e : ll.getD q false
  · rfl
  · rw [h e] at hu; cases hu
end Go.Proofs.YtkjhoanlkkcfkaaGreatDoor
/- DERIVED. append of any slice of bytes, nil let in, to a row of the call's own. -/
namespace Go.Proofs.YtkjhoanlkkcfkaaGreatDoor
open Go.RowKit
theorem info8z : (Tryz.prog.info? 5).map (fun i => (i.zero, i.size, i.bytes)) = some (some (.int .u8 0), 1, 1) := by kernel_rfl
theorem vals_app (L M : List Int) : vals L ++ vals M = vals (L ++ M) := by simp [vals]
theorem wpList_append_any {w : World} {ops : Array Oper} {rest : List Oper} {o : Oper} {a : Act} {Q : Exit → Act → World → Prop} (hgd : o.guard = none) (s x : Operand)
    (ho : o.op = .call { callee := .builtin .append, args := #[s, x], argTypes := #[38, 38] }) (base : Nat) (v : Value) (n : Nat) (L : List Int) (hs : a.eval s = v) (hown : w.ownsRow base 5 1 v n (vals L))
    (A : Option Addr) (m c : Nat) (M : List Int) (hx : a.eval x = .slice A m c) (hm : M.length = m) (hB : Byt w A c M) (h63 : n + m ≤ 4294967296) (hbase : base ≤ w.heap.size)
    (h : ∀ v' w', w'.ownsRow base 5 1 v' (n + m) (vals (L ++ M)) → (∀ B u, Below B u w → B ≤ base → Below B u w') → wpList Tryz.prog ops Q rest (a.put o.dst v') w') : wpList Tryz.prog ops Q (o :: rest) a w := by
  obtain ⟨i0, hi0, hz00, hz10, hz20⟩ := info_parts info8z
  cases A with
  | none =>
    have hc := hB.2.1 rfl
    have hm0 : m = 0 := by have := hB.1; omega
    subst hc hm0
    obtain rfl : M = [] := List.eq_nil_of_length_eq_zero hm
    refine wpList_append_own_none hgd s x 38 ho base 5 i0 1 Tryz.underlying38 hi0 v n (vals L) hs hown hx ?_
    exact h v w (by simpa using hown) (fun _ _ h _ => h)
  | some ad =>
    refine wpList_append_own_at _ hgd s x 38 ho base 5 i0 (.int .u8 0) 1 1 Tryz.underlying38 hi0 hz00 hz10 hz20 rfl (by decide) v n (vals L) hs hown ad m c (vals M) hx (by rw [vals_length, hm]; omega)
      (hB.cells (fun _ _ => rfl) ad rfl) (vals_one _) (by unfold maxLen; omega) (by omega) hbase ?_
    intro v' w' hown' hgrow _ _
    rw [vals_app] at hown'
    exact h v' w' hown' (fun B u hu hB' => hu.grown hgrow (by omega) (fun k hk => by have := (hown.lt k hk).1; omega))
end Go.Proofs.YtkjhoanlkkcfkaaGreatDoor
