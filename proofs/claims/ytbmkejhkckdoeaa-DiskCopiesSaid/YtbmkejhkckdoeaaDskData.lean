/- DERIVED. The statements' calls on a disk: an Act, its bytes. -/
import Derived.Test.YtbmkejhkckdoeaaDskNew
import Derived.Deep.DeepCutAuto
namespace Go.Proofs.Ytbmkejhkckdoeaa.Dsk
open Go.RowKit
structure Av where
  what : Int
  at_ : Int
  n : Int
  A : Option Addr
  cap : Nat
  L : List Int
  whole : Bool
  mask : List Int
def Av.c (x : Av) : Array Value := (.int .u8 x.what :: .int .i64 x.at_ :: .int .i64 x.n :: .slice x.A x.L.length x.cap :: .bool x.whole :: vals x.mask).toArray
/-- what is told of an Act's bytes. -/
structure DataQ (whole : Bool) (base : Nat) (v : Value) (w w' : World) (b : List Int) : Prop where
  inb : InB b
  len : b.length ≤ 1024
  sec : whole = true → b.length % 128 = 0
  own : w'.ownsRow base 5 1 v b.length (vals b)
  low : Below base w w'
def lenV : Value → Nat
  | .slice _ n _ => n
  | _ => 0
theorem byt_take {w : World} {A : Option Addr} {c : Nat} {L : List Int} (h : Byt w A c L) (k : Nat) : Byt w A c (L.take k) :=
  ⟨by have := h.1; rw [List.length_take]; omega, h.2.1, fun hl => by
    rw [List.length_take] at hl
    obtain ⟨g, off, hA, hg, hc⟩ := h.2.2 (by omega)
    exact ⟨g, off, hA, hg, fun j hj => by
      rw [List.length_take] at hj
      rw [hc j (by omega)]
      simp [List.getD_eq_getElem?_getD, show j < k by omega]⟩⟩
set_option maxRecDepth 100000 in
set_option maxHeartbeats 1000000 in
theorem data_any {w : World} (x : Av) (hB : Byt w x.A x.cap x.L) (hi : InB x.L) (hmax : x.L.length ≤ 9223372036854775807) : Calls Try.prog 7 #[.agg x.c] w fun e w' => ∃ v b, e = .returned v ∧ DataQ x.whole w.heap.size v w w' b := by
  have hb0 : Below w.heap.size w (w.alloc (.cells x.c 25)) := (Below.refl _ _).alloc (Nat.le_refl _) _
  have hrow := Go.heap_alloc_new w (.cells x.c 25)
  have c3 := cell_row hrow 3
  have c4 := cell_row hrow 4
  rw [show x.c[3]? = some (.slice x.A x.L.length x.cap) by rfl] at c3
  rw [show x.c[4]? = some (.bool x.whole) by rfl] at c4
  obtain ⟨w1, hw1⟩ : ∃ w1, w1 = w.alloc (.cells x.c 25) := ⟨_, rfl⟩
  have hsz : w1.heap.size = w.heap.size + 1 := by rw [hw1, World.size_alloc]
  rw [← hw1] at hb0 hrow c3 c4
  have hB1 := byt_take (hB.below hb0 (Nat.le_refl _)) 1024
  obtain ⟨n, hn⟩ : ∃ n, n = x.L.length := ⟨_, rfl⟩
  have hlen : (x.L.take 1024).length = min n 1024 := by rw [List.length_take, hn, Nat.min_comm]
  rw [← hn] at c3 hmax
  have hcap : n ≤ x.cap := by rw [hn]; exact hB.1
  have hnil : x.A = none → x.cap = 0 := hB.2.1
  have hI := hi.take 1024
  obtain ⟨M, hM⟩ : ∃ M, M = x.L.take 1024 := ⟨_, rfl⟩
  rw [← hM] at hB1 hlen hI
  obtain ⟨A, hA⟩ : ∃ A, A = x.A := ⟨_, rfl⟩
  obtain ⟨C, hC⟩ : ∃ C, C = x.cap := ⟨_, rfl⟩
  obtain ⟨B, hBo⟩ : ∃ B, B = x.whole := ⟨_, rfl⟩
  obtain ⟨X, hX⟩ : ∃ X, X = x.c := ⟨_, rfl⟩
  rw [← hA, ← hC] at c3 hB1 hnil
  rw [← hC] at hcap
  rw [← hBo] at c4 ⊢
  have hX4 : x.c[4]? = some (.bool B) := by rw [hBo]; rfl
  rw [← hX] at hw1 hrow hX4 ⊢
  have HX4 := Lib.hid hX4
  have HB1 := Lib.hid hB1
  have Hlen := Lib.hid hlen
  have HI := Lib.hid hI
  have Hrow := Lib.hid hrow
  have Hw1 := Lib.hid hw1
  have Hsz := Lib.hid hsz
  have Hb0 := Lib.hid hb0
  have Hnil := Lib.hid hnil
  clear hB hi hb0 hrow hw1 hsz hB1 hn hlen hI hM hA hC hBo hX hnil hX4
  clear x
  go_enter Try.func7, Try.ntmps7
  go_upto_region 1 with (fail)
  rw [← Hw1.out]
  obtain ⟨w2, hw2⟩ : ∃ w2, w2 = w1.alloc (.cells #[] 5) := ⟨_, rfl⟩
  have hb1 : Below w1.heap.size w1 w2 := by rw [hw2]; exact (Below.refl _ _).alloc (Nat.le_refl _) _
  have hlt : w.heap.size < w1.heap.size := by rw [Hsz.out]; omega
  have c3a : (w1.alloc (.cells #[] 5)).cell? ⟨w.heap.size, 3, none⟩ = some (.slice A n C) := (World.cell?_alloc_lt _ _ _ hlt).trans c3
  have hrow2 := (hb1.block _ hlt).trans Hrow.out
  have hmade := World.ownsRow_made w1 (base := w1.heap.size) (e := 5) (size := 1) #[] 0 (Nat.le_refl _) (Nat.zero_le _) rfl
  rw [← hw2] at hmade
  have hB2 : Byt w2 A C M := HB1.out.below hb1 (Nat.le_refl _)
  have hb2 := Hb0.out.trans (hb1.mono (Nat.le_of_lt hlt))
  have hs1 : w1.heap.size ≤ w2.heap.size := hb1.size
  have Hmade := Lib.hid hmade
  have HB2 := Lib.hid hB2
  have Hrow2 := Lib.hid hrow2
  have Hb2 := Lib.hid hb2
  have Hs1 := Lib.hid hs1
  have Hw2 := Lib.hid hw2
  have Hlt := Lib.hid hlt
  clear hw2 hb1 hlt hmade hB2 hrow2 hb2 hs1 c3 c4 Hb0 HB1
  have hmn : min n 1024 ≤ 1024 := Nat.min_le_right _ _
  have hmn2 : min n 1024 ≤ n := Nat.min_le_left _ _
  have HBA : Hid (∀ A' : Option Addr, ∀ C' : Nat, A' = A → C' = C → Byt w2 A' C' M) := fun _ _ e1 e2 => by rw [e1, e2]; exact HB2.out
  go_cut [3] from 4 to 12 (fun s3 wx => ∃ b, (wx.ownsRow w1.heap.size 5 1 s3 b.length (vals b) ∧ Below w1.heap.size w2 wx) ∧ InB b ∧ b.length ≤ 1024)
  case first =>
    by_cases hle : n ≤ 1024
    · have hmin : min n 1024 = n := Nat.min_eq_left hle
      rw [hmin] at Hlen
      by_cases hA : A = none
      · have hC := Hnil.out hA
        subst hA hC
        obtain rfl : n = 0 := by omega
        clear hle hmin hmn hmn2
        go_wp2_with (at_builtin; rw [← Hw2.out]; refine wpList_append_any rfl (.tmp 4) (.tmp 11) rfl w1.heap.size _ 0 [] rfl Hmade.out none 0 0 M rfl Hlen.out HB2.out (by omega) Hs1.out ?_; intro v3 w3 hown3 hlow3; have Hown3 := Lib.hid hown3; have Hlow3 := Lib.hid hlow3; clear hown3 hlow3)
        go_meet
        exact ⟨M, ⟨by rw [Hlen.out]; simpa using Hown3.out, Hlow3.out _ _ (Below.refl _ _) (Nat.le_refl _)⟩, HI.out, by rw [Hlen.out]; omega⟩
      · obtain ⟨a, rfl⟩ := Option.ne_none_iff_exists'.1 hA
        clear hA hmin hmn hmn2
        go_wp2_with (at_builtin; rw [← Hw2.out]; refine wpList_append_any rfl (.tmp 4) (.tmp 11) rfl w1.heap.size _ 0 [] rfl Hmade.out (some a) n C M rfl Hlen.out HB2.out (by omega) Hs1.out ?_; intro v3 w3 hown3 hlow3; have Hown3 := Lib.hid hown3; have Hlow3 := Lib.hid hlow3; clear hown3 hlow3)
        go_meet
        exact ⟨M, ⟨by rw [Hlen.out]; simpa using Hown3.out, Hlow3.out _ _ (Below.refl _ _) (Nat.le_refl _)⟩, HI.out, by rw [Hlen.out]; omega⟩
    · have hmin : min n 1024 = 1024 := Nat.min_eq_right (by omega)
      rw [hmin] at Hlen
      obtain ⟨a, rfl⟩ : ∃ a, A = some a := by
        cases A with
        | none => have := Hnil.out rfl; omega
        | some a => exact ⟨a, rfl⟩
      have hle' : 1024 < n := by omega
      clear hmin hmn hmn2 hle
      go_wp2_with (at_builtin; rw [← Hw2.out]; refine wpList_append_any rfl (.tmp 4) (.tmp 11) rfl w1.heap.size _ 0 [] rfl Hmade.out (some a) 1024 C M rfl Hlen.out HB2.out (by omega) Hs1.out ?_; intro v3 w3 hown3 hlow3; have Hown3 := Lib.hid hown3; have Hlow3 := Lib.hid hlow3; clear hown3 hlow3)
      go_meet
      exact ⟨M, ⟨by rw [Hlen.out]; simpa using Hown3.out, Hlow3.out _ _ (Below.refl _ _) (Nat.le_refl _)⟩, HI.out, by rw [Hlen.out]; omega⟩
  case rest =>
    obtain ⟨b0, ⟨ho0, hb0⟩, hi0, hl0⟩ := hcut
    have H0 := Lib.hid (show ∃ b, (wc.ownsRow w1.heap.size 5 1 u3 b.length (vals b) ∧ Below w1.heap.size w2 wc) ∧ InB b ∧ b.length ≤ 1024 from ⟨b0, ⟨ho0, hb0⟩, hi0, hl0⟩)
    clear ho0 hb0 hi0 hl0
    clear b0
    go_wp2
    go_loopw [3] (fun v wr => ∃ b, (wr.ownsRow w1.heap.size 5 1 v b.length (vals b) ∧ Below w1.heap.size w2 wr) ∧ InB b ∧ b.length ≤ 1024) (fun v _ => 1024 - lenV v)
    case atStart => exact H0.out
    case round =>
      obtain ⟨b, ⟨ho, hb⟩, hin, hl⟩ := hrel
      have hsz := hb.size
      have hrw : wr.heap[w.heap.size]? = some (.cells X 25 (0, 0)) := (hb.block _ Hlt.out).trans Hrow2.out
      have d4 := cell_row hrw 4
      rw [HX4.out] at d4
      obtain ⟨m, hm⟩ : ∃ m, m = b.length := ⟨_, rfl⟩
      rw [← hm, ← valsK_u8] at ho
      rw [← hm] at hl
      obtain ⟨A3, c3, hv3⟩ := own_nilK ho
      subst hv3
      have Ho := Lib.hid ho
      have Hb := Lib.hid hb
      have Hin := Lib.hid hin
      have Hm := Lib.hid hm
      have Hsz2 := Lib.hid (Nat.le_trans Hs1.out hsz)
      have Hlo := Lib.hid (Hb2.out.trans (hb.mono (Nat.le_of_lt Hlt.out)))
      clear ho hb hin hm hsz hrw H0
      cases B
      · go_wp2
        go_ret
        exact ⟨_, b, rfl, ⟨Hin.out, by rw [← Hm.out]; exact hl, (fun h => by cases h), by rw [← Hm.out]; exact own_lower Ho.out (Nat.le_of_lt Hlt.out), Hlo.out⟩⟩
      · by_cases e : m % 128 = 0
        · have e' : (m : Int) % 128 = 0 := by omega
          go_wp2
          go_ret
          exact ⟨_, b, rfl, ⟨Hin.out, by rw [← Hm.out]; exact hl, (fun _ => by rw [← Hm.out]; exact e), by rw [← Hm.out]; exact own_lower Ho.out (Nat.le_of_lt Hlt.out), Hlo.out⟩⟩
        · have e' : ¬ (m : Int) % 128 = 0 := by omega
          have hlt : m < 1024 := by omega
          obtain ⟨i0, hi0, hz00, hz10, hz20⟩ := info_parts info8z
          have gi := Lib.hid hi0
          have gz0 := Lib.hid hz00
          have gz1 := Lib.hid hz10
          have gz2 := Lib.hid hz20
          clear hi0 hz00 hz10 hz20
          go_wp2_with (at_builtin; refine wpList_append_mine rfl (.tmp 21) (.tmp 25) 22 rfl w1.heap.size 5 i0 (.int .u8 0) 1 Try.underlying22 gi.out gz0.out gz1.out gz2.out rfl (by decide) _ m b _ rfl Ho.out rfl (by omega) Hsz2.out ?_; intro v' w' hgr; have Hgr := Lib.hid hgr; clear hgr)
          go_roundw
          case rel => exact ⟨b ++ [(m : Int) % 256], ⟨by rw [List.length_append, ← Hm.out]; exact Hgr.out.own, Hgr.out.low _ _ Hb.out (Nat.le_refl _)⟩, Hin.out.append (by intro j; match j with | 0 => simp; omega | j + 1 => simp), by rw [List.length_append, ← Hm.out]; simp; omega⟩
          case measure =>
            obtain ⟨A4, c4, hv4⟩ := own_nilK Hgr.out.own
            subst hv4
            simp [lenV]; omega
end Go.Proofs.Ytbmkejhkckdoeaa.Dsk
