/- DERIVED. The walk of HmacKnown. -/
import Derived.Test.YtbondffjghanlaaDoorHmacHex
import Derived.Test.YtbondffjghanlaaDoorHmacWorks
import Derived.Deep.DeepCutAuto
namespace Go.Proofs.YtbondffjghanlaaDoor.lawKnown2
open Go.RowKit lawAnybody
def hi : List Int := [72, 105, 32, 84, 104, 101, 114, 101]
def elevens : List Int := List.replicate 20 11
def hiTag : List Int := [176, 52, 76, 97, 216, 219, 56, 83, 92, 168, 175, 206, 175, 11, 241, 43, 136, 29, 194, 0, 201, 131, 61, 167, 38, 233, 55, 108, 46, 50, 207, 247]
theorem hi_tag : hmacL elevens hi = hiTag := by kernel_rfl
def s1 : ByteArray := ⟨#[98, 48, 51, 52, 52, 99, 54, 49, 100, 56, 100, 98, 51, 56, 53, 51, 53, 99, 97, 56, 97, 102, 99, 101, 97, 102, 48, 98, 102, 49, 50, 98, 56, 56, 49, 100, 99, 50, 48, 48, 99, 57, 56, 51, 51, 100, 97, 55, 50, 54, 101, 57, 51, 55, 54, 99, 50, 101, 51, 50, 99, 102, 102, 55]⟩
def s2 : ByteArray := ⟨#[53, 98, 100, 99, 99, 49, 52, 54, 98, 102, 54, 48, 55, 53, 52, 101, 54, 97, 48, 52, 50, 52, 50, 54, 48, 56, 57, 53, 55, 53, 99, 55, 53, 97, 48, 48, 51, 102, 48, 56, 57, 100, 50, 55, 51, 57, 56, 51, 57, 100, 101, 99, 53, 56, 98, 57, 54, 52, 101, 99, 51, 56, 52, 51]⟩
theorem hex1 : hexL (bytesOf s1) 32 = hiTag := by kernel_rfl
theorem hex2 : hexL (bytesOf s2) 32 = jefeTag := by kernel_rfl
theorem hex_call (s : ByteArray) (X : List Int) (w : World) (hs : s.size = 64) (h : hexL (bytesOf s) 32 = X) :
    Calls Tryd.prog 42 #[.string s] w fun e w' => ∃ A c, e = .returned (.slice A 32 c) ∧ Byt w' A c X ∧ Below w.heap.size w w' := by
  refine (hex_any s 32 w (by omega) (by omega)).mono ?_
  rintro e w' ⟨⟨v, rfl, hown⟩, hb⟩
  rw [h] at hown
  obtain ⟨A, c, rfl, _, hB⟩ := own_byt hown
  exact ⟨A, c, rfl, hB, hb⟩
/-- a slice of bytes as a text. -/
theorem conv_str {w : World} {A : Option Addr} {c n : Nat} {L : List Int} (hB : Byt w A c L) (hn : L.length = n) (h0 : 0 < n) : (convert 26 9 (.slice A n c)).run Tryd.prog w = .ok (.string (strOfNums L)) w := by
  obtain ⟨g, off, rfl, _, hc⟩ := hB.2.2 (by omega)
  exact run_convert_bytes_arg w 26 5 Tryd.underlying26 Tryd.underlying5 g off n c L hn (fun i hi => hc i (by omega)) 9 Tryd.underlying9
theorem InB_elev : InB elevens := inB_of (by decide)
theorem byt_eleven (w : World) : Byt (w.alloc (.cells #[.int .u8 11] 5)) (some ⟨w.heap.size, 0, none⟩) 1 [11] := byt_rowF (l := [11]) (fr := (0, 0)) (t := 5) (Go.heap_alloc_new w _) rfl
/-- the loop: so many bytes 11. -/
def Elev (w : World) (v i : Value) (wr : World) : Prop :=
  ∃ j : Nat, j ≤ 20 ∧ i = .int .i64 j ∧ Hid (wr.ownsRow w.heap.size 5 1 v j (vals (List.replicate j 11))) ∧ Hid (Below w.heap.size w wr)
set_option maxRecDepth 100000 in
set_option maxHeartbeats 2000000 in
theorem walk (w : World) (hL : Laid w) : Calls Tryd.prog 16 #[] w fun e' w' => e' = .returned (.bool true) ∧ Below w.heap.size w w' := by
  have HL := Lib.hid hL
  have hsz := hL.sz
  have Hi1 : Hid ((Tryd.prog.info? 35).map (·.size) = some (u8s hiTag).size) := by show _ = _; rw [u8s_size]; exact info35
  have Hi2 : Hid ((Tryd.prog.info? 35).map (·.size) = some (u8s jefeTag).size) := by show _ = _; rw [u8s_size]; exact info35
  clear hL
  go_enter Tryd.func16, Tryd.ntmps16
  go_wp2
  go_loopw [1, 2] (fun v i wr => Elev w v i wr) (fun _ i _ => 20 - (intOf i).toNat)
  case atStart => exact ⟨0, by omega, rfl, World.ownsRow_nil w _ 5 1, Below.refl _ _⟩
  case round =>
    obtain ⟨j, hj, rfl, own, low⟩ := hrel
    by_cases hlt : j < 20
    · have hz := byt_eleven wr
      have hltI : (j : Int) < 20 := by omega
      go_wp2_with (at_builtin; refine wpList_append_byt rfl (.tmp 9) (.tmp 10) rfl w.heap.size u1 j (List.replicate j 11) rfl (own_below own.out ((Below.refl _ _).alloc (Nat.le_refl _) _)) _ 1 1 [11] rfl rfl hz (by omega) (Nat.le_trans low.out.size (by simp)) ?_; intro v2 w2 hown2 hlow2 _; have Low2 := Lib.hid (hlow2 _ _ (low.out.alloc low.out.size _) (Nat.le_refl _)); rw [← List.replicate_succ'] at hown2; have Own2 := Lib.hid hown2; clear hown2 hlow2)
      go_roundw
      case rel => exact ⟨j + 1, by omega, by go_num, Own2, Low2⟩
      case measure => simp [intOf]; omega
    · obtain rfl : j = 20 := by omega
      obtain ⟨A, c, rfl, _, hbt⟩ := own_byt own.out
      have Hbt := Lib.hid hbt
      have HC := Lib.hid (hmac_any elevens hi A (some ⟨wr.heap.size, 0, none⟩) c 20 8 8 (wr.alloc (.cells #[.int .u8 72, .int .u8 105, .int .u8 32, .int .u8 84, .int .u8 104, .int .u8 101, .int .u8 114, .int .u8 101] 5 (8, 9))) rfl rfl (InB_elev) (inB_of (by decide)) (hbt.below ((Below.refl _ _).alloc (Nat.le_refl _) _) (Nat.le_refl _)) (byt_rowF (l := hi) (Go.heap_alloc_new wr _) rfl) (HL.out.below (low.out.alloc low.out.size _) hsz) (by omega) (by omega))
      rw [hi_tag] at HC
      have k1 : (convert 26 26 (.slice (some ⟨wr.heap.size, 0, none⟩) 8 8)).run Tryd.prog (wr.alloc (.cells #[.int .u8 72, .int .u8 105, .int .u8 32, .int .u8 84, .int .u8 104, .int .u8 101, .int .u8 114, .int .u8 101] 5)) = .ok (.slice (some ⟨wr.heap.size, 0, none⟩) 8 8) (wr.alloc (.cells #[.int .u8 72, .int .u8 105, .int .u8 32, .int .u8 84, .int .u8 104, .int .u8 101, .int .u8 114, .int .u8 101] 5 (8, 9))) := conv_const wr _ 8
      clear own hbt
      go_upto_region 7 with (first
        | (go_at_call 35; refine HC.out.mono ?_; rintro e w1 ⟨rfl, low1⟩; have Low1 := Lib.hid ((low.out.alloc low.out.size _).trans (low1.mono (Nat.le_trans low.out.size (by simp)))); clear low1)
        | (refine wpList_store_row rfl 35 (.tmp 3) (.tmp 15) rfl w1.heap.size (u8s hiTag) (by rfl) (by rfl) 35 _ (Go.heap_alloc_new w1 _) Hi1.out rfl (u8s_one _) ?_; rw [World.setRow_alloc_new]))
      have h3 := Go.heap_alloc_new w1 (.cells (u8s hiTag) 35)
      have low2 := Low1.out.alloc Low1.out.size (.cells (u8s hiTag) 35)
      generalize hw2 : World.alloc w1 _ = w2 at h3 low2 ⊢
      clear hw2 k1
      have HJ := Lib.hid (jefe_call w2 (HL.out.below low2 hsz))
      have k1 : (convert 26 26 (.slice (some ⟨w2.heap.size, 0, none⟩) 4 4)).run Tryd.prog (w2.alloc (.cells #[.int .u8 74, .int .u8 101, .int .u8 102, .int .u8 101] 5)) = .ok (.slice (some ⟨w2.heap.size, 0, none⟩) 4 4) (w2.alloc (.cells #[.int .u8 74, .int .u8 101, .int .u8 102, .int .u8 101] 5 (4, 5))) := conv_const w2 _ 4
      have k2 : (convert 26 26 (.slice (some ⟨w2.heap.size + 1, 0, none⟩) 28 28)).run Tryd.prog ((w2.alloc (.cells #[.int .u8 74, .int .u8 101, .int .u8 102, .int .u8 101] 5 (4, 5))).alloc (.cells #[.int .u8 119, .int .u8 104, .int .u8 97, .int .u8 116, .int .u8 32, .int .u8 100, .int .u8 111, .int .u8 32, .int .u8 121, .int .u8 97, .int .u8 32, .int .u8 119, .int .u8 97, .int .u8 110, .int .u8 116, .int .u8 32, .int .u8 102, .int .u8 111, .int .u8 114, .int .u8 32, .int .u8 110, .int .u8 111, .int .u8 116, .int .u8 104, .int .u8 105, .int .u8 110, .int .u8 103, .int .u8 63] 5)) = .ok (.slice (some ⟨w2.heap.size + 1, 0, none⟩) 28 28) ((w2.alloc (.cells #[.int .u8 74, .int .u8 101, .int .u8 102, .int .u8 101] 5 (4, 5))).alloc (.cells #[.int .u8 119, .int .u8 104, .int .u8 97, .int .u8 116, .int .u8 32, .int .u8 100, .int .u8 111, .int .u8 32, .int .u8 121, .int .u8 97, .int .u8 32, .int .u8 119, .int .u8 97, .int .u8 110, .int .u8 116, .int .u8 32, .int .u8 102, .int .u8 111, .int .u8 114, .int .u8 32, .int .u8 110, .int .u8 111, .int .u8 116, .int .u8 104, .int .u8 105, .int .u8 110, .int .u8 103, .int .u8 63] 5 (28, 29))) := conv_const2 w2 _ _ 28
      have H3 := Lib.hid h3
      have Low2 := Lib.hid low2
      clear h3 low2
      simp only [Act.put]
      go_cut [3, 4] (fun a b wx => ∃ g3 g4 : Nat, a = .pointer (some ⟨g3, 0, none⟩) ∧ b = .pointer (some ⟨g4, 0, none⟩) ∧ Hid (wx.heap[g3]? = some (.cells (u8s hiTag) 35 (0, 0))) ∧ Hid (wx.heap[g4]? = some (.cells (u8s jefeTag) 35 (0, 0))) ∧ Hid (Below w.heap.size w wx))
      case first =>
        go_wp2_with (first
          | (go_at_call 35; refine HJ.out.mono ?_; rintro e w4 ⟨rfl, low4⟩; have H4 := Lib.hid ((low4.block _ (Array.getElem?_eq_some_iff.1 H3.out).1).trans H3.out); have Low4 := Lib.hid (Low2.out.trans (low4.mono Low2.out.size)); clear low4)
          | (refine wpList_store_row rfl 35 (.tmp 4) (.tmp 20) rfl w4.heap.size (u8s jefeTag) (by rfl) (by rfl) 35 _ (Go.heap_alloc_new w4 _) Hi2.out rfl (u8s_one _) ?_; rw [World.setRow_alloc_new]))
        go_meet
        exact ⟨w1.heap.size, w4.heap.size, rfl, rfl, (Go.heap_alloc_old w4 _ (Array.getElem?_eq_some_iff.1 H4.out).1).trans H4.out, Go.heap_alloc_new w4 _, Low4.out.alloc Low4.out.size _⟩
      case rest =>
        obtain ⟨g3, g4, rfl, rfl, H3, H4, Low5⟩ := hcut
        rename World => w5
        have c3 := conv_str (n := 32) (w := w5.drew) (byt_rowT (w := w5.drew) H3.out (n := 32) rfl) rfl (by omega)
        clear HC HJ k1 k2 Hi1 Hi2
        go_wp2_with fail
        go_region_with (first
          | (go_at_call 38; refine (works_any w7 (HL.out.below Low7.out hsz)).mono ?_; rintro e w8 ⟨rfl, low8⟩; have Low8 := Lib.hid (Low7.out.trans (low8.mono Low7.out.size)); clear low8)
          | (go_at_call 42; refine (hex_call s2 jefeTag w6 rfl hex2).mono ?_; rintro e w7 ⟨A7, c7, rfl, byt7, low7⟩; have c4b := conv_str (n := 32) byt7 rfl (by omega); have c4c := conv_str (n := 32) (byt_rowT (w := w7) ((low7.block _ (Array.getElem?_eq_some_iff.1 H4'.out).1).trans H4'.out) (n := 32) rfl) rfl (by omega); have Low7 := Lib.hid (Low6.out.trans (low7.mono Low6.out.size)); clear low7 byt7)
          | (go_at_call 42; refine (hex_call s1 hiTag _ rfl hex1).mono ?_; rintro e w6 ⟨A6, c6, rfl, byt6, low6⟩; have c3b := conv_str (n := 32) byt6 rfl (by omega); have c3c := conv_str (n := 32) (byt_rowT (w := w6) ((low6.block _ (Array.getElem?_eq_some_iff.1 H3.out).1).trans H3.out) (n := 32) rfl) rfl (by omega); have H4' := Lib.hid ((low6.block _ (Array.getElem?_eq_some_iff.1 H4.out).1).trans H4.out); have c4a := conv_str (n := 32) (byt_rowT (w := w6) H4'.out (n := 32) rfl) rfl (by omega); have Low6 := Lib.hid (Low5.out.drew.trans (low6.mono Low5.out.size)); clear low6 byt6))
        all_goals
          go_wp2
          go_ret
          exact ⟨rfl, Low8.out⟩
end Go.Proofs.YtbondffjghanlaaDoor.lawKnown2
