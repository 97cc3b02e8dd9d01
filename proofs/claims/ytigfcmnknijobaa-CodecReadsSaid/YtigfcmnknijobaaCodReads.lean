/- DERIVED. The walk of the law CodecReads. -/
import Derived.Test.YtigfcmnknijobaaRead
import Derived.Test.YtigfcmnknijobaaCodEncs
namespace Go.Proofs.Ytigfcmnknijobaa.Cod
open Go.RowKit Str
theorem cutL_drop (L : List Int) (m : Nat) : ∃ j, (cutL L m).2.1 = L.drop j := by
  unfold cutL
  split
  · exact ⟨L.length, by simp⟩
  · split
    · exact ⟨L.length, by simp⟩
    · exact ⟨_, rfl⟩
theorem rdOf_drop {α : Type} (z : α) (L : List Int) (e : Int) (r : α × List Int × Int) (h : ∃ j, r.2.1 = L.drop j) : ∃ j, (rdOf z L e r).2.1 = L.drop j := by
  unfold rdOf
  split
  · dsimp only
    split
    · exact h
    · exact ⟨0, rfl⟩
  · exact ⟨0, rfl⟩
theorem restK_drop (x : Val) (L : List Int) (e : Int) : ∃ j, (restK x L e).1 = L.drop j := by
  unfold restK
  split
  · unfold readN
    split
    · dsimp only
      split
      · exact cutL_drop L _
      · exact ⟨0, rfl⟩
    · exact ⟨0, rfl⟩
  split
  · refine rdOf_drop _ _ _ _ ?_
    unfold textR
    split
    · exact ⟨L.length, by simp⟩
    split
    · exact ⟨L.length, by simp⟩
    · obtain ⟨j, hj⟩ := cutL_drop L (mostN x.mo)
      exact ⟨_, by rw [hj, List.drop_drop]⟩
  split
  · refine rdOf_drop _ _ _ _ ?_
    unfold hashR
    split
    · exact ⟨L.length, by simp⟩
    · exact ⟨_, rfl⟩
  split
  · refine rdOf_drop _ _ _ _ ?_
    unfold labelR
    split
    · exact ⟨L.length, by simp⟩
    split
    · exact ⟨L.length, by simp⟩
    · obtain ⟨j, hj⟩ := cutL_drop L 15
      exact ⟨_, by rw [hj, List.drop_drop]⟩
  · refine rdOf_drop _ _ _ _ ?_
    unfold vertexR
    split
    · exact ⟨L.length, by simp⟩
    split
    · exact ⟨L.length, by simp⟩
    · obtain ⟨j, hj⟩ := cutL_drop (L.drop 32) 4294967296
      exact ⟨_, by rw [hj, List.drop_drop]⟩
theorem below_chg {S : List Nat} {w a b : World} (h : Below w.heap.size w a) (k : Chg S a b) (hs : ∀ q ∈ S, w.heap.size ≤ q) : Below w.heap.size w b :=
  ⟨k.os.trans h.os, k.tape.trans h.tape, k.output.trans h.output, Nat.le_trans h.size k.size, fun i hi => (k.block i (Nat.lt_of_lt_of_le hi h.size) (fun hm => by have := hs i hm; omega)).trans (h.block i hi)⟩
/-- what the loop holds to. -/
def RI (W : World) (B rb g : Nat) (wr : World) : Prop := ∃ M e, InB M ∧ M.length ≤ 2000 ∧ Rdr rb M e wr ∧ QE B g M e wr ∧ Below W.heap.size W wr ∧ B ≤ wr.heap.size
set_option maxRecDepth 100000 in
set_option maxHeartbeats 8000000 in
theorem reads_walk (A A1 : Option Addr) (n c n1 c1 : Nat) (L : List Int) (xs : List Val) (hn : L.length = n) (hn1 : xs.length = n1) (hb : InB L) (hok : ∀ x ∈ xs, x.Ok) (hm : n ≤ maxLen) (hm1 : n1 ≤ maxLen) (w : World) (hB : Byt w A c L) (hX : Vals w A1 c1 xs) :
    Calls Try.prog 3 #[.slice A n c, .slice A1 n1 c1] w fun e w' => e = .returned (.bool true) ∧ Below w.heap.size w w' := by
  unfold maxLen at hm hm1
  obtain ⟨m, hmm⟩ : ∃ m, m = min n 2000 := ⟨_, rfl⟩
  obtain ⟨B, hBB⟩ : ∃ B, B = L.take m := ⟨_, rfl⟩
  have hBl : B.length = m := by rw [hBB, List.length_take]; omega
  have hSB : Byt w A c B := by rw [hBB]; exact byt_take hB m
  have HBi : Hid (InB B) := by show InB B; rw [hBB]; exact hb.take m
  have hcap := hB.1
  have HS : Hid (SlB B (.slice A m c) w) := by rw [← hBl]; exact ⟨A, c, rfl, hSB⟩
  have cv := conv_any hSB hBl
  have HSB := Lib.hid hSB
  have HBl := Lib.hid hBl
  have Hmm := Lib.hid hmm
  have Hok := Lib.hid hok
  have HX := Lib.hid hX
  have Hn1 := Lib.hid hn1
  have hm4 : m ≤ 2000 := by omega
  have hmn : m ≤ n := by omega
  rw [hn] at hcap
  clear hmm hBB hBl hSB hB hb hok hX hn hn1
  have Hcv := Lib.hid cv
  clear cv
  go_enter Try.func3, Try.ntmps3
  go_upto_region 1 with (fail)
  go_cut [0] (fun s0 wx => s0 = .slice A m c ∧ wx = w)
  case first =>
    by_cases h4 : n ≤ 2000
    · obtain rfl : m = n := by have := Hmm.out; omega
      have h4' : (m : Int) ≤ 2000 := by omega
      clear Hmm
      go_wp2
      go_meet
      exact ⟨rfl, rfl⟩
    · obtain rfl : m = 2000 := by have := Hmm.out; omega
      have h4' : ¬ (n : Int) ≤ 2000 := by omega
      have h5' : ¬ (n : Int) < 2000 := by omega
      have hcI : (2000 : Int) ≤ (c : Int) := by omega
      clear Hmm
      go_wp2
      go_meet
      exact ⟨rfl, rfl⟩
  case rest =>
    obtain ⟨rfl, hww⟩ := hcut
    subst hww
    rename World => w
    have cv := Hcv.out
    go_upto_region 3 with (fail)
    clear cv
    go_upto_region 5 with (first
      | (go_at_call 5; refine (open_any (L := B) HS.out (by rw [HBl.out]; omega)).mono ?_; rintro e w2 ⟨rb, rfl, hrb, rdr, low2⟩; have Hrb := Lib.hid hrb; have Hrd := Lib.hid rdr; have Low2 := Lib.hid low2; clear hrb rdr low2)
      | (at_builtin; refine wpList_append_any rfl (.tmp 18) (.tmp 19) rfl w2.heap.size _ 0 [] rfl (made8 w2) A m c B rfl HBl.out (HSB.out.below (Low2.out.alloc Low2.out.size _) (Nat.le_refl _)) (by omega) (by rw [World.size_alloc]; omega) ?_; intro v3 w3 own3 hlow3; rw [Nat.zero_add] at own3; have Hlt := Lib.hid (fun q hq => (World.ownsRow.lt own3 q hq).2); obtain ⟨A3, c3, rfl, _, hb3⟩ := own_byt (L := B) own3; have Hb3 := Lib.hid hb3; have Low3 := Lib.hid (hlow3 _ _ ((Below.refl w2.heap.size w2).alloc (Nat.le_refl _) _) (Nat.le_refl _)); clear own3 hlow3 hb3))
    obtain ⟨w4, hw4⟩ : ∃ w4, w4 = w3.alloc (.cells #[.slice A3 m c3, .int .i64 0] 28) := ⟨_, rfl⟩
    have h4 : w4.heap[w3.heap.size]? = some (.cells #[.slice A3 m c3, .int .i64 0] 28 (0, 0)) := by rw [hw4]; exact Go.heap_alloc_new w3 _
    have l4 : Below w3.heap.size w3 w4 := by rw [hw4]; exact (Below.refl _ _).alloc (Nat.le_refl _) _
    rw [← hw4]
    clear hw4
    obtain ⟨g, hg⟩ : ∃ g, g = w3.heap.size := ⟨_, rfl⟩
    have HQ0 : Hid (QE g g B 0 w4) := by
      rw [hg]
      exact QR.e ⟨.slice A3 m c3, h4, ⟨A3, c3, by rw [HBl.out], Hb3.out.below l4 (Nat.le_refl _)⟩, fun a x y he => Hlt.out a.block (by rw [he]; rfl)⟩
    have low4 : Below w.heap.size w w4 := Low2.out.trans ((Low3.out.mono Low2.out.size).trans (l4.mono (Nat.le_trans Low2.out.size Low3.out.size)))
    have hrb1 := Hrd.out.lt
    have hs23 := Low3.out.size
    have hne : rb ≠ g := by omega
    have hwg : w.heap.size ≤ g := by have := Low2.out.size; omega
    have hR4 : Rdr rb B 0 w4 := (Hrd.out.later Low3.out).later l4
    have HI0 : Hid (RI w g rb g w4) := ⟨B, 0, HBi.out, by rw [HBl.out]; exact hm4, hR4, HQ0.out, low4, by rw [hg]; exact l4.size⟩
    have Hne := Lib.hid hne
    have Hwg := Lib.hid hwg
    rw [← hg]
    clear hR4 hwg hne hs23 hrb1 low4 l4 h4 HQ0 Low3 Hb3 Hlt Low2 Hrd HS hg
    go_wp2
    go_loopw [8] (fun i wr => ∃ k : Nat, k ≤ n1 ∧ k ≤ 20 ∧ i = .int .i64 (k : Nat) ∧ Hid (RI w g rb g wr)) (fun i _ => n1 - (intOf i).toNat)
    case atStart => exact ⟨0, by omega, by omega, rfl, HI0⟩
    case round =>
      obtain ⟨k, hk, hk20, rfl, hI⟩ := hrel
      clear HI0
      obtain ⟨M, e, hM, hMl, hR, hQ, hlow, hsz⟩ := hI.out
      clear hI
      by_cases hlt : k < n1 ∧ k < 20
      · have hlt' : (k : Int) < n1 := by omega
        have hlt2 : (k : Int) < 20 := by omega
        obtain ⟨x, hx⟩ : ∃ x, xs[k]? = some x := ⟨_, List.getElem?_eq_getElem (by have := Hn1.out; omega)⟩
        obtain ⟨b, off, rfl, hb, hcell⟩ := HX.out.2.2 (by have := Hn1.out; omega)
        have hcap1 : n1 ≤ c1 := by have := HX.out.1; have := Hn1.out; omega
        have ox := Hok.out x (List.mem_of_getElem? hx)
        have Hr : Hid (World.rangeAt _ b (off + k * 39) x.cells.toList) := fun j v hv => (hlow.cell (p := ⟨b, off + k * 39 + j, none⟩) hb).trans (hcell k x hx j v hv)
        have HIV : Hid ((Try.prog.info? 36).map (·.size) = some x.cells.toList.length) := by show _ = _; rw [Array.length_toList, x.size ox.hl]; exact infoVal
        have HRd := Lib.hid (read_any x ox hR hQ hM (by omega) hsz Hne.out)
        obtain ⟨j, hj⟩ := restK_drop x M e
        have HM2 : Hid (InB (restK x M e).1 ∧ (restK x M e).1.length ≤ 2000) := by rw [hj]; exact ⟨hM.drop j, by rw [List.length_drop]; omega⟩
        have Hlow := Lib.hid hlow
        have Hsz := Lib.hid hsz
        have hlt3 := hlt.1
        have hlt4 := hlt.2
        clear hlt hx hb hcell ox hj hM hMl hR hQ hlow hsz
        go_wp2_with (first
          | (go_at_call 6; refine HRd.out.mono ?_; rintro e4 w5 ⟨rfl, rd, rq, ch⟩; have HI2 : Hid (RI w g rb g w5) := ⟨_, _, HM2.out.1, HM2.out.2, rd, rq, below_chg Hlow.out ch (fun q hq => by have := Hwg.out; have := Hrb.out; simp at hq; omega), Nat.le_trans Hsz.out ch.size⟩; clear rd rq ch)
          | (with_reducible refine wpList_load_mid rfl 36 (.tmp 37) rfl b (off + k * 39) rfl x.cells.toList _ Hr.out Try.underlying36 rfl HIV.out ?_))
        go_roundw
        case rel => exact ⟨k + 1, by omega, by omega, by go_num, HI2⟩
        case measure => simp [intOf]; omega
      · have cv := conv_any (HSB.out.below hlow (Nat.le_refl _)) HBl.out
        have HR := Lib.hid hR
        have HQ := Lib.hid hQ
        have Hlow := Lib.hid hlow
        clear hM hMl hR hQ hlow hsz
        by_cases h1 : k < n1
        · have hlt' : (k : Int) < n1 := by omega
          have hlt2 : ¬ (k : Int) < 20 := by omega
          clear hlt
          go_wp2_with (first
            | (go_at_call 9; refine (works_any _).mono ?_; rintro e5 w5 ⟨rfl, low5⟩; have Low5 := Lib.hid low5; clear low5)
            | (go_at_call 7; refine (done_any HR.out).mono ?_; rintro e5 w5 ⟨rfl, rfl⟩)
            | (go_at_call 8; refine (q_done HQ.out).mono ?_; rintro e5 w5 ⟨rfl, rfl⟩))
          go_ret
          exact ⟨rfl, Hlow.out.trans (Low5.out.mono Hlow.out.size)⟩
        · have hlt' : ¬ (k : Int) < n1 := by omega
          clear hlt
          go_wp2_with (first
            | (go_at_call 9; refine (works_any _).mono ?_; rintro e5 w5 ⟨rfl, low5⟩; have Low5 := Lib.hid low5; clear low5)
            | (go_at_call 7; refine (done_any HR.out).mono ?_; rintro e5 w5 ⟨rfl, rfl⟩)
            | (go_at_call 8; refine (q_done HQ.out).mono ?_; rintro e5 w5 ⟨rfl, rfl⟩))
          go_ret
          exact ⟨rfl, Hlow.out.trans (Low5.out.mono Hlow.out.size)⟩
end Go.Proofs.Ytigfcmnknijobaa.Cod
