/- DERIVED. The walk of the law CodecWrites. -/
import Derived.Test.YtdoklhbjbokcmaaCodWritten
namespace Go.Proofs.Ytdoklhbjbokcmaa.Cod
open Go.RowKit Str
theorem Ap.symm {a b : Value} (h : Ap a b) : Ap b a := fun k e1 e2 => h k e2 e1
/-- the Values' bytes, one behind the other. -/
def encVs (L : List Int) (xs : List Val) (k : Nat) : List Int := L ++ ((xs.take k).map encV).flatten
theorem encVs_zero (L : List Int) (xs : List Val) : encVs L xs 0 = L := by simp [encVs]
theorem encVs_succ {L : List Int} {xs : List Val} {k : Nat} {x : Val} (h : xs[k]? = some x) : encVs L xs (k + 1) = encVs L xs k ++ encV x := by
  unfold encVs
  rw [List.take_add_one, h]
  simp
theorem encVs_le {L : List Int} {xs : List Val} (hok : ∀ x ∈ xs, x.Ok) (hf : FewOk xs) : ∀ k, (encVs L xs k).length ≤ L.length + 320 * k := by
  intro k
  induction k with
  | zero => simp [encVs]
  | succ k ih =>
    cases e : xs[k]? with
    | none => 
      unfold encVs at ih ⊢
      rw [List.take_add_one, e]
      simp at ih ⊢
      omega
    | some x =>
      have := (encV_in (hok x (List.mem_of_getElem? e)) (hf.2 k x e)).2
      rw [encVs_succ e, List.length_append]
      omega
/-- what the law's loop holds to. -/
structure WI (B : List Int) (xs : List Val) (W : World) (k : Nat) (s5 s6 : Value) (wr : World) : Prop where
  sl : SlB (encVs B xs k) s5 wr
  own : NewB W.heap.size (encVs B xs k) s6 wr
  ap : Ap s5 s6
  low : Below W.heap.size W wr
theorem infoVal : (Try.prog.info? 34).map (·.size) = some 39 := by kernel_rfl
theorem made8 (W : World) : (W.alloc (.cells #[] 5)).ownsRow W.heap.size 5 1 (.slice (some ⟨W.heap.size, 0, none⟩) 0 0) 0 (vals []) :=
  ⟨rfl, .inr ⟨W.heap.size, 0, #[], rfl, Nat.le_refl _, Go.heap_alloc_new _ _, Nat.le_refl _, Nat.zero_le _, rfl, rfl⟩⟩
set_option maxRecDepth 100000 in
set_option maxHeartbeats 8000000 in
theorem writes_walk (A A1 : Option Addr) (n c n1 c1 : Nat) (L : List Int) (xs : List Val) (hn : L.length = n) (hn1 : xs.length = n1) (hok : ∀ x ∈ xs, x.Ok) (hm : n ≤ maxLen) (hm1 : n1 ≤ maxLen) (w : World) (hB : Byt w A c L) (hX : Vals w A1 c1 xs) :
    Calls Try.prog 3 #[.slice A n c, .slice A1 n1 c1] w fun e w' => e = .returned (.bool true) ∧ Below w.heap.size w w' := by
  have HF := Lib.hid (few_any hX (by omega) hok)
  rw [hn1] at HF
  unfold maxLen at hm hm1
  obtain ⟨m, hmm⟩ : ∃ m, m = min n 100 := ⟨_, rfl⟩
  obtain ⟨B, hBB⟩ : ∃ B, B = L.take m := ⟨_, rfl⟩
  have hBl : B.length = m := by rw [hBB, List.length_take]; omega
  have hSB : Byt w A c B := by rw [hBB]; exact byt_take hB m
  have hcap := hB.1
  have HSB := Lib.hid hSB
  have HBl := Lib.hid hBl
  have Hmm := Lib.hid hmm
  have Hok := Lib.hid hok
  have HX := Lib.hid hX
  have Hn1 := Lib.hid hn1
  have hm4 : m ≤ 100 := by omega
  have hmn : m ≤ n := by omega
  rw [hn] at hcap
  clear hmm hBB hBl hSB hB hok hX hn hn1
  go_enter Try.func3, Try.ntmps3
  go_upto_region 1 with (fail)
  go_cut [10] (fun s10 wx => ∃ r, s10 = .bool r ∧ Hid (r = false → FewOk xs) ∧ Hid (Below w.heap.size w wx))
  case first =>
    go_wp2_with (go_at_call 9; refine HF.out.mono ?_; rintro e w1 ⟨r, rfl, hr, low1⟩; have Low1 := Lib.hid low1; have Hr := Lib.hid hr; clear low1 hr)
    go_meet
    exact ⟨_, rfl, fun h => Hr.out (by simpa using h), Low1.out⟩
  case rest =>
    obtain ⟨r, rfl, hr, low1⟩ := hcut
    clear HF
    cases r with
    | true =>
      go_wp2_with (go_at_call 10; refine (works_any _).mono ?_; rintro e w3 ⟨rfl, low3⟩; have Low3 := Lib.hid low3; clear low3)
      go_ret
      exact ⟨rfl, low1.out.trans (Low3.out.mono low1.out.size)⟩
    | false =>
      have HFew := Lib.hid (hr.out rfl)
      clear hr
      rename World => w1
      go_upto_region 3 with (fail)
      go_cut [0] (fun s0 wx => s0 = .slice A m c ∧ wx = w1)
      case first =>
        by_cases h4 : n ≤ 100
        · obtain rfl : m = n := by have := Hmm.out; omega
          have h4' : (m : Int) ≤ 100 := by omega
          clear Hmm
          go_wp2
          go_meet
          exact ⟨rfl, rfl⟩
        · obtain rfl : m = 100 := by have := Hmm.out; omega
          have h4' : ¬ (n : Int) ≤ 100 := by omega
          have h5' : ¬ (n : Int) < 100 := by omega
          have hcI : (100 : Int) ≤ (c : Int) := by omega
          clear Hmm
          go_wp2
          go_meet
          exact ⟨rfl, rfl⟩
      case rest =>
        obtain ⟨rfl, hww⟩ := hcut
        subst hww
        rename World => w1
        have hs1 : w.heap.size ≤ w1.heap.size := low1.out.size
        go_upto_region 6 with (first
          | (at_builtin; refine wpList_append_any rfl (.tmp 20) (.tmp 21) rfl w2.heap.size _ 0 [] rfl (made8 w2) A m c B rfl HBl.out (HSB.out.below (Low2.out.alloc (Nat.le_trans hs1 Hsz2.out) _) (Nat.le_refl _)) (by omega) (by rw [World.size_alloc]; omega) ?_; intro v3 w3 own3 hlow3; have Own3 := Lib.hid own3; have Low3 := Lib.hid (hlow3 _ _ ((Below.refl w2.heap.size w2).alloc (Nat.le_refl _) _) (Nat.le_refl _)); clear own3 hlow3)
          | (at_builtin; refine wpList_append_any rfl (.tmp 17) (.tmp 18) rfl w1.heap.size _ 0 [] rfl (made8 w1) A m c B rfl HBl.out (HSB.out.below (low1.out.alloc hs1 _) (Nat.le_refl _)) (by omega) (by rw [World.size_alloc]; omega) ?_; intro v2 w2 own2 hlow2; have Own2 := Lib.hid own2; have Low2 := Lib.hid (hlow2 _ _ (low1.out.alloc hs1 _) hs1); have Hsz2 := Lib.hid (hlow2 _ _ ((Below.refl w1.heap.size w1).alloc (Nat.le_refl _) _) (Nat.le_refl _)).size; clear own2 hlow2))
        have P2 : NewB w1.heap.size B v2 w2 := by have h := Own2.out; rw [Nat.zero_add, ← HBl.out] at h; exact h
        have P3 : NewB w2.heap.size B v3 w3 := by have h := Own3.out; rw [Nat.zero_add, ← HBl.out] at h; exact h
        have HW0 : Hid (WI B xs w 0 v2 v3 w3) := by
          refine ⟨?_, ?_, (ap_new P3 P2 (Nat.le_refl _)).symm, Low2.out.trans (Low3.out.mono Low2.out.size)⟩
          · rw [encVs_zero]; exact (P2.later Low3.out).sl
          · rw [encVs_zero]; exact P3.base Low2.out.size
        clear P2 P3 Own2 Own3 Low2 Low3 Hsz2 HSB
        go_wp2
        go_loopw [5, 6, 7] (fun s5 s6 i wr => ∃ k : Nat, k ≤ n1 ∧ i = .int .i64 (k : Nat) ∧ Hid (WI B xs w k s5 s6 wr)) (fun _ _ i _ => n1 - (intOf i).toNat)
        case atStart => exact ⟨0, by omega, rfl, HW0⟩
        case round =>
          obtain ⟨k, hk, rfl, hI⟩ := hrel
          clear HW0
          have hl20 : n1 ≤ 20 := by have := HFew.out.1; have := Hn1.out; omega
          have hlen := encVs_le (L := B) Hok.out HFew.out k
          have hlen2 : (encVs B xs k).length ≤ 39000 := by have := HBl.out; omega
          have Hlen := Lib.hid hlen2
          clear hlen hlen2
          by_cases hlt : k < n1
          · have hlt' : (k : Int) < n1 := by omega
            obtain ⟨x, hx⟩ : ∃ x, xs[k]? = some x := ⟨_, List.getElem?_eq_getElem (by have := Hn1.out; omega)⟩
            obtain ⟨b, off, rfl, hb, hcell⟩ := HX.out.2.2 (by have := Hn1.out; omega)
            have hcap1 : n1 ≤ c1 := by have := HX.out.1; have := Hn1.out; omega
            have hr : wr.rangeAt b (off + k * 39) x.cells.toList := fun j v hv => (hI.out.low.cell (p := ⟨b, off + k * 39 + j, none⟩) hb).trans (hcell k x hx j v hv)
            have Hr := Lib.hid hr
            have Hx := Lib.hid hx
            have HIV : Hid ((Try.prog.info? 34).map (·.size) = some x.cells.toList.length) := by show _ = _; rw [Array.length_toList, x.size (Hok.out x (List.mem_of_getElem? hx)).hl]; exact infoVal
            have HWr := Lib.hid (written_any (L := encVs B xs k) (M := encVs B xs k) (base := w.heap.size) x (Hok.out x (List.mem_of_getElem? hx)) (HFew.out.2 k x hx) wr hI.out.sl hI.out.own hI.out.ap hI.out.low.size Hlen.out Hlen.out)
            clear hcell hr hx hb
            go_wp2_with (first
              | (go_at_call 11; refine HWr.out.mono ?_; rintro e w4 ⟨v1, v2', rfl, own1, own2, ap, gr⟩; have HI2 : Hid (WI B xs w (k + 1) v1 v2' w4) := ⟨by rw [encVs_succ Hx.out]; exact own1.sl, by rw [encVs_succ Hx.out]; exact own2, ap, hI.out.low.grown gr hI.out.low.size (fun q hq => (World.ownsRow.lt hI.out.own q hq).1)⟩; clear own1 own2 ap gr)
              | (with_reducible refine wpList_load_mid rfl 34 (.tmp 34) rfl b (off + k * 39) rfl x.cells.toList _ Hr.out Try.underlying34 rfl HIV.out ?_))
            go_roundw
            case rel => exact ⟨k + 1, by omega, by go_num, HI2⟩
            case measure => simp [intOf]; omega
          · have hlt' : ¬ (k : Int) < n1 := by omega
            obtain rfl : k = n1 := by omega
            obtain ⟨A5, c5, rfl, b5⟩ := hI.out.sl
            obtain ⟨A6, c6, rfl, _, b6⟩ := own_byt hI.out.own
            have low := Lib.hid hI.out.low
            have cv5 := conv_any b5 rfl
            have cv6 := conv_any b6 rfl
            clear hI b5 b6
            go_wp2_with (go_at_call 10; refine (works_any _).mono ?_; rintro e w5 ⟨rfl, low5⟩; have Low5 := Lib.hid low5; clear low5)
            go_ret
            exact ⟨rfl, low.out.trans (Low5.out.mono low.out.size)⟩
end Go.Proofs.Ytdoklhbjbokcmaa.Cod
