/- DERIVED. The contract of the reference's Hash. -/
import Derived.Test.YtigfcmnknijobaaRefRdText
namespace Go.Proofs.Ytigfcmnknijobaa.Cod
open Go.RowKit Str
/-- the bytes that are there, zeros behind. -/
def fillH (X : List Int) (k : Nat) : List Int := X.take k ++ List.replicate (32 - k) 0
theorem fillH_length {X : List Int} {k : Nat} (hX : k ≤ X.length) (hk : k ≤ 32) : (fillH X k).length = 32 := by
  unfold fillH
  rw [List.length_append, List.length_take, List.length_replicate]
  omega
theorem fillH_set {X : List Int} {k : Nat} (hk : k < X.length) (h32 : k < 32) : (fillH X k).set k (X.getD k 0) = fillH X (k + 1) := by
  unfold fillH
  have e : List.replicate (32 - k) (0 : Int) = 0 :: List.replicate (32 - (k + 1)) 0 := by rw [show 32 - k = (32 - (k + 1)) + 1 by omega, List.replicate_succ]
  rw [e, List.set_append_right _ _ (by simp; omega), List.length_take, show k - min k X.length = 0 by omega, List.set_cons_zero, List.take_add_one, List.getElem?_eq_getElem hk, List.append_assoc]
  simp [List.getD_eq_getElem?_getD, hk]
theorem setRow_at {w : World} {g : Nat} {old cs : Array Value} {T : TypeId} (h : w.heap[g]? = some (.cells old T (0, 0))) : (w.setRow g cs).heap[g]? = some (.cells cs T (0, 0)) := by
  simp [World.setRow, Array.getElem?_modify, h]
theorem setRow_ne {w : World} {g k : Nat} {cs : Array Value} (h : g ≠ k) : (w.setRow g cs).heap[k]? = w.heap[k]? := by
  simp [World.setRow, Array.getElem?_modify, h]
theorem setRow_size (w : World) (g : Nat) (cs : Array Value) : (w.setRow g cs).heap.size = w.heap.size := by simp [World.setRow]
theorem chg_setRow (w : World) (g : Nat) (cs : Array Value) : Chg [g] w (w.setRow g cs) :=
  ⟨rfl, rfl, rfl, by rw [setRow_size]; exact Nat.le_refl _, fun k _ hk => setRow_ne (fun e => hk (List.mem_singleton.2 e.symm))⟩
/-- the reader stays when what changes are other blocks, from B on. -/
theorem QE.keep {B g : Nat} {L : List Int} {e : Int} {S : List Nat} {w w' : World} (h : QE B g L e w) (hc : Chg S w w') (hg : g ∉ S) (hS : ∀ k ∈ S, B ≤ k) : QE B g L e w' := by
  obtain ⟨M, ⟨v, h1, h2, h3⟩, h4⟩ := h
  refine ⟨M, ⟨v, hc.at h1 hg, ?_, h3⟩, h4⟩
  obtain ⟨A, c, rfl, b1, b2, b3⟩ := h2
  refine ⟨A, c, rfl, b1, b2, fun hl => ?_⟩
  obtain ⟨b0, off, rfl, hb, hcell⟩ := b3 hl
  have hlt : b0 < B := h3 ⟨b0, off, none⟩ _ _ rfl
  exact ⟨b0, off, rfl, Nat.lt_of_lt_of_le hb hc.size, fun j hj => (World.cell?_of_block (hc.block b0 hb (fun hm => by have := hS b0 hm; omega))).trans (hcell j hj)⟩
theorem zero32c : (#[.int .u8 0, .int .u8 0, .int .u8 0, .int .u8 0, .int .u8 0, .int .u8 0, .int .u8 0, .int .u8 0, .int .u8 0, .int .u8 0, .int .u8 0, .int .u8 0, .int .u8 0, .int .u8 0, .int .u8 0, .int .u8 0, .int .u8 0, .int .u8 0, .int .u8 0, .int .u8 0, .int .u8 0, .int .u8 0, .int .u8 0, .int .u8 0, .int .u8 0, .int .u8 0, .int .u8 0, .int .u8 0, .int .u8 0, .int .u8 0, .int .u8 0, .int .u8 0] : Array Value) = u8s z32 := rfl
set_option maxRecDepth 100000 in
set_option maxHeartbeats 4000000 in
/-- the loop, whatever Take gives. -/
theorem rhash_core {B g : Nat} {X L' : List Int} {e' : Int} {w : World} (hX : X.length = 0 ∨ X.length = 32) (hg : g < w.heap.size) (hB : B ≤ w.heap.size)
    (HT : Calls Try.prog 40 #[.pointer (some ⟨g, 0, none⟩), .int .i64 32] ((w.alloc (.cells (u8s z32) 32)).alloc (.cells (u8s z32) 32)) fun e w' => ∃ v, e = .returned v ∧ SlB X v w' ∧ LowV B v ∧ QE B g L' e' w' ∧ Chg [g] ((w.alloc (.cells (u8s z32) 32)).alloc (.cells (u8s z32) 32)) w') :
    Calls Try.prog 20 #[.pointer (some ⟨g, 0, none⟩)] w fun e w' => e = .returned (.agg (u8s (fillH X X.length))) ∧ QE B g L' e' w' ∧ Chg [g] w w' := by
  have h2 := two_new w (.cells (u8s z32) 32) (.cells (u8s z32) 32)
  have low : Below w.heap.size w ((w.alloc (.cells (u8s z32) 32)).alloc (.cells (u8s z32) 32)) := ((Below.refl _ _).alloc (Nat.le_refl _) _).alloc (by simp) _
  obtain ⟨w2, hw2⟩ : ∃ w2, w2 = (w.alloc (.cells (u8s z32) 32)).alloc (.cells (u8s z32) 32) := ⟨_, rfl⟩
  rw [← hw2] at h2 low HT
  have hs2 : w2.heap.size = w.heap.size + 1 + 1 := by rw [hw2]; simp
  have HTk := Lib.hid HT
  have HR := Lib.hid h2.1
  have HH := Lib.hid h2.2
  have Hw := Lib.hid hw2
  have Low := Lib.hid low
  have Hs2 := Lib.hid hs2
  have Hg := Lib.hid hg
  have HB := Lib.hid hB
  have HX := Lib.hid hX
  clear HT h2 low hw2 hs2 hg hB hX
  go_enter Try.func20, Try.ntmps20
  go_upto_region 2 with (fail)
  change Code.wp _ _ _ _ ((w.alloc (.cells (u8s z32) 32)).alloc (.cells (u8s z32) 32))
  rw [← Hw.out]
  clear Hw
  obtain ⟨bh, hbh⟩ : ∃ bh, bh = w.heap.size + 1 := ⟨_, rfl⟩
  rw [← hbh] at HH ⊢
  obtain ⟨br, hbr⟩ : ∃ br, br = w.heap.size := ⟨_, rfl⟩
  rw [← hbr] at HR ⊢
  have Hne : Hid (br ≠ bh ∧ g ≠ br ∧ g ≠ bh ∧ B ≤ br ∧ B ≤ bh ∧ w.heap.size ≤ br ∧ w.heap.size ≤ bh ∧ bh < w2.heap.size) := by
    have := Hg.out
    have := HB.out
    have := Hs2.out
    exact ⟨by omega, by omega, by omega, by omega, by omega, by omega, by omega, by omega⟩
  clear hbh hbr
  go_upto_region 3 with (go_at_call 40; refine HTk.out.mono ?_; rintro e w3 ⟨v, rfl, hsl, hlv, hq, hc⟩; have Hsl := Lib.hid hsl; have Hlv := Lib.hid hlv; have Hq := Lib.hid hq; have Hc := Lib.hid hc; clear hsl hlv hq hc)
  rename World => w3
  obtain ⟨A, cp, rfl, hby⟩ := Hsl.out
  have Hby := Lib.hid hby
  have hcap := hby.1
  obtain ⟨n, hn⟩ : ∃ n, n = X.length := ⟨_, rfl⟩
  have Hn := Lib.hid hn
  rw [← hn] at hcap ⊢
  have hn32 : n ≤ 32 := by have := HX.out; omega
  have rH : w3.heap[bh]? = some (.cells (u8s (fillH X 0)) 32 (0, 0)) := Hc.out.at HH.out (by have := Hne.out.2.2.1; simp; omega)
  have rR : w3.heap[br]? = some (.cells (u8s z32) 32 (0, 0)) := Hc.out.at HR.out (by have := Hne.out.2.1; simp; omega)
  have HR3 := Lib.hid rR
  have HI0 : Hid (w3.heap[bh]? = some (.cells (u8s (fillH X 0)) 32 (0, 0)) ∧ Chg [bh] w3 w3) := ⟨rH, Chg.refl _ _⟩
  clear hn hby rH rR HTk Hsl HH HR
  go_wp2
  go_loopw [5] (fun i wr => ∃ k : Nat, k ≤ n ∧ i = .int .i64 (k : Nat) ∧ Hid (wr.heap[bh]? = some (.cells (u8s (fillH X k)) 32 (0, 0)) ∧ Chg [bh] w3 wr)) (fun i _ => n - (intOf i).toNat)
  case atStart => exact ⟨0, by omega, rfl, HI0⟩
  case round =>
    obtain ⟨k, hk, rfl, hI⟩ := hrel
    clear HI0
    by_cases hlt : k < n
    · have hlt' : (k : Int) < n := by omega
      have hk32 : (k : Int) < 32 := by omega
      obtain ⟨b0, off, rfl, hbb, hc⟩ := Hby.out.2.2 (by have := Hn.out; omega)
      have hbB : b0 < B := Hlv.out ⟨b0, off, none⟩ _ _ rfl
      have hck := (World.cell?_of_block (a := ⟨b0, off + k, none⟩) (hI.out.2.block b0 hbb (by have := Hne.out.2.2.2.2.1; simp; omega))).trans (hc k (by have := Hn.out; omega))
      have c0 := (cell_row hI.out.1 k).trans (u8s_get _ k (by rw [fillH_length (by have := Hn.out; omega) (by omega)]; omega))
      have f0 := free_row hI.out.1 k
      clear hc hbb hbB
      go_wp2
      go_roundw
      case rel => exact ⟨k + 1, by omega, by go_num, by rw [heap_setCell_same _ _ _ _ _ _ hI.out.1, u8s_set, ← fillH_set (k := k) (by have := Hn.out; omega) (by omega), List.getD_eq_getElem?_getD], hI.out.2.setCell (List.mem_singleton.2 rfl) _⟩
      case measure => simp [intOf]; omega
    · have hlt' : ¬ (k : Int) < n := by omega
      obtain rfl : k = n := by omega
      have rr := hI.out.2.at HR3.out (by have := Hne.out.1; simp; omega)
      have HRr := Lib.hid rr
      have HI := Lib.hid hI.out
      have H32 : Hid ((Try.prog.info? 32).map (·.size) = some (u8s (fillH X k)).size) := by show _ = _; rw [u8s_size, fillH_length (by have := Hn.out; omega) hn32]; exact infoH32
      clear rr hI
      go_wp2_with (first
        | (with_reducible refine wpList_load_row rfl 32 (.tmp 3) rfl bh rfl 32 (u8s (fillH X k)) (0, 0) _ HI.out.1 Try.underlying32 rfl H32.out ?_)
        | (refine wpList_store_row rfl 32 (.tmp 2) (.tmp 20) rfl br (u8s (fillH X k)) rfl rfl 32 _ HRr.out H32.out (by rw [u8s_size, u8s_size, fillH_length (by have := Hn.out; omega) hn32]; rfl) (u8s_one _) ?_))
      have hrow : (World.setRow _ br (u8s (fillH X k))).heap[br]? = some (.cells (u8s (fillH X k)) 32 (0, 0)) := setRow_at HRr.out
      have c1 := HI.out.2
      have hne := Hne.out
      refine bodyPost_ret (v := .agg (u8s (fillH X k))) (results_cell_row rfl _ _ br 32 _ (0, 0) _ rfl hrow Try.underlying32 rfl H32.out) rfl ⟨by rw [Hn.out], ?_, ?_⟩
      · exact (Hq.out.keep c1 (by simp; omega) (by simp; omega)).keep (chg_setRow _ br _) (by simp; omega) (by simp; omega)
      · exact (((Chg.of_below Low.out).trans ((Hc.out.mono (T := [g]) (fun k hk => .inl hk)))).trans_new c1 hne.2.2.2.2.2.2.1).trans_new (chg_setRow _ br _) hne.2.2.2.2.2.1
theorem QR.two {B g : Nat} {L : List Int} {e : Int} {w : World} (h : QR B g L e w) : QR B g L e ((w.alloc (.cells (u8s z32) 32)).alloc (.cells (u8s z32) 32)) :=
  h.later (((Below.refl _ _).alloc (Nat.le_refl _) _).alloc (by simp) _)
theorem rhash_off {B g : Nat} {L : List Int} {er : Int} {w : World} (h : QR B g L er w) (he : er ≠ 0) (hB : B ≤ w.heap.size) :
    Calls Try.prog 20 #[.pointer (some ⟨g, 0, none⟩)] w fun e w' => e = .returned (.agg (u8s z32)) ∧ QE B g L er w' ∧ Chg [g] w w' :=
  rhash_core (X := []) (.inl rfl) h.lt hB ((take_off h.two he 32).mono fun e w' ⟨h1, h2⟩ => by
    subst h2
    exact ⟨_, h1, slb_nil _, LowV.nil B, h.two.e, Chg.refl _ _⟩)
theorem rhash_on {B g : Nat} {L : List Int} {w : World} (h : QR B g L 0 w) (hB : B ≤ w.heap.size) :
    Calls Try.prog 20 #[.pointer (some ⟨g, 0, none⟩)] w fun e w' => e = .returned (.agg (u8s (hashR L).1)) ∧ QE B g (if (hashR L).2.2 = 0 then (hashR L).2.1 else L) (hashR L).2.2 w' ∧ Chg [g] w w' := by
  unfold hashR
  by_cases hl : L.length < 32
  · rw [if_pos hl]
    exact rhash_core (X := []) (.inl rfl) h.lt hB ((take_short h.two 32 hl).mono fun e w' ⟨h1, h2, h3⟩ => ⟨_, h1, slb_nil _, LowV.nil B, h2.e, h3⟩)
  · rw [if_neg hl]
    have hl2 : (L.take 32).length = 32 := by rw [List.length_take]; omega
    have k := rhash_core (X := L.take 32) (L' := L.drop 32) (e' := 0) (.inr hl2) h.lt hB ((take_ok h.two 32 (by omega)).mono fun e w' ⟨v, h1, h2, h3, h4, h5⟩ => ⟨v, h1, h2, h3, h4.e, h5⟩)
    have e : fillH (L.take 32) (L.take 32).length = L.take 32 := by
      unfold fillH
      rw [hl2, Nat.sub_self, List.take_take]
      simp
    rw [e] at k
    exact k
end Go.Proofs.Ytigfcmnknijobaa.Cod
