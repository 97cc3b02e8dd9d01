/- DERIVED. The reference's reader: its words; the contracts of fell, Done, Take. -/
import Derived.Test.YtigfcmnknijobaaCodMeth
import Derived.Test.YtigfcmnknijobaaRefCodLabel
import Derived.Test.YtigfcmnknijobaaCodOnceMath
namespace Go.Proofs.Ytigfcmnknijobaa.Cod
open Go.RowKit Str
/-- a slice that lies below block B. -/
def LowV (B : Nat) (v : Value) : Prop := ∀ (a : Addr) (n c : Nat), v = .slice (some a) n c → a.block < B
theorem LowV.of {B n n2 c c2 : Nat} {A : Option Addr} (h : LowV B (.slice A n c)) : LowV B (.slice A n2 c2) := fun a _ _ e => by
  injection e with e1 e2 e3
  subst e1
  exact h a n c rfl
theorem LowV.cut {B n n2 c c2 k : Nat} {A : Option Addr} (h : LowV B (.slice A n c)) : LowV B (.slice (A.map (·.add k)) n2 c2) := fun a _ _ e => by
  injection e with e1 e2 e3
  obtain ⟨a0, rfl, rfl⟩ := Option.map_eq_some_iff.1 e1
  have e0 : (a0.add k).block = a0.block := by
    unfold Addr.add
    split <;> rfl
  rw [e0]
  exact h a0 n c rfl
theorem LowV.nil (B : Nat) : LowV B (.slice none 0 0) := fun a _ _ e => by cases e
/-- bytes below B stay when nothing below B changes but what holds no bytes. -/
theorem slb_low {B : Nat} {L : List Int} {v : Value} {w w' : World} (h : SlB L v w) (hl : LowV B v) (hb : ∀ k, k < B → w'.heap[k]? = w.heap[k]?) (hs : w.heap.size ≤ w'.heap.size) : SlB L v w' := by
  obtain ⟨A, c, rfl, h1, h2, h3⟩ := h
  refine ⟨A, c, rfl, h1, h2, fun hl2 => ?_⟩
  obtain ⟨g, off, rfl, hg, hc⟩ := h3 hl2
  have hgB : g < B := hl ⟨g, off, none⟩ _ _ rfl
  exact ⟨g, off, rfl, Nat.lt_of_lt_of_le hg hs, fun j hj => (World.cell?_of_block (hb g hgB)).trans (hc j hj)⟩
/-- the reference's reader: what is left, below block B, and its error. -/
def QR (B g : Nat) (L : List Int) (e : Int) (w : World) : Prop := ∃ v, w.heap[g]? = some (.cells #[v, .int .i64 e] 28 (0, 0)) ∧ SlB L v w ∧ LowV B v
theorem qr_no8 {g : Nat} {v : Value} {e : Int} {w : World} {L : List Int} (h : w.heap[g]? = some (.cells #[v, .int .i64 e] 28 (0, 0))) (hv : SlB L v w) : ∀ o x, w.cell? ⟨g, o, none⟩ ≠ some (.int .u8 x) := by
  obtain ⟨A, c, rfl, _⟩ := hv
  intro o x
  rw [cell_row h]
  match o with
  | 0 => simp
  | 1 => simp
  | o + 2 => simp
theorem QR.later {B g : Nat} {L : List Int} {e : Int} {w w' : World} (h : QR B g L e w) (hb : Below w.heap.size w w') : QR B g L e w' := by
  obtain ⟨v, h1, h2, h3⟩ := h
  exact ⟨v, (hb.block _ (Array.getElem?_eq_some_iff.1 h1).1).trans h1, h2.later hb, h3⟩
theorem QR.lt {B g : Nat} {L : List Int} {e : Int} {w : World} (h : QR B g L e w) : g < w.heap.size := by
  obtain ⟨v, h1, _, _⟩ := h
  exact (Array.getElem?_eq_some_iff.1 h1).1
/-- the error set. -/
theorem QR.setE {B g : Nat} {L : List Int} {e : Int} {w : World} (h : QR B g L e w) (e2 : Int) : QR B g L e2 (w.setCell ⟨g, 1, none⟩ (.int .i64 e2)) := by
  obtain ⟨v, h1, h2, h3⟩ := h
  refine ⟨v, ?_, slb_chg h2 (chg_one w g 1 _) (fun k hk => by obtain rfl := List.mem_singleton.1 hk; exact qr_no8 h1 h2), h3⟩
  rw [heap_setCell_same _ _ _ _ _ _ h1]
  rfl
/-- what is left set, to bytes that lie there. -/
theorem QR.setL {B g : Nat} {L M : List Int} {e : Int} {w : World} (h : QR B g L e w) {v' : Value} (hv : SlB M v' w) (hlo : LowV B v') : QR B g M e (w.setCell ⟨g, 0, none⟩ v') := by
  obtain ⟨v, h1, h2, _⟩ := h
  refine ⟨v', ?_, slb_chg hv (chg_one w g 0 _) (fun k hk => by obtain rfl := List.mem_singleton.1 hk; exact qr_no8 h1 h2), hlo⟩
  rw [heap_setCell_same _ _ _ _ _ _ h1]
  rfl
theorem QR.slb {B g : Nat} {L M : List Int} {e : Int} {w w' : World} (h : QR B g L e w) {v : Value} (hv : SlB M v w) (hc : Chg [g] w w') : SlB M v w' := by
  obtain ⟨u, h1, h2, _⟩ := h
  exact slb_chg hv hc (fun k hk => by obtain rfl := List.mem_singleton.1 hk; exact qr_no8 h1 h2)
set_option maxHeartbeats 1000000 in
theorem fell_any {B g : Nat} {L : List Int} {er : Int} {w : World} (h : QR B g L er w) (e0 : Int) :
    Calls Try.prog 38 #[.pointer (some ⟨g, 0, none⟩), .int .i64 e0] w fun e w' => e = .returned (.tuple #[]) ∧ QR B g L (if er = 0 then e0 else er) w' ∧ Chg [g] w w' := by
  have H := Lib.hid h
  obtain ⟨v, h1, h2, _⟩ := h
  have c1 : w.cell? ⟨g, 1, none⟩ = some (.int .i64 er) := cell_row h1 1
  have f1 := free_row h1 1
  clear h1 h2
  by_cases he : er = 0
  · subst he
    rw [if_pos rfl]
    go_enter Try.func38, Try.ntmps38
    go_wp2
    exact bodyPost_end (results_none rfl _ _ _) rfl ⟨rfl, H.out.setE e0, chg_one _ _ _ _⟩
  · rw [if_neg he]
    go_enter Try.func38, Try.ntmps38
    go_wp2
    exact bodyPost_end (results_none rfl _ _ _) rfl ⟨rfl, H.out, Chg.refl _ _⟩
set_option maxHeartbeats 1000000 in
theorem rdone_any {B g : Nat} {L : List Int} {er : Int} {w : World} (h : QR B g L er w) :
    Calls Try.prog 8 #[.pointer (some ⟨g, 0, none⟩)] w fun e w' => e = .returned (.int .i64 (doneE L er)) ∧ w = w' := by
  obtain ⟨v, h1, ⟨A, c, rfl, _⟩, _⟩ := h
  obtain ⟨n, hn⟩ : ∃ n, n = L.length := ⟨_, rfl⟩
  have c0 : w.cell? ⟨g, 0, none⟩ = some (.slice A n c) := by rw [hn]; exact cell_row h1 0
  have c1 : w.cell? ⟨g, 1, none⟩ = some (.int .i64 er) := cell_row h1 1
  unfold doneE
  rw [← hn]
  clear h1 hn
  by_cases he : er = 0
  · subst he
    rw [if_pos rfl]
    by_cases h0 : n = 0
    · subst h0
      rw [if_pos rfl]
      go_enter Try.func8, Try.ntmps8
      go_wp2
      go_ret
      exact ⟨rfl, rfl⟩
    · rw [if_neg h0]
      have h0' : (0 : Int) < (n : Int) := by omega
      go_enter Try.func8, Try.ntmps8
      go_wp2
      go_ret
      exact ⟨rfl, rfl⟩
  · rw [if_neg he]
    go_enter Try.func8, Try.ntmps8
    go_wp2
    go_ret
    exact ⟨rfl, rfl⟩
theorem take_off {B g : Nat} {L : List Int} {er : Int} {w : World} (h : QR B g L er w) (he : er ≠ 0) (n : Int) :
    Calls Try.prog 40 #[.pointer (some ⟨g, 0, none⟩), .int .i64 n] w fun e w' => e = .returned (.slice none 0 0) ∧ w = w' := by
  obtain ⟨v, h1, h2, _⟩ := h
  have c1 : w.cell? ⟨g, 1, none⟩ = some (.int .i64 er) := cell_row h1 1
  clear h1 h2
  go_enter Try.func40, Try.ntmps40
  go_wp2
  go_ret
  exact ⟨rfl, rfl⟩
theorem take_short {B g : Nat} {L : List Int} {w : World} (h : QR B g L 0 w) (n : Nat) (hn : L.length < n) :
    Calls Try.prog 40 #[.pointer (some ⟨g, 0, none⟩), .int .i64 (n : Nat)] w fun e w' => e = .returned (.slice none 0 0) ∧ QR B g L 4 w' ∧ Chg [g] w w' := by
  have HF := Lib.hid (fell_any h 4)
  obtain ⟨v, h1, ⟨A, c, rfl, h2⟩, _⟩ := h
  obtain ⟨m, hm⟩ : ∃ m, m = L.length := ⟨_, rfl⟩
  rw [← hm] at hn
  have hn' : (m : Int) < (n : Int) := by omega
  have c0 : w.cell? ⟨g, 0, none⟩ = some (.slice A m c) := by rw [hm]; exact cell_row h1 0
  have c1 : w.cell? ⟨g, 1, none⟩ = some (.int .i64 0) := cell_row h1 1
  clear h1 h2 hm hn
  go_enter Try.func40, Try.ntmps40
  go_wp2_with (go_at_call 38; refine HF.out.mono ?_; rintro e w2 ⟨rfl, hq, hc⟩; have HQ := Lib.hid hq; have HC := Lib.hid hc; clear hq hc)
  go_ret
  exact ⟨rfl, HQ.out, HC.out⟩
set_option maxHeartbeats 1000000 in
theorem take_ok {B g : Nat} {L : List Int} {w : World} (h : QR B g L 0 w) (n : Nat) (hn : n ≤ L.length) :
    Calls Try.prog 40 #[.pointer (some ⟨g, 0, none⟩), .int .i64 (n : Nat)] w fun e w' => ∃ v, e = .returned v ∧ SlB (L.take n) v w' ∧ LowV B v ∧ QR B g (L.drop n) 0 w' ∧ Chg [g] w w' := by
  have H := Lib.hid h
  obtain ⟨v, h1, ⟨A, c, rfl, h2⟩, hlv⟩ := h
  have Hlv := Lib.hid hlv
  clear hlv
  obtain ⟨m, hm⟩ : ∃ m, m = L.length := ⟨_, rfl⟩
  have Hm := Lib.hid hm
  have Hn := Lib.hid hn
  have hcap := h2.1
  rw [← hm] at hn hcap
  have hn' : ¬ (m : Int) < (n : Int) := by omega
  have hn2 : (n : Int) ≤ (c : Int) := by omega
  have hn3 : (n : Int) ≤ (m : Int) := by omega
  have c0 : w.cell? ⟨g, 0, none⟩ = some (.slice A m c) := by rw [hm]; exact cell_row h1 0
  have c1 : w.cell? ⟨g, 1, none⟩ = some (.int .i64 0) := cell_row h1 1
  have f0 := free_row h1 0
  have hd : SlB (L.drop n) (.slice (if c = n then A else A.map (·.add n)) (m - n) (c - n)) w := slb_cut h2 hm.symm hn
  have ht : SlB (L.take n) (.slice A n c) w := ⟨A, c, by rw [List.length_take, Nat.min_eq_left (by omega)], byt_take h2 n⟩
  have Hd := Lib.hid hd
  have Ht := Lib.hid ht
  clear h1 h2 hm hd ht
  by_cases hcn : c = n
  · subst hcn
    rw [if_pos rfl, Nat.sub_self, show m - c = 0 by omega] at Hd
    go_enter Try.func40, Try.ntmps40
    go_wp2
    go_ret
    exact ⟨_, rfl, H.out.slb Ht.out (chg_one _ _ _ _), Hlv.out.of, H.out.setL Hd.out Hlv.out.of, chg_one _ _ _ _⟩
  · have hcn' : ¬ (c : Int) = (n : Int) := by omega
    rw [if_neg hcn] at Hd
    go_enter Try.func40, Try.ntmps40
    go_wp2
    go_ret
    exact ⟨_, rfl, H.out.slb Ht.out (chg_one _ _ _ _), Hlv.out.of, H.out.setL Hd.out Hlv.out.cut, chg_one _ _ _ _⟩
end Go.Proofs.Ytigfcmnknijobaa.Cod
