/- DERIVED. The walk of SlotsKnown. -/
import Derived.Test.YthjjkbgkfikglaaSltBad
namespace Go.Proofs.Ythjjkbgkfikglaa.Slt
open Go.RowKit Dsk
section
variable {w0 w : World} {K : DK} {J : LK} {D D' : DS} {S S' : LS}
theorem app_gen (h : St w0 w K J D S) {g : Nat} (hg : J.g = g) (A : Option Addr) (n c : Nat) (t : List Int) (htl : t.length = n) (hB : Byt w A c t) (hA : 0 < t.length → ∀ a, A = some a → a.block ∉ K.bl) (ht : InB t) (hend : S.from_ + S.secs ≤ D.secs) (hw : D.writes ≤ 576460752303423488) {E : Int} (e : appD D S t = (D', S', E)) :
    Calls Try.prog 15 #[.pointer (some ⟨g, 0, none⟩), .slice A n c] w fun e w' => ∃ J', e = .returned (.int .i64 E) ∧ J'.g = g ∧ St w0 w' K J' D' S' := by
  subst hg
  refine (append_any h.dsk h.lg A n c t htl hB hA ht hend hw).mono ?_
  rintro e w' ⟨J', rfl, q⟩
  rw [e] at q ⊢
  exact ⟨J', rfl, q.g, h.app q⟩
theorem byt_nil (w : World) : Byt w none 0 [] := ⟨Nat.le_refl _, fun _ => rfl, fun h => absurd h (Nat.lt_irrefl 0)⟩
theorem app_nil (h : St w0 w K J D S) {g : Nat} (hg : J.g = g) (hend : S.from_ + S.secs ≤ D.secs) (hw : D.writes ≤ 576460752303423488) {E : Int} (e : appD D S [] = (D', S', E)) :
    Calls Try.prog 15 #[.pointer (some ⟨g, 0, none⟩), .slice none 0 0] w fun e w' => ∃ J', e = .returned (.int .i64 E) ∧ J'.g = g ∧ St w0 w' K J' D' S' :=
  app_gen h hg none 0 0 [] rfl (byt_nil w) (fun h => absurd h (Nat.lt_irrefl 0)) (fun j => by simp) hend hw e
theorem app_new (h : St w0 w K J D S) {g : Nat} (hg : J.g = g) (n : Nat) (t : List Int) (fr : Nat × Nat) (htl : t.length = n) (ht : InB t) (hend : S.from_ + S.secs ≤ D.secs) (hw : D.writes ≤ 576460752303423488) {E : Int} (e : appD D S t = (D', S', E)) :
    Calls Try.prog 15 #[.pointer (some ⟨g, 0, none⟩), .slice (some ⟨w.heap.size, 0, none⟩) n n] (w.alloc (.cells (u8s t) 5 fr)) fun e w' => ∃ J', e = .returned (.int .i64 E) ∧ J'.g = g ∧ St w0 w' K J' D' S' :=
  app_gen (h.later ((Below.refl _ _).alloc (Nat.le_refl _) _)) hg _ n n t htl (const_byt w t n htl fr) (fun _ a ha => by cases ha; exact st_new h) ht hend hw e
end
theorem prod3 {R : DS × LS × Int} {a : DS} {b : LS} {c : Int} (h1 : a = R.1) (h2 : R.2.1 = b) (h3 : R.2.2 = c) : R = (a, b, c) := by
  subst h1 h2 h3
  rfl
theorem zrep_in (n : Nat) : InB (List.replicate n 0) := inb_zeros n
def z252 : List Int := List.replicate 252 0
def z251 : List Int := List.replicate 251 0
def D3b : DS := (appD D3a S3a z251).1
def S3b : LS := ⟨0, 3, 3, [abL, z251], false⟩
theorem e3a : appD (newD 3) (newS 3) abL = (D3a, S3a, 0) := Prod.ext rfl (Prod.ext app3_s app3_e)
theorem D3a_secs : D3a.secs = 3 := by kernel_rfl
theorem D3a_wr : D3a.writes = 3 := by kernel_rfl
theorem e3full : appD D3a S3a z252 = (D3a, S3a, 7) := by
  have h1 : D3a.off = false := by kernel_rfl
  unfold appD
  rw [if_neg (by rw [h1]; decide), if_neg (by rw [z252, List.length_replicate]; decide), if_pos (by rw [z252, List.length_replicate]; decide)]
theorem e3b2 : (appD D3a S3a z251).2.1 = S3b := by kernel_rfl
theorem e3b3 : (appD D3a S3a z251).2.2 = 0 := by kernel_rfl
theorem z252_len : z252.length = 252 := List.length_replicate
theorem z251_len : z251.length = 251 := List.length_replicate
theorem z252_in : InB z252 := inb_zeros 252
theorem z251_in : InB z251 := inb_zeros 251
theorem e3b : appD D3a S3a z251 = (D3b, S3b, 0) := prod3 D3b.eq_1 e3b2 e3b3
theorem D3b_secs : D3b.secs = 3 := by kernel_rfl
theorem D3b_wr : D3b.writes = 6 := by kernel_rfl
theorem D3b_off : D3b.off = false := by kernel_rfl
theorem D3b_len : D3b.data.length = 384 := by kernel_rfl
theorem e3c : appD D3b S3b [] = (D3b, S3b, 7) := by
  unfold appD
  rw [if_neg (by rw [D3b_off]; decide), if_neg (by decide), if_pos (by decide)]
theorem room_full {w0 w : World} {K : DK} {J : LK} {D : DS} {g : Nat} (h : St w0 w K J D S3b) (hg : J.g = g) : Calls Try.prog 16 #[.pointer (some ⟨g, 0, none⟩)] w fun e w' => e = .returned (.int .i64 (-1)) ∧ St w0 w' K J D S3b := by
  subst hg
  refine (room_any h.lg).mono ?_
  rintro e w' ⟨rfl, hb⟩
  exact ⟨rfl, h.later hb⟩
def D3c : DS := { D3b with data := splice D3b.data 0 [2] }
theorem put_2 {w : World} {K : DK} (h : Dsk w K D3b) : Calls Try.prog 17 #[.pointer (some ⟨K.g, 0, none⟩), .int .i64 0, .slice (some ⟨w.heap.size, 0, none⟩) 1 1] (w.alloc (.cells #[.int .u8 2] 5)) fun e w' => e = .returned (.int .i64 0) ∧ Dsk w' K D3c ∧ Chg K.bl w w' := by
  have hb : Below w.heap.size w (w.alloc (.cells #[.int .u8 2] 5)) := (Below.refl _ _).alloc (Nat.le_refl _) _
  refine (put_ok (h.later hb) 0 1 (by rw [D3b_len]; decide) (some ⟨w.heap.size, 0, none⟩) 1 [2] rfl (inb_cons (by decide) inb_nil) (const_byt w [2] 1 rfl _)).mono ?_
  rintro e w' ⟨rfl, hd, hc⟩
  exact ⟨rfl, hd, (Chg.of_below hb).trans hc⟩
theorem D3c_first : (reg D3c 0 3).getD 0 0 = 2 := by kernel_rfl
theorem D3c_len : (reg D3c 0 3).length = 384 := by kernel_rfl
theorem open_bad {w : World} {K : DK} (h : Dsk w K D3c) : Calls Try.prog 18 #[.pointer (some ⟨K.g, 0, none⟩), .int .i64 0, .int .i64 3] w fun e w' => e = .returned (.tuple #[.pointer none, .int .i64 9]) ∧ Below w.heap.size w w' := by
  have hs : D3c.secs = 3 := by kernel_rfl
  have ho : D3c.off = false := by kernel_rfl
  have hbad : BadB (reg D3c 0 3) := by
    refine ⟨fun e => ?_, ?_, fun hh => ?_⟩
    · have hl := D3c_len
      rw [e] at hl
      cases hl
    · rw [D3c_first]; decide
    · have h1 := hh.1
      rw [D3c_first] at h1
      cases h1
  have hr : Reads (reg D3c 0 3) [] (reg D3c 0 3) true := ⟨(List.nil_append _).symm, by simp, hbad⟩
  refine (open_walk h 0 3 (by rw [hs]; decide) (by decide) ho rfl hr).mono ?_
  rintro e w' ⟨hq, hb⟩
  rcases hq with ⟨_, rfl⟩ | ⟨h0, _⟩
  · exact ⟨rfl, hb⟩
  · cases h0
theorem given_4 (w : World) : Calls Try.prog 14 #[.int .i64 4] w fun e w' => ∃ K J, e = .returned (.tuple #[.pointer (some ⟨K.g, 0, none⟩), .pointer (some ⟨J.g, 0, none⟩)]) ∧ St w w' K J (newD 4) (newS 4) := given_any w 4 (by decide) (by decide)
def z200 : List Int := List.replicate 200 0
def L200 : List Int := z200.set 123 1
def m254 : List Int := 254 :: List.replicate 15 0
theorem m254_in : InB m254 := inb_cons (by decide) (inb_zeros 15)
theorem L200_len : L200.length = 200 := by rw [L200, List.length_set, z200, List.length_replicate]
theorem set_in {L : List Int} (h : InB L) (k : Nat) (x : Int) (hx : 0 ≤ x ∧ x < 256) : InB (L.set k x) := by
  intro j
  rw [List.getD_eq_getElem?_getD, List.getElem?_set]
  by_cases e : k = j
  · rw [if_pos e]
    split
    · simpa using hx
    · simp
  · rw [if_neg e, ← List.getD_eq_getElem?_getD]
    exact h j
theorem L200_in : InB L200 := set_in (inb_zeros 200) 123 1 (by decide)
def D4a : DS := cutD (newD 4) 3 m254
theorem cut_254 {w0 w : World} {K : DK} {J : LK} (h : St w0 w K J (newD 4) (newS 4)) : Calls Try.prog 19 #[.pointer (some ⟨K.g, 0, none⟩), .int .i64 3, .agg #[.int .u8 254, .int .u8 0, .int .u8 0, .int .u8 0, .int .u8 0, .int .u8 0, .int .u8 0, .int .u8 0, .int .u8 0, .int .u8 0, .int .u8 0, .int .u8 0, .int .u8 0, .int .u8 0, .int .u8 0, .int .u8 0]] w fun e w' => e = .returned (.int .i64 0) ∧ St w0 w' K J D4a (newS 4) ∧ Chg K.bl w w' := by
  refine (cut_any h.dsk 3 m254 (by decide) rfl m254_in).mono ?_
  rintro e w' ⟨rfl, hd, hc⟩
  exact ⟨rfl, ⟨hd, h.lg.disk hc, hc.below h.low h.low.size (fun k hk => h.kn k hk), h.kn, h.jn, h.tn⟩, hc⟩
def D4b : DS := (appD D4a (newS 4) L200).1
def S4b : LS := ⟨0, 4, 0, [], true⟩
theorem D4a_secs : D4a.secs = 4 := by kernel_rfl
theorem D4a_wr : D4a.writes = 0 := by kernel_rfl
theorem e4b2 : (appD D4a (newS 4) L200).2.1 = S4b := by kernel_rfl
theorem e4b3 : (appD D4a (newS 4) L200).2.2 = 12 := by kernel_rfl
theorem e4b : appD D4a (newS 4) L200 = (D4b, S4b, 12) := prod3 D4b.eq_1 e4b2 e4b3
theorem D4b_secs : D4b.secs = 4 := by kernel_rfl
theorem D4b_wr : D4b.writes = 4 := by kernel_rfl
theorem e4n (D : DS) : appD D S4b [] = (D, S4b, 12) := by
  unfold appD
  rw [if_pos (.inl rfl)]
def D4r : DS := restD D4b
theorem D4r_secs : D4r.secs = 4 := by kernel_rfl
theorem rest_4 {w0 w : World} {K : DK} {J : LK} (h : St w0 w K J D4b S4b) : Calls Try.prog 20 #[.pointer (some ⟨K.g, 0, none⟩)] w fun e w' => e = .returned (.int .i64 0) ∧ St w0 w' K J D4r S4b := by
  refine (restart_any h.dsk).mono ?_
  rintro e w' ⟨rfl, hd, hc⟩
  exact ⟨rfl, ⟨hd, h.lg.disk hc, hc.below h.low h.low.size (fun k hk => h.kn k hk), h.kn, h.jn, h.tn⟩⟩
/-- a log that is opened anew. -/
theorem open_again {w0 w : World} {K : DK} {J : LK} {D : DS} {S S' : LS} (h : St w0 w K J D S) (n : Nat) (hn : D.secs = n) (hn1 : 1 ≤ n) (ho : D.off = false) (hl : LogAt (reg D 0 n) S'.texts S'.used) (hS : S' = ⟨0, n, S'.used, S'.texts, false⟩) :
    Calls Try.prog 18 #[.pointer (some ⟨K.g, 0, none⟩), .int .i64 0, .int .i64 n] w fun e w' => ∃ J', e = .returned (.tuple #[.pointer (some ⟨J'.g, 0, none⟩), .int .i64 0]) ∧ St w0 w' K J' D S' := by
  obtain ⟨cs, R, e, hr⟩ := reads_all _ (reg D 0 n) (Nat.le_refl _)
  obtain ⟨rfl, ht, hu⟩ := log_reads hl hr
  refine (open_walk h.dsk 0 n (by omega) hn1 ho rfl hr).mono ?_
  rintro e w' ⟨hq, hb⟩
  rcases hq with ⟨h0, _⟩ | ⟨_, J', rfl, hlg, hj, hx⟩
  · cases h0
  · rw [ht, hu, ← hS] at hlg
    exact ⟨J', rfl, h.dsk.later hb, hlg, h.low.trans (hb.mono h.low.size), h.kn, fun q hq => Nat.le_trans h.low.size (hj q hq), fun q hq => Nat.le_trans h.low.size (hx q hq)⟩
theorem D4r_first : (reg D4r 0 4).getD 0 0 = 0 := by kernel_rfl
theorem log_zero {L : List Int} (h : L.getD 0 0 = 0) : LogAt L [] 0 := ⟨[], L, ⟨rfl, by simp, .inr h⟩, rfl, rfl⟩
theorem log_4r : LogAt (reg D4r 0 4) [] 0 := log_zero D4r_first
theorem open_4r {w0 w : World} {K : DK} {J : LK} {S : LS} (h : St w0 w K J D4r S) : Calls Try.prog 18 #[.pointer (some ⟨K.g, 0, none⟩), .int .i64 0, .int .i64 4] w fun e w' => ∃ J', e = .returned (.tuple #[.pointer (some ⟨J'.g, 0, none⟩), .int .i64 0]) ∧ St w0 w' K J' D4r (newS 4) :=
  open_again h 4 D4r_secs (by decide) (by kernel_rfl) log_4r rfl
def D4c : DS := (appD D4r (newS 4) abL).1
def S4c : LS := ⟨0, 4, 1, [abL], false⟩
theorem e4c2 : (appD D4r (newS 4) abL).2.1 = S4c := by kernel_rfl
theorem e4c3 : (appD D4r (newS 4) abL).2.2 = 0 := by kernel_rfl
theorem e4c : appD D4r (newS 4) abL = (D4c, S4c, 0) := prod3 D4c.eq_1 e4c2 e4c3
theorem D4c_secs : D4c.secs = 4 := by kernel_rfl
theorem D4r_wr : D4r.writes = 4 := by kernel_rfl
theorem D4c_log : reg D4c 0 4 = slotB 1 abL 1 ++ (reg D4c 0 4).drop 128 := by kernel_rfl
theorem D4c_next : ((reg D4c 0 4).drop 128).getD 0 0 = 0 := by kernel_rfl
theorem log_4c : LogAt (reg D4c 0 4) [abL] 1 := by
  have hg : Good (slotB 1 abL 1) := slotB_good abL (by decide)
  refine ⟨[slotB 1 abL 1], (reg D4c 0 4).drop 128, ⟨?_, ?_, .inr D4c_next⟩, ?_, by kernel_rfl⟩
  · rw [List.flatten_cons, List.flatten_nil, List.append_nil]; exact D4c_log
  · intro c hc
    rw [List.mem_singleton] at hc
    subst hc
    exact hg
  · rw [List.map_cons, List.map_nil, show textC (slotB 1 abL 1) = abL from slotB_text abL (by decide)]
theorem app_ab4 {w0 w : World} {K : DK} {J : LK} (h : St w0 w K J D4r (newS 4)) :
    Calls Try.prog 15 #[.pointer (some ⟨J.g, 0, none⟩), .slice (some ⟨w.heap.size, 0, none⟩) 2 2] (w.alloc (.cells #[.int .u8 97, .int .u8 98] 5 (2, 3))) fun e w' => ∃ J', e = .returned (.int .i64 0) ∧ J'.g = J.g ∧ St w0 w' K J' D4c S4c :=
  app_new h rfl 2 abL (2, 3) rfl ab_in (by rw [D4r_secs]; decide) (by rw [D4r_wr]; decide) e4c
theorem open_4c {w0 w : World} {K : DK} {J : LK} {S : LS} (h : St w0 w K J D4c S) : Calls Try.prog 18 #[.pointer (some ⟨K.g, 0, none⟩), .int .i64 0, .int .i64 4] w fun e w' => ∃ J', e = .returned (.tuple #[.pointer (some ⟨J'.g, 0, none⟩), .int .i64 0]) ∧ St w0 w' K J' D4c S4c :=
  open_again h 4 D4c_secs (by decide) (by kernel_rfl) log_4c rfl
theorem open_nil1 (w : World) : Calls Try.prog 18 #[.pointer none, .int .i64 0, .int .i64 1] w fun e w' => e = .returned (.tuple #[.pointer none, .int .i64 1]) ∧ Below w.heap.size w w' := open_nil (.inl rfl) 0 1
theorem open_32 {w0 w : World} {K : DK} {J : LK} {S : LS} (h : St w0 w K J D4c S) : Calls Try.prog 18 #[.pointer (some ⟨K.g, 0, none⟩), .int .i64 3, .int .i64 2] w fun e w' => e = .returned (.tuple #[.pointer none, .int .i64 2]) ∧ St w0 w' K J D4c S ∧ Below w.heap.size w w' := by
  have e : refE D4c (withinI 3 2 D4c.secs) = 2 := by rw [D4c_secs]; rfl
  have := open_no h.dsk 3 2 (by decide) (by decide) (by rw [e]; decide)
  rw [e] at this
  refine this.mono ?_
  rintro e w' ⟨rfl, hb⟩
  exact ⟨rfl, h.later hb, hb⟩
theorem open_00 {w0 w : World} {K : DK} {J : LK} {S : LS} (h : St w0 w K J D4c S) : Calls Try.prog 18 #[.pointer (some ⟨K.g, 0, none⟩), .int .i64 0, .int .i64 0] w fun e w' => e = .returned (.tuple #[.pointer none, .int .i64 2]) ∧ St w0 w' K J D4c S ∧ Below w.heap.size w w' := by
  refine (open_few h.dsk 0 0 (by decide)).mono ?_
  rintro e w' ⟨rfl, hb⟩
  exact ⟨rfl, h.later hb, hb⟩
theorem is_none {w0 w : World} {K : DK} {J : LK} {D : DS} (h : St w0 w K J D (newS 4)) : Calls Try.prog 21 #[.pointer (some ⟨J.g, 0, none⟩), .slice none 0 0] w fun e w' => e = .returned (.bool true) ∧ St w0 w' K J D (newS 4) := by
  refine (is_yes h.lg none 0 0 rfl (fun i hi => absurd hi (Nat.not_lt_zero _))).mono ?_
  rintro e w' ⟨rfl, hb⟩
  exact ⟨rfl, h.later hb⟩
theorem is_ab {w0 w : World} {K : DK} {J : LK} {D : DS} (h : St w0 w K J D S4c) : Calls Try.prog 21 #[.pointer (some ⟨J.g, 0, none⟩), .slice (some ⟨w.heap.size, 0, none⟩) 1 1] (w.alloc (.cells #[.string { data := #[97, 98] }] 9)) fun e w' => e = .returned (.bool true) ∧ St w0 w' K J D S4c ∧ Below w.heap.size w w' := by
  have hb : Below w.heap.size w (w.alloc (.cells #[.string { data := #[97, 98] }] 9)) := (Below.refl _ _).alloc (Nat.le_refl _) _
  have h' := h.later hb
  refine (is_yes h'.lg (some ⟨w.heap.size, 0, none⟩) 1 1 rfl (fun i hi => ?_)).mono ?_
  · have hi' : i < 1 := hi
    obtain rfl : i = 0 := by omega
    exact ⟨w.heap.size, 0, rfl, by rw [World.size_alloc]; omega, cell_row (Go.heap_alloc_new w _) 0⟩
  · rintro e w' ⟨rfl, hb2⟩
    exact ⟨rfl, h'.later hb2, hb.trans (hb2.mono hb.size)⟩
theorem mk252 (w : World) : (Instr.makeSlice 33 (.int .i64 252) (.int .i64 252)).run Try.prog w = .ok (.slice (some ⟨w.heap.size, 0, none⟩) 252 252) (w.alloc (.cells (u8s z252) 5)) := mk_any 252 (by decide) w
theorem mk251 (w : World) : (Instr.makeSlice 33 (.int .i64 251) (.int .i64 251)).run Try.prog w = .ok (.slice (some ⟨w.heap.size, 0, none⟩) 251 251) (w.alloc (.cells (u8s z251) 5)) := mk_any 251 (by decide) w
theorem mk200 (w : World) : (Instr.makeSlice 33 (.int .i64 200) (.int .i64 200)).run Try.prog w = .ok (.slice (some ⟨w.heap.size, 0, none⟩) 200 200) (w.alloc (.cells (u8s z200) 5)) := mk_any 200 (by decide) w
set_option maxRecDepth 100000 in
set_option maxHeartbeats 4000000 in
theorem known_walk (w : World) : Calls Try.prog 4 #[] w fun e w' => e = .returned (.bool true) ∧ Below w.heap.size w w' := by
  have k252 := mk252
  have k251 := mk251
  have hp := pne
  have kconst := fun (w : World) (C : Array Value) (n c : Nat) => Lib.run_convert_bytes_const (P := Try.prog) w 33 5 C n c Try.underlying33 Try.underlying5
  go_enter Try.func4, Try.ntmps4
  go_upto_region 7 with (first
    | (go_at_call 7; refine (awake_any _).mono ?_; rintro e w1 ⟨rfl, hb1⟩; have L1 := Lib.hid hb1; clear hb1)
    | (go_at_call 14; refine (given_3 _).mono ?_; rintro e w2 ⟨K, J, rfl, hq2⟩; have Q2 := Lib.hid hq2; clear hq2)
    | (go_at_call 15; refine (app_ab (Q2.out.later ((Below.refl _ _).alloc (Nat.le_refl _) _)) (const_byt w2 abL 2 rfl _) (st_new Q2.out)).mono ?_; rintro e w3 ⟨J3, rfl, hg3, hq3⟩; have Q3 := Lib.hid hq3; have G3 := Lib.hid hg3; clear hq3 hg3 Q2)
    | (go_at_call 15; with_reducible refine (app_new Q3.out G3.out 252 z252 (0, 0) z252_len z252_in (by rw [D3a_secs]; decide) (by rw [D3a_wr]; decide) e3full).mono ?_; rintro e w4 ⟨J4, rfl, hg4, hq4⟩; have Q4 := Lib.hid hq4; have G4 := Lib.hid hg4; clear hq4 hg4)
    | (go_at_call 15; with_reducible refine (app_new Q4.out G4.out 251 z251 (0, 0) z251_len z251_in (by rw [D3a_secs]; decide) (by rw [D3a_wr]; decide) e3b).mono ?_; rintro e w5 ⟨J5, rfl, hg5, hq5⟩; have Q5 := Lib.hid hq5; have G5 := Lib.hid hg5; clear hq5 hg5)
    | (go_at_call 16; with_reducible refine (room_full Q5.out G5.out).mono ?_; rintro e w6 ⟨rfl, hq6⟩; have Q6 := Lib.hid hq6; clear hq6)
    | (go_at_call 15; with_reducible refine (app_nil Q6.out G5.out (by rw [D3b_secs]; decide) (by rw [D3b_wr]; decide) e3c).mono ?_; rintro e w7 ⟨J7, rfl, hg7, hq7⟩; have Q7 := Lib.hid hq7; clear hq7 hg7))
  have hK7 : ∀ k ∈ K.bl, w.heap.size ≤ k := fun k hk => Nat.le_trans L1.out.size (Q7.out.kn k hk)
  have HK7 := Lib.hid hK7
  have L7 := Lib.hid (L1.out.trans (Q7.out.low.mono L1.out.size))
  have D7 := Lib.hid Q7.out.dsk
  have k200 := mk200
  clear k252 k251 hK7 Q3 G3 Q4 G4 Q5 G5 Q6 Q7
  go_upto_region 11 with (first
    | (go_at_call 17; refine (put_2 D7.out).mono ?_; rintro e w8 ⟨rfl, hd8, hc8⟩; have D8 := Lib.hid hd8; have L8 := Lib.hid (hc8.below L7.out L7.out.size HK7.out); clear hd8 hc8)
    | (go_at_call 18; refine (open_bad D8.out).mono ?_; rintro e w9 ⟨rfl, hb9⟩; have L9 := Lib.hid (L8.out.trans (hb9.mono L8.out.size)); clear hb9)
    | (go_at_call 14; refine (given_4 _).mono ?_; rintro e w10 ⟨M, I, rfl, hq10⟩; have Q10 := Lib.hid hq10; clear hq10))
  have hr10 := Go.heap_alloc_new w10 (.cells (u8s z200) 5)
  have c10 := row8_cell hr10 123 (by decide)
  have f10 := free_row hr10 123
  obtain ⟨w11, hw11⟩ : ∃ w11, w11 = w10.alloc (.cells ((u8s z200).setIfInBounds 123 (.int .u8 1)) 5) := ⟨_, rfl⟩
  have hr11 := Go.heap_alloc_new w10 (.cells ((u8s z200).setIfInBounds 123 (.int .u8 1)) 5)
  have hb11 : Below w10.heap.size w10 w11 := by rw [hw11]; exact (Below.refl _ _).alloc (Nat.le_refl _) _
  rw [← hw11, u8s_set] at hr11
  have Hr11 := Lib.hid hr11
  have Q11 := Lib.hid (Q10.out.later hb11)
  have hg11 : w10.heap.size ∉ M.bl := st_new Q10.out
  have Hg11 := Lib.hid hg11
  have Hw11 := Lib.hid hw11
  clear hr10 hw11 hr11 hb11 hg11
  go_upto_region 12 with (fail)
  rw [← Hw11.out]
  clear c10 f10 Hw11 k200
  go_upto_region 13 with (go_at_call 19; refine (cut_254 Q11.out).mono ?_; rintro e w12 ⟨rfl, hq12, hc12⟩; have Q12 := Lib.hid hq12; have B12 := Lib.hid (Str.byt_rowT (hc12.at Hr11.out Hg11.out) L200_len); clear hq12 hc12)
  clear Q11 Hr11
  have Happ := Lib.hid (app_gen Q12.out rfl (some ⟨w10.heap.size, 0, none⟩) 200 200 L200 L200_len B12.out (fun _ a ha => by cases ha; exact Hg11.out) L200_in (by rw [D4a_secs]; decide) (by rw [D4a_wr]; decide) e4b)
  go_upto_region 15 with (first
    | (go_at_call 15; with_reducible refine Happ.out.mono ?_; rintro e w13 ⟨I3, rfl, hg3, hq3⟩; have Q13 := Lib.hid hq3; have G13 := Lib.hid hg3; clear hq3 hg3)
    | (go_at_call 15; with_reducible refine (app_nil Q13.out G13.out (by rw [D4b_secs]; decide) (by rw [D4b_wr]; decide) (e4n _)).mono ?_; rintro e w14 ⟨I4, rfl, hg4, hq4⟩; have Q14 := Lib.hid hq4; have G14 := Lib.hid hg4; clear hq4 hg4)
    | (go_at_call 20; with_reducible refine (rest_4 Q14.out).mono ?_; rintro e w15 ⟨rfl, hq5⟩; have Q15 := Lib.hid hq5; clear hq5)
    | (go_at_call 15; with_reducible refine (app_nil Q15.out G14.out (by rw [D4r_secs]; decide) (by rw [D4r_wr]; decide) (e4n _)).mono ?_; rintro e w16 ⟨I6, rfl, hg6, hq6⟩; have Q16 := Lib.hid hq6; clear hq6 hg6))
  clear Happ B12
  go_upto_region 20 with (first
    | (go_at_call 18; with_reducible refine (open_4r Q16.out).mono ?_; rintro e w17 ⟨I7, rfl, hq7⟩; have Q17 := Lib.hid hq7; clear hq7)
    | (go_at_call 21; with_reducible refine (is_none Q17.out).mono ?_; rintro e w18 ⟨rfl, hq8⟩; have Q18 := Lib.hid hq8; clear hq8)
    | (go_at_call 15; refine (app_ab4 Q18.out).mono ?_; rintro e w19 ⟨I9, rfl, hg9, hq9⟩; have Q19 := Lib.hid hq9; clear hq9 hg9)
    | (go_at_call 18; with_reducible refine (open_4c Q19.out).mono ?_; rintro e w20 ⟨I10, rfl, hq10⟩; have Q20 := Lib.hid hq10; clear hq10))
  go_upto_region 21 with (fail)
  generalize hw21 : World.alloc w20 _ = w21
  have hz : w21.heap[w20.heap.size]? = some (.cells zeroL 61 (0, 0)) := by rw [← hw21]; exact Go.heap_alloc_new w20 _
  have hb21 : Below w20.heap.size w20 w21 := by rw [← hw21]; exact (Below.refl _ _).alloc (Nat.le_refl _) _
  have Q21 := Lib.hid (Q20.out.later hb21)
  have Z21 : Hid (BadL (.pointer (some ⟨w20.heap.size, 0, none⟩)) w21) := .inr ⟨_, rfl, hz⟩
  have N : Hid (∀ w : World, BadL (.pointer none) w) := fun _ => .inl rfl
  clear hz hb21 hw21
  go_upto_region 24 with (first
    | (go_at_call 18; with_reducible refine (open_nil1 _).mono ?_; rintro e w22 ⟨rfl, hb2⟩; have Q22 := Lib.hid (Q21.out.later hb2); have Z22 := Lib.hid (Z21.out.later hb2); clear hb2)
    | (go_at_call 18; with_reducible refine (open_32 Q22.out).mono ?_; rintro e w23 ⟨rfl, hq3, hb3⟩; have Q23 := Lib.hid hq3; have Z23 := Lib.hid (Z22.out.later hb3); clear hq3 hb3)
    | (go_at_call 18; with_reducible refine (open_00 Q23.out).mono ?_; rintro e w24 ⟨rfl, hq4, hb4⟩; have Q24 := Lib.hid hq4; have Z24 := Lib.hid (Z23.out.later hb4); clear hq4 hb4))
  go_wp2_with (first
    | (go_at_call 21; refine (is_ab Q24.out).mono ?_; rintro e w25 ⟨rfl, hq5, hb5⟩; have Q25 := Lib.hid hq5; have Z25 := Lib.hid (Z24.out.later hb5); clear hq5 hb5)
    | (go_at_call 15; with_reducible refine (badl_append (N.out _) _).mono ?_; rintro e w' ⟨rfl, rfl⟩)
    | (go_at_call 15; with_reducible refine (badl_append Z25.out _).mono ?_; rintro e w' ⟨rfl, rfl⟩)
    | (go_at_call 13; with_reducible refine (badl_all (N.out _)).mono ?_; rintro e w' ⟨rfl, rfl⟩)
    | (go_at_call 16; with_reducible refine (badl_room Z25.out).mono ?_; rintro e w' ⟨rfl, rfl⟩)
    | (go_at_call 22; with_reducible refine (badl_used (N.out _)).mono ?_; rintro e w' ⟨rfl, rfl⟩))
  go_ret
  exact ⟨rfl, L9.out.trans (Q25.out.low.mono L9.out.size)⟩
end Go.Proofs.Ythjjkbgkfikglaa.Slt
