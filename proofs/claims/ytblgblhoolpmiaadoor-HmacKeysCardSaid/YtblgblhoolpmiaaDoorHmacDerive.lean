/- DERIVED. The contract of hmac.Derive: a key out of a key. -/
import Derived.Test.YtblgblhoolpmiaaDoorHmacPart
import Derived.Lib.ConvBytes
namespace Go.Proofs.YtblgblhoolpmiaaDoor
open Go.RowKit lawAnybody
/-- a part: where it lies, its capacity, its bytes. -/
structure Part where
  A : Option Addr
  c : Nat
  M : List Int
def Part.val (p : Part) : Value := .slice p.A p.M.length p.c
def canonL (s : List Int) (ps : List Part) : List Int := partL s ++ ps.flatMap fun p => partL p.M
theorem canonL_snoc (s : List Int) (ps : List Part) (j : Nat) (h : j < ps.length) : canonL s (ps.take (j + 1)) = canonL s (ps.take j) ++ partL ps[j].M := by
  unfold canonL
  rw [List.take_succ_eq_append_getElem h, List.flatMap_append, List.append_assoc]
  simp
theorem canonL_le (s : List Int) (ps : List Part) (j : Nat) : (canonL s (ps.take j)).length ≤ (canonL s ps).length := by
  have : canonL s ps = canonL s (ps.take j) ++ (ps.drop j).flatMap fun p => partL p.M := by
    unfold canonL
    rw [List.append_assoc, ← List.flatMap_append, List.take_append_drop]
  rw [this, List.length_append]
  omega
/-- the parts lie where they should. -/
structure PartsAt (wb : World) (Ap : Option Addr) (ps : List Part) : Prop where
  row : ∀ j (h : j < ps.length), ∃ g off, Ap = some ⟨g, off, none⟩ ∧ g < wb.heap.size ∧ wb.cell? ⟨g, off + j, none⟩ = some ps[j].val
  byt : ∀ j (h : j < ps.length), Byt wb ps[j].A ps[j].c ps[j].M ∧ InB ps[j].M
theorem canonL_in {s : List Int} (hs : InB s) {wb : World} : ∀ {ps : List Part}, (∀ j (h : j < ps.length), Byt wb ps[j].A ps[j].c ps[j].M ∧ InB ps[j].M) → InB (canonL s ps) := by
  intro ps h
  have : ∀ (ps : List Part), (∀ p ∈ ps, InB p.M) → InB (ps.flatMap fun p => partL p.M) := by
    intro ps
    induction ps with
    | nil => intro _ j; simp
    | cons p ps ih =>
      intro hp
      rw [List.flatMap_cons]
      exact (partL_in (hp p (List.mem_cons_self ..))).append (ih fun q hq => hp q (List.mem_cons_of_mem _ hq))
  refine (partL_in hs).append (this ps fun p hp => ?_)
  obtain ⟨j, hj, rfl⟩ := List.getElem_of_mem hp
  exact (h j hj).2
/-- what the loop keeps. -/
def DerI (k s : List Int) (ps : List Part) (m B : Nat) (w : World) (v i : Value) (wr : World) : Prop :=
  ∃ j : Nat, j ≤ m ∧ i = .int .i64 j ∧ Hid (wr.ownsRow B 5 1 v (canonL s (ps.take j)).length (vals (canonL s (ps.take j)))) ∧ Hid (Below w.heap.size w wr) ∧ Hid (wr.heap[w.heap.size]? = some (.cells (u8s k) 35 (0, 0))) ∧ Hid (∃ Z : Array Value, Z.size = 32 ∧ wr.heap[w.heap.size + 1]? = some (.cells Z 35 (0, 0))) ∧ B ≤ wr.heap.size
set_option maxRecDepth 100000 in
set_option maxHeartbeats 1000000 in
theorem derive_any (k : List Int) (s : ByteArray) (Ap : Option Addr) (cp m : Nat) (ps : List Part) (w : World) (hk : k.length = 32) (hb : InB k) (hm : ps.length = m) (hP : PartsAt w Ap ps) (hL : Laid w) (hT : (canonL (bytesOf s) ps).length ≤ 40000) :
    Calls Tryd.prog 24 #[.agg (u8s k), .string s, .slice Ap m cp] w fun e w' => e = .returned (.agg (u8s (hmacL k (canonL (bytesOf s) ps)))) ∧ Below w.heap.size w w' := by
  have hsz := hL.sz
  have h2 := two_new w (.cells (u8s k) 35) (.cells zero32 35)
  have b2 : Below w.heap.size w ((w.alloc (.cells (u8s k) 35)).alloc (.cells zero32 35)) := below_two w _ _
  have HL := Lib.hid hL
  have HP := Lib.hid hP
  have Hk := Lib.hid hk
  have Hb := Lib.hid hb
  have Hm := Lib.hid hm
  have HT := Lib.hid hT
  have hs40 : s.size ≤ 40000 := by
    have h1 := canonL_le (bytesOf s) ps 0
    have h2 : (canonL (bytesOf s) (ps.take 0)).length = 4 + s.size := by simp [canonL, partL_length, bytesOf_length]
    omega
  have hm4 : m ≤ 40000 := by
    have : ∀ ps : List Part, ps.length ≤ (ps.flatMap fun p => partL p.M).length := by
      intro ps
      induction ps with
      | nil => simp
      | cons p ps ih => rw [List.flatMap_cons, List.length_append, partL_length, List.length_cons]; omega
    have h1 := this ps
    have h2 : (canonL (bytesOf s) ps).length = (partL (bytesOf s)).length + (ps.flatMap fun p => partL p.M).length := by simp [canonL]
    omega
  unfold zero32 at h2 b2
  have H2 := Lib.hid h2
  have B2 := Lib.hid b2
  clear hL hP hk hb hm hT h2 b2
  go_enter Tryd.func24, Tryd.ntmps24
  go_upto_region 1 with fail
  have h1 := H2.out.1
  have hz := H2.out.2
  have low := B2.out
  have hs0 : w.heap.size + 2 ≤ ((w.alloc (.cells (u8s k) 35)).alloc (.cells #[.int .u8 0, .int .u8 0, .int .u8 0, .int .u8 0, .int .u8 0, .int .u8 0, .int .u8 0, .int .u8 0, .int .u8 0, .int .u8 0, .int .u8 0, .int .u8 0, .int .u8 0, .int .u8 0, .int .u8 0, .int .u8 0, .int .u8 0, .int .u8 0, .int .u8 0, .int .u8 0, .int .u8 0, .int .u8 0, .int .u8 0, .int .u8 0, .int .u8 0, .int .u8 0, .int .u8 0, .int .u8 0, .int .u8 0, .int .u8 0, .int .u8 0, .int .u8 0] 35)).heap.size := by simp
  clear H2 B2
  generalize World.alloc _ _ = w0 at h1 hz low hs0 ⊢
  have kc := Lib.run_convert_string_bytes (P := Tryd.prog) w0 9 26 5 s Tryd.underlying9 Tryd.underlying26 Tryd.underlying5
  obtain ⟨c0, hc0⟩ : ∃ c, c = grownCap w0 s.size 0 5 := ⟨_, rfl⟩
  have hbs := byt_string w0 s
  have low0 := below_string w0 s
  rw [← hc0] at kc hbs
  obtain ⟨w1, hw1⟩ : ∃ w1, w1 = Lib.bytesWorld w0 5 s := ⟨_, rfl⟩
  rw [← hw1] at kc hbs low0
  have Hbs := Lib.hid hbs
  have Low1 := Lib.hid (low.trans (low0.mono low.size))
  have R1 := Lib.hid ((low0.block _ (by omega)).trans h1)
  have Z1 := Lib.hid ((low0.block _ (by omega)).trans hz)
  have hs1 : w.heap.size + 2 ≤ w1.heap.size := by have := low0.size; omega
  have hmI : (m : Int) ≤ 40000 := by omega
  clear hc0 hw1 hbs low0 h1 hz low
  go_upto_region 2 with (go_at_call 43; refine (part_any w1.heap.size (.slice none 0 0) 0 [] (some ⟨w0.heap.size, 0, none⟩) c0 s.size (bytesOf s) w1 w1 (World.ownsRow_nil w1 _ 5 1) (bytesOf_length s) Hbs.out (Below.refl _ _) (Nat.le_refl _) (by omega) (Nat.le_refl _)).mono ?_; rintro e w2 ⟨v2, rfl, own2, hlow2⟩; have Low2 := Lib.hid (hlow2 _ _ Low1.out (by omega)); have R2 := Lib.hid (((hlow2 _ _ (Below.refl w1.heap.size w1) (Nat.le_refl _)).block _ (by omega)).trans R1.out); have Z2 := Lib.hid (((hlow2 _ _ (Below.refl w1.heap.size w1) (Nat.le_refl _)).block _ (by omega)).trans Z1.out); have hs2 := (hlow2 _ _ (Below.refl w1.heap.size w1) (Nat.le_refl _)).size; have Own2 := Lib.hid own2; clear own2 hlow2)
  go_wp2
  go_loopw [7, 15] (fun v i wr => DerI k (bytesOf s) ps m w1.heap.size w v i wr) (fun _ i _ => m - (intOf i).toNat)
  case atStart => exact ⟨0, Nat.zero_le _, rfl, by have h := Own2.out; show World.ownsRow _ _ _ _ _ _ _; rw [show canonL (bytesOf s) (ps.take 0) = [] ++ partL (bytesOf s) by simp [canonL], List.nil_append, partL_length, bytesOf_length, ← Nat.zero_add (4 + s.size)]; exact h, Low2, R2, ⟨_, rfl, Z2.out⟩, hs2⟩
  case round =>
    obtain ⟨j, hj, rfl, own, low, hkr, hzr, hBr⟩ := hrel
    clear Own2 Low2 R2 Z2 hs2 kc
    by_cases hlt : j < m
    · have hltp : j < ps.length := by have := Hm.out; omega
      obtain ⟨g, off, rfl, hg, hcell⟩ := HP.out.row j hltp
      obtain ⟨hpb, hpi⟩ := HP.out.byt j hltp
      have hsn := canonL_snoc (bytesOf s) ps j hltp
      have hle := canonL_le (bytesOf s) ps (j + 1)
      obtain ⟨p, hp⟩ : ∃ p, p = ps[j] := ⟨_, rfl⟩
      rw [← hp] at hcell hpb hpi hsn
      obtain ⟨pA, pc, pM⟩ := p
      have cc : wr.cell? ⟨g, off + j, none⟩ = some (.slice pA pM.length pc) := (low.out.cell (p := ⟨g, off + j, none⟩) hg).trans hcell
      obtain ⟨C, hC⟩ : ∃ C, C = canonL (bytesOf s) (ps.take j) := ⟨_, rfl⟩
      have own' := own.out
      rw [← hC] at own' hsn
      have hbd : C.length + (4 + pM.length) ≤ 40000 := by
        have h1 : (canonL (bytesOf s) (ps.take (j + 1))).length = C.length + (4 + pM.length) := by rw [hsn, List.length_append, partL_length]
        have := HT.out
        omega
      have Own' := Lib.hid own'
      have Hpb := Lib.hid hpb
      have Hsn := Lib.hid hsn
      have hltI : (j : Int) < m := by omega
      clear own own' hcell hpb hpi hp hC hsn hle
      go_wp2_with (go_at_call 43; refine (part_any w1.heap.size _ C.length C pA pc pM.length pM w wr Own'.out rfl Hpb.out low.out (by omega) (by omega) hBr).mono ?_; rintro e w3 ⟨v3, rfl, own3, hlow3⟩; have b3 := hlow3 _ _ (Below.refl w1.heap.size wr) (Nat.le_refl _); have Low3 := Lib.hid (hlow3 _ _ low.out (by omega)); have K3 := Lib.hid ((b3.block _ (by omega)).trans hkr.out); have Z3 : Hid (∃ Z : Array Value, Z.size = 32 ∧ w3.heap[w.heap.size + 1]? = some (.cells Z 35 (0, 0))) := (by obtain ⟨Z, hZ, hz⟩ := hzr.out; exact ⟨Z, hZ, (b3.block _ (by omega)).trans hz⟩); have hs3 := b3.size; have Own3 := Lib.hid own3; clear own3 hlow3 b3)
      go_roundw
      case rel => exact ⟨j + 1, by omega, by go_num, by have h := Own3.out; show World.ownsRow _ _ _ _ _ _ _; rw [Hsn.out, List.length_append, partL_length]; exact h, Low3, K3, Z3, by omega⟩
      case measure => simp [intOf]; omega
    · obtain rfl : j = m := by omega
      have own' := own.out
      rw [List.take_of_length_le (by rw [Hm.out]; exact Nat.le_refl _)] at own'
      obtain ⟨At, ct, rfl, _, hbt⟩ := own_byt own'
      obtain ⟨T, hTt⟩ : ∃ T, T = canonL (bytesOf s) ps := ⟨_, rfl⟩
      obtain ⟨Z, hZ, hz⟩ := hzr.out
      have hTin : InB T := by rw [hTt]; exact canonL_in (bytesOf_in s) HP.out.byt
      have hTl : T.length ≤ 40000 := by rw [hTt]; exact HT.out
      rw [← hTt] at hbt ⊢
      have HTi := Lib.hid hTin
      have Hbt := Lib.hid hbt
      have Hz := Lib.hid hz
      have HZ := Lib.hid hZ
      obtain ⟨S, hS⟩ : ∃ S, S = hmacL k T := ⟨_, rfl⟩
      have HS := Lib.hid hS
      have H35 : Hid ((Tryd.prog.info? 35).map (·.size) = some (u8s S).size) := by show _ = _; rw [u8s_size, hS, hmacL_length]; exact info35
      have HTt := Lib.hid hTt
      clear own own' hbt hz hZ hTin hzr hS hTt
      go_wp2_with (first
        | (go_at_call 20; refine (hmac_any k T (some ⟨w.heap.size, 0, none⟩) At 32 32 ct T.length wr Hk.out rfl Hb.out HTi.out (byt_rowT hkr.out Hk.out) Hbt.out (HL.out.below low.out hsz) (by omega) (by omega)).mono ?_; rintro e w4 ⟨rfl, b4⟩; rw [← HS.out]; have Z4 := Lib.hid ((b4.block _ (by omega)).trans Hz.out); have Low4 := Lib.hid (low.out.trans (b4.mono low.out.size)); clear b4)
        | (refine wpList_store_row rfl 35 (.tmp 6) (.tmp 25) rfl (w.heap.size + 1) (u8s S) (by rfl) (by rfl) 35 _ Z4.out H35.out (by rw [HZ.out, u8s_size, HS.out, hmacL_length]) (u8s_one _) ?_))
      exact bodyPost_ret (v := .agg (u8s S)) (results_cell_row rfl _ _ (w.heap.size + 1) 35 _ (0, 0) _ rfl (setRow_heap w4 _ _ _ _ _ Z4.out) Tryd.underlying35 rfl H35.out) rfl ⟨by rw [HS.out, HTt.out], below_setRow Low4.out (by omega) _⟩
end Go.Proofs.YtblgblhoolpmiaaDoor
