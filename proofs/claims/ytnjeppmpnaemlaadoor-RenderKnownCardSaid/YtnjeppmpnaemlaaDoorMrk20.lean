/- DERIVED. Texts of ours, merged: XGrfVx XGrfMade XGrfGiven XGrfKnA. -/
import Derived.Test.YtnjeppmpnaemlaaDoorMrk19
import Derived.Great.Walk
/- DERIVED. The law's vertices: root, end, at. -/
set_option maxRecDepth 100000
namespace Go.Proofs.YtnjeppmpnaemlaaDoor.Grf
open Go.RowKit Str Go.Maps
attribute [local go_sem ↓ high] loadAtVx loadAtHs loadAtGv
theorem hA_in (p : Nat) (hp : p < 256) : InB ((p : Int) :: List.replicate 31 0) := fun j => by
  cases j with
  | zero => show 0 ≤ (p : Int) ∧ (p : Int) < 256; omega
  | succ k =>
    have : (((p : Int) :: List.replicate 31 0).getD (k + 1) 0) = 0 := by
      simp only [List.getD_cons_succ]
      rw [List.getD_eq_getElem?_getD, List.getElem?_replicate]
      split <;> rfl
    rw [this]; omega
def vA (p n : Nat) (hp : p < 256) (hn : n ≤ 9223372036854775807) : Vx := ⟨(p : Int) :: List.replicate 31 0, n, by simp, hA_in p hp, by omega, by omega⟩
theorem built_root : Tryd.prog.built 27 [(1, .int .i64 (-1))] = some root.c := by kernel_rfl
theorem built_fin : Tryd.prog.built 27 [(1, .int .i64 (-2))] = some fin.c := by kernel_rfl
theorem built_hA (x : Int) : Tryd.prog.built 25 [(0, .int .u8 x)] = some (hsC (x :: List.replicate 31 0)) := by kernel_rfl
set_option maxHeartbeats 2000000 in
theorem lroot_any (w : World) : Calls Tryd.prog 19 #[] w fun e w' => e = .returned (.agg root.c) ∧ Below w.heap.size w w' := by
  have h2 := fun c : Array Value => Go.heap_alloc_new w (.cells c 27)
  have k2 : ∀ c : Array Value, Below w.heap.size w (w.alloc (.cells c 27)) := fun c => (Below.refl _ _).alloc (Nat.le_refl _) _
  go_enter Tryd.func19, Tryd.ntmps19
  go_upto_region 1 with (fail)
  refine wp_region_lit ?_
  generalize hZ : (#[Value.int IntKind.u8 0, Value.int IntKind.u8 0, Value.int IntKind.u8 0, Value.int IntKind.u8 0, Value.int IntKind.u8 0, Value.int IntKind.u8 0, Value.int IntKind.u8 0, Value.int IntKind.u8 0, Value.int IntKind.u8 0, Value.int IntKind.u8 0, Value.int IntKind.u8 0, Value.int IntKind.u8 0, Value.int IntKind.u8 0, Value.int IntKind.u8 0, Value.int IntKind.u8 0, Value.int IntKind.u8 0, Value.int IntKind.u8 0, Value.int IntKind.u8 0, Value.int IntKind.u8 0, Value.int IntKind.u8 0, Value.int IntKind.u8 0, Value.int IntKind.u8 0, Value.int IntKind.u8 0, Value.int IntKind.u8 0, Value.int IntKind.u8 0, Value.int IntKind.u8 0, Value.int IntKind.u8 0, Value.int IntKind.u8 0, Value.int IntKind.u8 0, Value.int IntKind.u8 0, Value.int IntKind.u8 0, Value.int IntKind.u8 0, Value.int IntKind.i64 0] : Array Value) = Z
  have hZ33 : Z.size = 33 := by rw [← hZ]; rfl
  obtain ⟨W, hW⟩ : ∃ W, W = w.alloc (.cells Z 27) := ⟨_, rfl⟩
  have r2 := h2 Z
  have l2 := k2 Z
  rw [← hW] at r2 l2 ⊢
  have HB := Lib.hid r2
  have HL := Lib.hid l2
  clear hW h2 k2 r2 l2 hZ
  refine wpList_buildTo rfl 27 #[(1, .const (.int .i64 (-1)))] rfl (some 1) rfl root.c (by simp only [List.map_toArray, List.map_cons, List.map_nil]; exact built_root) ?_
  refine wpList_store_row rfl 27 (.tmp 0) (.tmp 1) rfl w.heap.size root.c rfl rfl 27 _ HB.out (infoVxA _) (by rw [hZ33, Vx.c_size]) (Vx.one _) ?_
  refine wpList_nil ?_
  go_wp2
  exact bodyPost_ret (v := .agg root.c) (results_cell_row rfl _ _ w.heap.size 27 _ (0, 0) _ rfl (setRow_at HB.out) Tryd.underlying27 rfl (infoVxA _)) rfl ⟨rfl, below_setRow HL.out (by omega) _⟩
set_option maxHeartbeats 2000000 in
theorem lend_any (w : World) : Calls Tryd.prog 20 #[] w fun e w' => e = .returned (.agg fin.c) ∧ Below w.heap.size w w' := by
  have h2 := fun c : Array Value => Go.heap_alloc_new w (.cells c 27)
  have k2 : ∀ c : Array Value, Below w.heap.size w (w.alloc (.cells c 27)) := fun c => (Below.refl _ _).alloc (Nat.le_refl _) _
  go_enter Tryd.func20, Tryd.ntmps20
  go_upto_region 1 with (fail)
  refine wp_region_lit ?_
  generalize hZ : (#[Value.int IntKind.u8 0, Value.int IntKind.u8 0, Value.int IntKind.u8 0, Value.int IntKind.u8 0, Value.int IntKind.u8 0, Value.int IntKind.u8 0, Value.int IntKind.u8 0, Value.int IntKind.u8 0, Value.int IntKind.u8 0, Value.int IntKind.u8 0, Value.int IntKind.u8 0, Value.int IntKind.u8 0, Value.int IntKind.u8 0, Value.int IntKind.u8 0, Value.int IntKind.u8 0, Value.int IntKind.u8 0, Value.int IntKind.u8 0, Value.int IntKind.u8 0, Value.int IntKind.u8 0, Value.int IntKind.u8 0, Value.int IntKind.u8 0, Value.int IntKind.u8 0, Value.int IntKind.u8 0, Value.int IntKind.u8 0, Value.int IntKind.u8 0, Value.int IntKind.u8 0, Value.int IntKind.u8 0, Value.int IntKind.u8 0, Value.int IntKind.u8 0, Value.int IntKind.u8 0, Value.int IntKind.u8 0, Value.int IntKind.u8 0, Value.int IntKind.i64 0] : Array Value) = Z
  have hZ33 : Z.size = 33 := by rw [← hZ]; rfl
  obtain ⟨W, hW⟩ : ∃ W, W = w.alloc (.cells Z 27) := ⟨_, rfl⟩
  have r2 := h2 Z
  have l2 := k2 Z
  rw [← hW] at r2 l2 ⊢
  have HB := Lib.hid r2
  have HL := Lib.hid l2
  clear hW h2 k2 r2 l2 hZ
  refine wpList_buildTo rfl 27 #[(1, .const (.int .i64 (-2)))] rfl (some 1) rfl fin.c (by simp only [List.map_toArray, List.map_cons, List.map_nil]; exact built_fin) ?_
  refine wpList_store_row rfl 27 (.tmp 0) (.tmp 1) rfl w.heap.size fin.c rfl rfl 27 _ HB.out (infoVxA _) (by rw [hZ33, Vx.c_size]) (Vx.one _) ?_
  refine wpList_nil ?_
  go_wp2
  exact bodyPost_ret (v := .agg fin.c) (results_cell_row rfl _ _ w.heap.size 27 _ (0, 0) _ rfl (setRow_at HB.out) Tryd.underlying27 rfl (infoVxA _)) rfl ⟨rfl, below_setRow HL.out (by omega) _⟩
set_option maxHeartbeats 2000000 in
theorem lat_any (p n : Nat) (hp : p < 256) (hn : n ≤ 9223372036854775807) (w : World) : Calls Tryd.prog 15 #[.int .u8 p, .int .i64 n] w fun e w' => e = .returned (.agg (vA p n hp hn).c) ∧ Below w.heap.size w w' := by
  have h2 := fun c : Array Value => Go.heap_alloc_new w (.cells c 27)
  have k2 : ∀ c : Array Value, Below w.heap.size w (w.alloc (.cells c 27)) := fun c => (Below.refl _ _).alloc (Nat.le_refl _) _
  obtain ⟨v, hv⟩ : ∃ v, v = vA p n hp hn := ⟨_, rfl⟩
  have hb : Tryd.prog.built 27 [(0, .agg (hsC v.h)), (1, .int .i64 v.n)] = some v.c := built_vtx v
  have hh : Tryd.prog.built 25 [(0, .int .u8 (p : Int))] = some (hsC v.h) := by rw [hv]; exact built_hA p
  have hn2 : v.n = n := by rw [hv]; rfl
  rw [hn2] at hb
  rw [← hv]
  have HB1 := Lib.hid hb
  have HB2 := Lib.hid hh
  clear hv hn2 hb hh
  go_enter Tryd.func15, Tryd.ntmps15
  go_upto_region 1 with (fail)
  refine wp_region_lit ?_
  generalize hZ : (#[Value.int IntKind.u8 0, Value.int IntKind.u8 0, Value.int IntKind.u8 0, Value.int IntKind.u8 0, Value.int IntKind.u8 0, Value.int IntKind.u8 0, Value.int IntKind.u8 0, Value.int IntKind.u8 0, Value.int IntKind.u8 0, Value.int IntKind.u8 0, Value.int IntKind.u8 0, Value.int IntKind.u8 0, Value.int IntKind.u8 0, Value.int IntKind.u8 0, Value.int IntKind.u8 0, Value.int IntKind.u8 0, Value.int IntKind.u8 0, Value.int IntKind.u8 0, Value.int IntKind.u8 0, Value.int IntKind.u8 0, Value.int IntKind.u8 0, Value.int IntKind.u8 0, Value.int IntKind.u8 0, Value.int IntKind.u8 0, Value.int IntKind.u8 0, Value.int IntKind.u8 0, Value.int IntKind.u8 0, Value.int IntKind.u8 0, Value.int IntKind.u8 0, Value.int IntKind.u8 0, Value.int IntKind.u8 0, Value.int IntKind.u8 0, Value.int IntKind.i64 0] : Array Value) = Z
  have hZ33 : Z.size = 33 := by rw [← hZ]; rfl
  obtain ⟨W, hW⟩ : ∃ W, W = w.alloc (.cells Z 27) := ⟨_, rfl⟩
  have r2 := h2 Z
  have l2 := k2 Z
  rw [← hW] at r2 l2 ⊢
  have HB := Lib.hid r2
  have HL := Lib.hid l2
  clear hW h2 k2 r2 l2 hZ
  refine wpList_plain rfl (fun K hK => ?_)
  go_simp
  refine hK _ _ ?_
  clear hK
  clear K
  refine wpList_buildTo rfl 25 #[(0, .tmp 5)] rfl (some 6) rfl (hsC v.h) (by simp only [List.map_toArray, List.map_cons, List.map_nil]; exact HB2.out) ?_
  refine wpList_plain rfl (fun K hK => ?_)
  go_simp
  refine hK _ _ ?_
  clear hK
  clear K
  refine wpList_buildTo rfl 27 #[(0, .tmp 6), (1, .tmp 7)] rfl (some 8) rfl v.c (by simp only [List.map_toArray, List.map_cons, List.map_nil]; exact HB1.out) ?_
  refine wpList_store_row rfl 27 (.tmp 4) (.tmp 8) rfl w.heap.size v.c rfl rfl 27 _ HB.out (infoVxA _) (by rw [hZ33, Vx.c_size]) (Vx.one _) ?_
  refine wpList_nil ?_
  go_wp2
  exact bodyPost_ret (v := .agg v.c) (results_cell_row rfl _ _ w.heap.size 27 _ (0, 0) _ rfl (setRow_at HB.out) Tryd.underlying27 rfl (infoVxA _)) rfl ⟨rfl, below_setRow HL.out (by omega) _⟩
end Go.Proofs.YtnjeppmpnaemlaaDoor.Grf
/- DERIVED. The law's made: New and Add over a row of parts. -/
set_option maxRecDepth 100000
namespace Go.Proofs.YtnjeppmpnaemlaaDoor.Grf
open Go.RowKit Str Go.Maps
attribute [local go_sem ↓ high] loadAtVx loadAtHs loadAtGv
theorem loadGv_mid {w : World} {b o : Nat} {d : PD} {lnv gnv : Value} (hr : w.rangeAt b o (givC d lnv gnv).toList) : (loadGv (.pointer (some ⟨b, o, none⟩))).run Tryd.prog w = .ok (.agg (givC d lnv gnv)) w := by
  unfold loadGv
  simp only [Instr.loadAt, Instr.sureAddr, Sem.run_bind, Sem.run_pure, Result.andThen_ok, run_loadVar_mid w b o 31 (givC d lnv gnv).toList _ hr Tryd.underlying31 rfl (by rw [Array.length_toList]; exact infoGiv d lnv gnv)]
/-- a given part: what it is, its two slices. -/
abbrev Gvn := PD × Value × Value
/-- what Add asks of a given part. -/
structure GvOk (w : World) (x : Gvn) : Prop where
  db : DB x.1
  first : x.1.first ≤ 9223372036854775807
  ln : RdS w x.2.1 x.1.lines
  gn : RdV w x.2.2 x.1.gone
  hz : x.1.gone = [] → ∃ A c, x.2.2 = .slice A 0 c ∧ (A = none ∨ ∃ b off, A = some ⟨b, off, none⟩)
theorem GvOk.below {w w' : World} {x : Gvn} (h : GvOk w x) (hb : Below w.heap.size w w') : GvOk w' x := ⟨h.db, h.first, h.ln.below hb, h.gn.below hb, h.hz⟩
/-- a slice that reads as given parts. -/
def RdP (w : World) (v : Value) (l : List Gvn) : Prop := ∃ A c, v = .slice A l.length c ∧ l.length ≤ c ∧ (0 < l.length → ∃ g off, A = some ⟨g, off, none⟩ ∧ g < w.heap.size ∧ ∀ (j : Nat) (x : Gvn), l[j]? = some x → w.rangeAt g (off + j * 102) (givC x.1 x.2.1 x.2.2).toList)
theorem range_below {w w' : World} {g o : Nat} {l : List Value} (h : w.rangeAt g o l) (hb : Below w.heap.size w w') (hg : g < w.heap.size) : w'.rangeAt g o l := fun k u hu => (hb.cell (p := ⟨g, o + k, none⟩) hg).trans (h k u hu)
/-- the parts that stand behind adds, if all of them can come. -/
def mdD : List PD → List PD → Option (List PD)
  | done, [] => some done
  | done, d :: t => if refD done d = 0 then mdD (d :: done) t else none
def MdQ (w : World) (l : List PD) (e : Ending) (w' : World) : Prop :=
  match mdD [] l with
  | none => e = .returned (.pointer none) ∧ Below w.heap.size w w'
  | some ps => ∃ S, e = .returned (ptr S.g) ∧ ds S.ps = ps ∧ GX w' S l.length ∧ Below w.heap.size w w' ∧ ∀ b ∈ blk S, w.heap.size ≤ b
/-- behind the first k. -/
def MI (w : World) (l : List PD) (g0 k : Nat) (wr : World) : Prop := ∃ S, S.g = g0 ∧ mdD [] l = mdD (ds S.ps) (l.drop k) ∧ GX wr S k ∧ Below w.heap.size w wr ∧ ∀ b ∈ blk S, w.heap.size ≤ b
theorem blk_more {S : GS} {p : PA} {n : Nat} (h : ∀ b ∈ blk S, n ≤ b) (hp : n ≤ p.b) (hl : ∀ b ∈ p.ls, n ≤ b) : ∀ b ∈ blk (moreS S p), n ≤ b := by
  intro b hb
  unfold blk moreS at hb
  simp only [List.mem_cons, List.flatMap_cons, List.mem_append] at hb
  have hS := h b
  unfold blk at hS
  simp only [List.mem_cons] at hS
  rcases hb with hb | hb | hb | hb | hb | hb | (hb | hb) | hb
  · exact hS (by simp [hb])
  · exact hS (by simp [hb])
  · exact hS (by simp [hb])
  · exact hS (by simp [hb])
  · exact hS (by simp [hb])
  · exact hS (by simp [hb])
  · rw [hb]; exact hp
  · exact hl b hb
  · exact hS (by simp [hb])
set_option maxHeartbeats 4000000 in
theorem made_any (l : List Gvn) (hl : l.length ≤ 100) (v : Value) (w : World) (hL : Laid w) (hv : RdP w v l) (hok : ∀ x ∈ l, GvOk w x) : Calls Tryd.prog 11 #[v] w (MdQ w (l.map (·.1))) := by
  obtain ⟨A, c, rfl, hc, hr⟩ := hv
  obtain ⟨L, hLL⟩ : ∃ L, L = l.map (·.1) := ⟨_, rfl⟩
  rw [← hLL]
  obtain ⟨m, hm⟩ : ∃ m, m = l.length := ⟨_, rfl⟩
  rw [← hm] at hc hl ⊢
  have hmL : m = L.length := by rw [hLL, List.length_map, hm]
  have hN := new_gx w hL
  have HL := Lib.hid hL
  have HR := Lib.hid hr
  have HO := Lib.hid hok
  have Hm := Lib.hid hm
  have HmL := Lib.hid hmL
  have HLL := Lib.hid hLL
  have hcI : (m : Int) ≤ c := by omega
  clear hL hr hok hm hmL hLL
  go_enter Tryd.func11, Tryd.ntmps11
  go_upto_region 3 with (go_at_call 21; refine hN.mono ?_; rintro e w1 ⟨S0, rfl, hps, hgx, hlow, hblk⟩)
  obtain ⟨g0, hg0⟩ : ∃ g0, g0 = S0.g := ⟨_, rfl⟩
  rw [← hg0]
  have H0 : Hid (MI w L g0 0 w1) := ⟨S0, hg0.symm, by rw [hps]; rfl, hgx, hlow, hblk⟩
  clear hps hgx hlow hblk hg0 hN
  go_loopw [4] (fun i wr => ∃ k : Nat, k ≤ m ∧ i = .int .i64 k ∧ Hid (MI w L g0 k wr)) (fun i _ => m - (intOf i).toNat)
  case atStart => exact ⟨0, Nat.zero_le _, rfl, H0⟩
  case round =>
    obtain ⟨k, hk, rfl, hI⟩ := hrel
    clear H0
    by_cases hlt : k < m
    · have hltI : (k : Int) < m := by omega
      have hk0 : 0 ≤ (k : Int) := by omega
      obtain ⟨x, hx⟩ : ∃ x, l[k]? = some x := ⟨_, List.getElem?_eq_getElem (by have := Hm.out; omega)⟩
      obtain ⟨g, off, rfl, hg, hcell⟩ := HR.out (by have := Hm.out; omega)
      obtain ⟨S, hSg, hmd, hgx, hlow, hblk⟩ := hI.out
      have hO := (HO.out x (List.mem_of_getElem? hx)).below hlow
      have eg := loadGv_mid (range_below (hcell k x hx) hlow hg)
      have hwk : wrap64 ((k : Int) + 1) = ((k + 1 : Nat) : Int) := by unfold wrap64; omega
      have hA := add_any S k (by omega) wr hgx (HL.out.below hlow (Nat.le_refl _)) x.1 x.2.1 x.2.2 hO.db hO.first hO.ln hO.gn hO.hz
      have hdr : L.drop k = x.1 :: L.drop (k + 1) := by
        rw [List.drop_eq_getElem_cons (by have := HmL.out; omega)]
        congr 1
        have e1 : L[k]? = some x.1 := by rw [HLL.out, List.getElem?_map, hx]; rfl
        exact (List.getElem?_eq_some_iff.1 e1).2
      have hrD := refB_D hgx.gi.gm.lsl x.1
      rw [hSg] at hA
      by_cases hr : refB S x.1 = 0
      · have HN : Hid (∀ w2, AddQ wr S k x.1 w2 → MI w L g0 (k + 1) w2) := fun w2 hq => by
          unfold AddQ at hq
          rw [if_pos hr] at hq
          obtain ⟨p, hp, hpb, hpl, hgx2, hchg⟩ := hq
          refine ⟨moreS S p, hSg, ?_, hgx2, hchg.below hlow hlow.size hblk, blk_more hblk (Nat.le_trans hlow.size hpb) (fun b hb => Nat.le_trans hlow.size (hpl b hb))⟩
          rw [hmd, hdr, mdD, if_pos (by rw [← hrD]; exact hr)]
          show mdD (x.1 :: ds S.ps) _ = mdD (p.d :: ds S.ps) _
          rw [hp]
        rw [hr] at hA
        clear hI hcell hx hSg hmd hgx hlow hblk hO hdr hrD hr hg
        go_wp2_with (go_at_call 22; refine hA.mono ?_; rintro e w2 ⟨rfl, hq⟩)
        refine ⟨⟨k + 1, hlt, rfl, HN.out _ hq⟩, ?_⟩
        clear hwk
        simp only [intOf]
        omega
      · have HN : Hid (∀ w2, AddQ wr S k x.1 w2 → MdQ w L (.returned (.pointer none)) w2) := fun w2 hq => by
          unfold AddQ at hq
          rw [if_neg hr] at hq
          unfold MdQ
          rw [hmd, hdr, mdD, if_neg (by rw [← hrD]; exact hr)]
          exact ⟨rfl, hlow.trans (hq.mono hlow.size)⟩
        obtain ⟨z, hz⟩ : ∃ z, z = refB S x.1 := ⟨_, rfl⟩
        rw [← hz] at hA hr
        clear hI hcell hx hSg hmd hgx hlow hblk hO hdr hrD hz hg
        go_wp2_with (go_at_call 22; refine hA.mono ?_; rintro e w2 ⟨rfl, hq⟩)
        go_ret
        exact HN.out _ hq
    · have hltI : ¬ (k : Int) < m := by omega
      obtain rfl : k = m := by omega
      have HF : Hid (MdQ w L (.returned (ptr g0)) wr) := by
        obtain ⟨S, hSg, hmd, hgx, hlow, hblk⟩ := hI.out
        show MdQ _ _ _ _
        unfold MdQ
        have e0 : L.drop k = [] := List.drop_eq_nil_of_le (by have := HmL.out; omega)
        rw [hmd, e0]
        refine ⟨S, by rw [hSg], rfl, ?_, hlow, hblk⟩
        rw [← HmL.out]; exact hgx
      clear hI
      go_wp2
      go_ret
      exact HF.out
end Go.Proofs.YtnjeppmpnaemlaaDoor.Grf
/- DERIVED. The law's parts: first, second, third. Written by mkgiven.py. -/
set_option maxRecDepth 100000
namespace Go.Proofs.YtnjeppmpnaemlaaDoor.Grf
open Go.RowKit Str Go.Maps
attribute [local go_sem ↓ high] loadAtVx loadAtHs loadAtGv
theorem built_givF (f g h : Nat → Value) (a b : Int) (A : Option Addr) (n c : Nat) : Tryd.prog.built 31 [(0, .agg ((List.range 32).map f).toArray), (3, .agg ((List.range 32).map g ++ [Value.int .i64 a]).toArray), (4, .agg ((List.range 32).map h ++ [Value.int .i64 b]).toArray), (5, .slice A n c)] = some (((List.range 32).map f ++ [Value.int .i64 0]) ++ [Value.int .i64 0] ++ ((List.range 32).map g ++ [Value.int .i64 a]) ++ ((List.range 32).map h ++ [Value.int .i64 b]) ++ [Value.slice A n c, nils]).toArray := by kernel_rfl
theorem built_givG (f g h : Nat → Value) (a b : Int) (A B : Option Addr) (n c n2 c2 : Nat) : Tryd.prog.built 31 [(0, .agg ((List.range 32).map f).toArray), (3, .agg ((List.range 32).map g ++ [Value.int .i64 a]).toArray), (4, .agg ((List.range 32).map h ++ [Value.int .i64 b]).toArray), (5, .slice A n c), (6, .slice B n2 c2)] = some (((List.range 32).map f ++ [Value.int .i64 0]) ++ [Value.int .i64 0] ++ ((List.range 32).map g ++ [Value.int .i64 a]) ++ ((List.range 32).map h ++ [Value.int .i64 b]) ++ [Value.slice A n c, Value.slice B n2 c2]).toArray := by kernel_rfl
theorem built_giv (d : PD) (h0 : d.nm.n = 0) (h1 : d.first = 0) (A : Option Addr) (n c : Nat) : Tryd.prog.built 31 [(0, .agg (hsC d.nm.h)), (3, .agg d.up.c), (4, .agg d.down.c), (5, .slice A n c)] = some (givC d (.slice A n c) nils) := by
  obtain ⟨f, hf⟩ := hs_fun d.nm.len
  obtain ⟨g, hg⟩ := vx_fun d.up
  obtain ⟨h, hh⟩ := vx_fun d.down
  unfold givC
  rw [hg, hh, h1, Vx.c_list, h0]
  unfold hsC
  rw [hf]
  exact built_givF f g h d.up.n d.down.n A n c
theorem built_giv2 (d : PD) (h0 : d.nm.n = 0) (h1 : d.first = 0) (A B : Option Addr) (n c n2 c2 : Nat) : Tryd.prog.built 31 [(0, .agg (hsC d.nm.h)), (3, .agg d.up.c), (4, .agg d.down.c), (5, .slice A n c), (6, .slice B n2 c2)] = some (givC d (.slice A n c) (.slice B n2 c2)) := by
  obtain ⟨f, hf⟩ := hs_fun d.nm.len
  obtain ⟨g, hg⟩ := vx_fun d.up
  obtain ⟨h, hh⟩ := vx_fun d.down
  unfold givC
  rw [hg, hh, h1, Vx.c_list, h0]
  unfold hsC
  rw [hf]
  exact built_givG f g h d.up.n d.down.n A B n c n2 c2
theorem rdS_row {w : World} {b : Nat} {l : List ByteArray} (h : w.heap[b]? = some (.cells (l.map Value.string).toArray 9 (0, 0))) : RdS w (.slice (some ⟨b, 0, none⟩) l.length l.length) l :=
  ⟨_, _, rfl, Nat.le_refl _, fun _ => ⟨b, 0, rfl, (Array.getElem?_eq_some_iff.1 h).1, fun j x hx => by rw [Nat.zero_add, cell_row h]; simp [hx]⟩⟩
theorem rdV_one {w : World} {b : Nat} {v : Vx} (h : w.heap[b]? = some (.cells v.c 27 (0, 0))) : RdV w (.slice (some ⟨b, 0, none⟩) 1 1) [v] :=
  ⟨_, _, rfl, Nat.le_refl _, fun _ => ⟨b, 0, rfl, (Array.getElem?_eq_some_iff.1 h).1, fun j x hx => by
    match j, hx with
    | 0, hx => obtain rfl := Option.some.inj hx; exact row_range h [] _ [] (by simp) 0 rfl
    | j + 1, hx => simp at hx⟩⟩
theorem rdV_nil (w : World) : RdV w nils [] := ⟨none, 0, rfl, Nat.le_refl _, fun h => absurd h (by simp)⟩
/-- what a maker of a part answers. -/
def GvQ (d : PD) (w : World) (e : Ending) (w' : World) : Prop := ∃ l g, e = .returned (.agg (givC d l g)) ∧ GvOk w' (d, l, g) ∧ Below w.heap.size w w'
def dFirst : PD := ⟨vA 1 0 (by omega) (by omega), 0, root, fin, [⟨#[97]⟩, ⟨#[98]⟩], []⟩
def dSecond : PD := ⟨vA 2 0 (by omega) (by omega), 0, vA 1 0 (by omega) (by omega), vA 1 1 (by omega) (by omega), [⟨#[120]⟩], []⟩
def dThird : PD := ⟨vA 3 0 (by omega) (by omega), 0, vA 1 0 (by omega) (by omega), vA 1 1 (by omega) (by omega), [⟨#[121]⟩], [vA 1 0 (by omega) (by omega)]⟩
theorem built_oneF (f : Nat → Value) (a : Int) : Tryd.prog.builtSlice 27 1 [(0, .agg ((List.range 32).map f ++ [Value.int .i64 a]).toArray)] = some ((List.range 32).map f ++ [Value.int .i64 a]).toArray := by kernel_rfl
theorem built_one (v : Vx) : Tryd.prog.builtSlice 27 1 [(0, .agg v.c)] = some v.c := by
  obtain ⟨f, hf⟩ := vx_fun v
  rw [hf]
  exact built_oneF f v.n
theorem dF_db : DB dFirst := ⟨by decide, by decide, fun s hs => by simp [dFirst] at hs; rcases hs with rfl | rfl <;> decide⟩
theorem dS_db : DB dSecond := ⟨by decide, by decide, fun s hs => by simp [dSecond] at hs; rcases hs with rfl; decide⟩
theorem dT_db : DB dThird := ⟨by decide, by decide, fun s hs => by simp [dThird] at hs; rcases hs with rfl; decide⟩
set_option maxHeartbeats 4000000 in
theorem lfirst_any (w : World) : Calls Tryd.prog 12 #[] w (GvQ dFirst w) := by
  have h2 := fun c : Array Value => Go.heap_alloc_new w (.cells c 31)
  have k2 : ∀ c : Array Value, Below w.heap.size w (w.alloc (.cells c 31)) := fun c => (Below.refl _ _).alloc (Nat.le_refl _) _
  obtain ⟨d, hd⟩ : ∃ d, d = dFirst := ⟨_, rfl⟩
  have hb : Tryd.prog.built 25 [(0, .int .u8 (1 : Int))] = some (hsC d.nm.h) := by rw [hd]; exact built_hA 1
  have hup : ∀ w, Calls Tryd.prog 19 #[] w fun e w' => e = .returned (.agg d.up.c) ∧ Below w.heap.size w w' := by rw [hd]; exact lroot_any
  have hdn : ∀ w, Calls Tryd.prog 20 #[] w fun e w' => e = .returned (.agg d.down.c) ∧ Below w.heap.size w w' := by rw [hd]; exact lend_any
  have hls : d.lines = [⟨#[97]⟩, ⟨#[98]⟩] := by rw [hd]; rfl
  have hdb : DB d := by rw [hd]; exact dF_db
  have h0 : d.nm.n = 0 := by rw [hd]; rfl
  have h1 : d.first = 0 := by rw [hd]; rfl
  have hgo : d.gone = [] := by rw [hd]; rfl
  rw [← hd]
  have HB1 := Lib.hid hb
  clear hd hb
  go_enter Tryd.func12, Tryd.ntmps12
  go_upto_region 1 with (fail)
  refine wp_region_lit ?_
  generalize hZ : Tryd.zeroCells31 = Z
  have hZ2 : Z.size = 102 := by rw [← hZ]; kernel_rfl
  obtain ⟨W, hW⟩ : ∃ W, W = w.alloc (.cells Z 31) := ⟨_, rfl⟩
  have r2 := h2 Z
  have l2 := k2 Z
  rw [← hW] at r2 l2 ⊢
  have HB := Lib.hid r2
  have HL := Lib.hid l2
  have hh : w.heap.size < W.heap.size := by rw [hW, World.size_alloc]; omega
  have HWs := Lib.hid hh
  clear hW h2 k2 r2 l2 hZ hh
  refine wpList_buildTo rfl 25 #[(0, .const (.int .u8 1))] rfl (some 1) rfl (hsC d.nm.h) (by simp only [List.map_toArray, List.map_cons, List.map_nil]; exact HB1.out) ?_
  refine wpList_plain rfl (fun K hK => ?_)
  go_simp
  go_at_call 19
  refine (hup W).mono ?_
  rintro e w1 ⟨rfl, low1⟩
  refine hK _ _ ?_
  clear hK
  clear K
  refine wpList_plain rfl (fun K hK => ?_)
  go_simp
  go_at_call 20
  refine (hdn w1).mono ?_
  rintro e w2 ⟨rfl, low2⟩
  refine hK _ _ ?_
  clear hK
  clear K
  refine Great.wpList_buildSliceTo rfl 28 9 2 #[(0, .const (.string ⟨#[97]⟩)), (1, .const (.string ⟨#[98]⟩))] rfl w2.heap.size rfl (some 4) rfl Tryd.underlying28 (d.lines.map Value.string).toArray (by rw [hls]; kernel_rfl) ?_
  have hr3 := Go.heap_alloc_new w2 (.cells (d.lines.map Value.string).toArray 9)
  have low3 : Below w2.heap.size w2 (w2.alloc (.cells (d.lines.map Value.string).toArray 9)) := (Below.refl _ _).alloc (Nat.le_refl _) _
  obtain ⟨w3, hw3⟩ : ∃ w3, w3 = w2.alloc (.cells (d.lines.map Value.string).toArray 9) := ⟨_, rfl⟩
  rw [← hw3] at hr3 low3 ⊢
  have HR3 := Lib.hid hr3
  obtain ⟨q, hq⟩ : ∃ q, q = w2.heap.size := ⟨_, rfl⟩
  rw [← hq] at HR3 ⊢
  have HL3 := Lib.hid ((low1.trans (low2.mono low1.size)).trans (low3.mono (Nat.le_trans low1.size low2.size)))
  have hqn : q ≠ w.heap.size := by have h1 := HWs.out; have h2 := low1.size; have h3 := low2.size; omega
  have Hq := Lib.hid hqn
  clear hw3 hr3 low1 low2 low3 hq hqn
  refine wpList_buildTo rfl 31 #[(0, .tmp 1), (3, .tmp 2), (4, .tmp 3), (5, .tmp 4)] rfl (some 5) rfl (givC d (.slice (some ⟨q, 0, none⟩) 2 2) nils) (by simp only [List.map_toArray, List.map_cons, List.map_nil]; exact built_giv d h0 h1 _ _ _) ?_
  have HB3 := Lib.hid ((HL3.out.block _ HWs.out).trans HB.out)
  refine wpList_store_row rfl 31 (.tmp 0) (.tmp 5) rfl w.heap.size (givC d (.slice (some ⟨q, 0, none⟩) 2 2) nils) rfl rfl 31 _ HB3.out (infoGiv _ _ _) (by rw [hZ2, givC_size]) (givC_one _ _ _ rfl rfl) ?_
  refine wpList_nil ?_
  have hdef : GvQ d w (.returned (.agg (givC d (.slice (some ⟨q, 0, none⟩) 2 2) nils))) (w3.setRow w.heap.size (givC d (.slice (some ⟨q, 0, none⟩) 2 2) nils)) := by
    have hS := below_setRow (HL.out.trans (HL3.out.mono HL.out.size)) (Nat.le_refl w.heap.size) (givC d (.slice (some ⟨q, 0, none⟩) 2 2) nils)
    refine ⟨_, _, rfl, ⟨hdb, by rw [h1]; decide, ?_, by rw [hgo]; exact rdV_nil _, fun _ => ⟨none, 0, rfl, .inl rfl⟩⟩, hS⟩
    have hs : RdS (w3.setRow w.heap.size (givC d (.slice (some ⟨q, 0, none⟩) 2 2) nils)) (.slice (some ⟨q, 0, none⟩) d.lines.length d.lines.length) d.lines := rdS_row ((setRow_ne Hq.out.symm).trans HR3.out)
    rw [hls] at hs
    rw [hls]
    exact hs
  have HF := Lib.hid hdef
  clear hdef HL3 HR3
  go_wp2
  exact bodyPost_ret (v := .agg (givC d (.slice (some ⟨q, 0, none⟩) 2 2) nils)) (results_cell_row rfl _ _ w.heap.size 31 _ (0, 0) _ rfl (setRow_at HB3.out) Tryd.underlying31 rfl (infoGiv _ _ _)) rfl HF.out
set_option maxHeartbeats 4000000 in
theorem lsecond_any (w : World) : Calls Tryd.prog 13 #[] w (GvQ dSecond w) := by
  have h2 := fun c : Array Value => Go.heap_alloc_new w (.cells c 31)
  have k2 : ∀ c : Array Value, Below w.heap.size w (w.alloc (.cells c 31)) := fun c => (Below.refl _ _).alloc (Nat.le_refl _) _
  obtain ⟨d, hd⟩ : ∃ d, d = dSecond := ⟨_, rfl⟩
  have hb : Tryd.prog.built 25 [(0, .int .u8 (2 : Int))] = some (hsC d.nm.h) := by rw [hd]; exact built_hA 2
  have hup : ∀ w, Calls Tryd.prog 15 #[.int .u8 1, .int .i64 0] w fun e w' => e = .returned (.agg d.up.c) ∧ Below w.heap.size w w' := by rw [hd]; exact (lat_any 1 0 (by omega) (by omega))
  have hdn : ∀ w, Calls Tryd.prog 15 #[.int .u8 1, .int .i64 1] w fun e w' => e = .returned (.agg d.down.c) ∧ Below w.heap.size w w' := by rw [hd]; exact (lat_any 1 1 (by omega) (by omega))
  have hls : d.lines = [⟨#[120]⟩] := by rw [hd]; rfl
  have hdb : DB d := by rw [hd]; exact dS_db
  have h0 : d.nm.n = 0 := by rw [hd]; rfl
  have h1 : d.first = 0 := by rw [hd]; rfl
  have hgo : d.gone = [] := by rw [hd]; rfl
  rw [← hd]
  have HB1 := Lib.hid hb
  clear hd hb
  go_enter Tryd.func13, Tryd.ntmps13
  go_upto_region 1 with (fail)
  refine wp_region_lit ?_
  generalize hZ : Tryd.zeroCells31 = Z
  have hZ2 : Z.size = 102 := by rw [← hZ]; kernel_rfl
  obtain ⟨W, hW⟩ : ∃ W, W = w.alloc (.cells Z 31) := ⟨_, rfl⟩
  have r2 := h2 Z
  have l2 := k2 Z
  rw [← hW] at r2 l2 ⊢
  have HB := Lib.hid r2
  have HL := Lib.hid l2
  have hh : w.heap.size < W.heap.size := by rw [hW, World.size_alloc]; omega
  have HWs := Lib.hid hh
  clear hW h2 k2 r2 l2 hZ hh
  refine wpList_buildTo rfl 25 #[(0, .const (.int .u8 2))] rfl (some 1) rfl (hsC d.nm.h) (by simp only [List.map_toArray, List.map_cons, List.map_nil]; exact HB1.out) ?_
  refine wpList_plain rfl (fun K hK => ?_)
  go_simp
  go_at_call 15
  refine (hup W).mono ?_
  rintro e w1 ⟨rfl, low1⟩
  refine hK _ _ ?_
  clear hK
  clear K
  refine wpList_plain rfl (fun K hK => ?_)
  go_simp
  go_at_call 15
  refine (hdn w1).mono ?_
  rintro e w2 ⟨rfl, low2⟩
  refine hK _ _ ?_
  clear hK
  clear K
  refine Great.wpList_buildSliceTo rfl 28 9 1 #[(0, .const (.string ⟨#[120]⟩))] rfl w2.heap.size rfl (some 4) rfl Tryd.underlying28 (d.lines.map Value.string).toArray (by rw [hls]; kernel_rfl) ?_
  have hr3 := Go.heap_alloc_new w2 (.cells (d.lines.map Value.string).toArray 9)
  have low3 : Below w2.heap.size w2 (w2.alloc (.cells (d.lines.map Value.string).toArray 9)) := (Below.refl _ _).alloc (Nat.le_refl _) _
  obtain ⟨w3, hw3⟩ : ∃ w3, w3 = w2.alloc (.cells (d.lines.map Value.string).toArray 9) := ⟨_, rfl⟩
  rw [← hw3] at hr3 low3 ⊢
  have HR3 := Lib.hid hr3
  obtain ⟨q, hq⟩ : ∃ q, q = w2.heap.size := ⟨_, rfl⟩
  rw [← hq] at HR3 ⊢
  have HL3 := Lib.hid ((low1.trans (low2.mono low1.size)).trans (low3.mono (Nat.le_trans low1.size low2.size)))
  have hqn : q ≠ w.heap.size := by have h1 := HWs.out; have h2 := low1.size; have h3 := low2.size; omega
  have Hq := Lib.hid hqn
  clear hw3 hr3 low1 low2 low3 hq hqn
  refine wpList_buildTo rfl 31 #[(0, .tmp 1), (3, .tmp 2), (4, .tmp 3), (5, .tmp 4)] rfl (some 5) rfl (givC d (.slice (some ⟨q, 0, none⟩) 1 1) nils) (by simp only [List.map_toArray, List.map_cons, List.map_nil]; exact built_giv d h0 h1 _ _ _) ?_
  have HB3 := Lib.hid ((HL3.out.block _ HWs.out).trans HB.out)
  refine wpList_store_row rfl 31 (.tmp 0) (.tmp 5) rfl w.heap.size (givC d (.slice (some ⟨q, 0, none⟩) 1 1) nils) rfl rfl 31 _ HB3.out (infoGiv _ _ _) (by rw [hZ2, givC_size]) (givC_one _ _ _ rfl rfl) ?_
  refine wpList_nil ?_
  have hdef : GvQ d w (.returned (.agg (givC d (.slice (some ⟨q, 0, none⟩) 1 1) nils))) (w3.setRow w.heap.size (givC d (.slice (some ⟨q, 0, none⟩) 1 1) nils)) := by
    have hS := below_setRow (HL.out.trans (HL3.out.mono HL.out.size)) (Nat.le_refl w.heap.size) (givC d (.slice (some ⟨q, 0, none⟩) 1 1) nils)
    refine ⟨_, _, rfl, ⟨hdb, by rw [h1]; decide, ?_, by rw [hgo]; exact rdV_nil _, fun _ => ⟨none, 0, rfl, .inl rfl⟩⟩, hS⟩
    have hs : RdS (w3.setRow w.heap.size (givC d (.slice (some ⟨q, 0, none⟩) 1 1) nils)) (.slice (some ⟨q, 0, none⟩) d.lines.length d.lines.length) d.lines := rdS_row ((setRow_ne Hq.out.symm).trans HR3.out)
    rw [hls] at hs
    rw [hls]
    exact hs
  have HF := Lib.hid hdef
  clear hdef HL3 HR3
  go_wp2
  exact bodyPost_ret (v := .agg (givC d (.slice (some ⟨q, 0, none⟩) 1 1) nils)) (results_cell_row rfl _ _ w.heap.size 31 _ (0, 0) _ rfl (setRow_at HB3.out) Tryd.underlying31 rfl (infoGiv _ _ _)) rfl HF.out
set_option maxHeartbeats 4000000 in
theorem lthird_any (w : World) : Calls Tryd.prog 14 #[] w (GvQ dThird w) := by
  have h2 := fun c : Array Value => Go.heap_alloc_new w (.cells c 31)
  have k2 : ∀ c : Array Value, Below w.heap.size w (w.alloc (.cells c 31)) := fun c => (Below.refl _ _).alloc (Nat.le_refl _) _
  obtain ⟨d, hd⟩ : ∃ d, d = dThird := ⟨_, rfl⟩
  have hb : Tryd.prog.built 25 [(0, .int .u8 (3 : Int))] = some (hsC d.nm.h) := by rw [hd]; exact built_hA 3
  have hup : ∀ w, Calls Tryd.prog 15 #[.int .u8 1, .int .i64 0] w fun e w' => e = .returned (.agg d.up.c) ∧ Below w.heap.size w w' := by rw [hd]; exact (lat_any 1 0 (by omega) (by omega))
  have hdn : ∀ w, Calls Tryd.prog 15 #[.int .u8 1, .int .i64 1] w fun e w' => e = .returned (.agg d.down.c) ∧ Below w.heap.size w w' := by rw [hd]; exact (lat_any 1 1 (by omega) (by omega))
  have hls : d.lines = [⟨#[121]⟩] := by rw [hd]; rfl
  have hdb : DB d := by rw [hd]; exact dT_db
  have h0 : d.nm.n = 0 := by rw [hd]; rfl
  have h1 : d.first = 0 := by rw [hd]; rfl
  have hgo : d.gone = [d.up] := by rw [hd]; rfl
  rw [← hd]
  have HB1 := Lib.hid hb
  clear hd hb
  go_enter Tryd.func14, Tryd.ntmps14
  go_upto_region 1 with (fail)
  refine wp_region_lit ?_
  generalize hZ : Tryd.zeroCells31 = Z
  have hZ2 : Z.size = 102 := by rw [← hZ]; kernel_rfl
  obtain ⟨W, hW⟩ : ∃ W, W = w.alloc (.cells Z 31) := ⟨_, rfl⟩
  have r2 := h2 Z
  have l2 := k2 Z
  rw [← hW] at r2 l2 ⊢
  have HB := Lib.hid r2
  have HL := Lib.hid l2
  have hh : w.heap.size < W.heap.size := by rw [hW, World.size_alloc]; omega
  have HWs := Lib.hid hh
  clear hW h2 k2 r2 l2 hZ hh
  refine wpList_buildTo rfl 25 #[(0, .const (.int .u8 3))] rfl (some 1) rfl (hsC d.nm.h) (by simp only [List.map_toArray, List.map_cons, List.map_nil]; exact HB1.out) ?_
  refine wpList_plain rfl (fun K hK => ?_)
  go_simp
  go_at_call 15
  refine (hup W).mono ?_
  rintro e w1 ⟨rfl, low1⟩
  refine hK _ _ ?_
  clear hK
  clear K
  refine wpList_plain rfl (fun K hK => ?_)
  go_simp
  go_at_call 15
  refine (hdn w1).mono ?_
  rintro e w2 ⟨rfl, low2⟩
  refine hK _ _ ?_
  clear hK
  clear K
  refine Great.wpList_buildSliceTo rfl 28 9 1 #[(0, .const (.string ⟨#[121]⟩))] rfl w2.heap.size rfl (some 4) rfl Tryd.underlying28 (d.lines.map Value.string).toArray (by rw [hls]; kernel_rfl) ?_
  have hr3 := Go.heap_alloc_new w2 (.cells (d.lines.map Value.string).toArray 9)
  have low3 : Below w2.heap.size w2 (w2.alloc (.cells (d.lines.map Value.string).toArray 9)) := (Below.refl _ _).alloc (Nat.le_refl _) _
  obtain ⟨w3, hw3⟩ : ∃ w3, w3 = w2.alloc (.cells (d.lines.map Value.string).toArray 9) := ⟨_, rfl⟩
  rw [← hw3] at hr3 low3 ⊢
  have HR3 := Lib.hid hr3
  obtain ⟨q, hq⟩ : ∃ q, q = w2.heap.size := ⟨_, rfl⟩
  rw [← hq] at HR3 ⊢
  have HL3 := Lib.hid ((low1.trans (low2.mono low1.size)).trans (low3.mono (Nat.le_trans low1.size low2.size)))
  have hqn : q ≠ w.heap.size := by have h1 := HWs.out; have h2 := low1.size; have h3 := low2.size; omega
  have Hq := Lib.hid hqn
  clear hw3 hr3 low1 low2 low3 hq hqn
  refine wpList_plain rfl (fun K hK => ?_)
  go_simp
  go_at_call 15
  refine (hup w3).mono ?_
  rintro e w4 ⟨rfl, low4⟩
  refine hK _ _ ?_
  clear hK
  clear K
  refine Great.wpList_buildSliceTo rfl 29 27 1 #[(0, .tmp 5)] rfl w4.heap.size rfl (some 6) rfl Tryd.underlying29 d.up.c (by simp only [List.map_toArray, List.map_cons, List.map_nil]; exact built_one d.up) ?_
  have hr5 := Go.heap_alloc_new w4 (.cells d.up.c 27)
  have low5 : Below w4.heap.size w4 (w4.alloc (.cells d.up.c 27)) := (Below.refl _ _).alloc (Nat.le_refl _) _
  obtain ⟨w5, hw5⟩ : ∃ w5, w5 = w4.alloc (.cells d.up.c 27) := ⟨_, rfl⟩
  rw [← hw5] at hr5 low5 ⊢
  have hq3 : q < w3.heap.size := (Array.getElem?_eq_some_iff.1 HR3.out).1
  have low45 := low4.trans (low5.mono low4.size)
  have HR4 := Lib.hid ((low45.block _ hq3).trans HR3.out)
  have HL5 := Lib.hid (HL3.out.trans (low45.mono HL3.out.size))
  obtain ⟨p, hp⟩ : ∃ p, p = w4.heap.size := ⟨_, rfl⟩
  rw [← hp] at hr5 ⊢
  have HR5 := Lib.hid hr5
  have hpn : p ≠ w.heap.size := by have h1 := HWs.out; have h2 := HL3.out.size; have h3 := low4.size; omega
  have Hp := Lib.hid hpn
  clear hw5 hr5 low4 low5 low45 hq3 hp hpn
  refine wpList_buildTo rfl 31 #[(0, .tmp 1), (3, .tmp 2), (4, .tmp 3), (5, .tmp 4), (6, .tmp 6)] rfl (some 7) rfl (givC d (.slice (some ⟨q, 0, none⟩) 1 1) (.slice (some ⟨p, 0, none⟩) 1 1)) (by simp only [List.map_toArray, List.map_cons, List.map_nil]; exact built_giv2 d h0 h1 _ _ _ _ _ _) ?_
  have HB3 := Lib.hid ((HL5.out.block _ HWs.out).trans HB.out)
  refine wpList_store_row rfl 31 (.tmp 0) (.tmp 7) rfl w.heap.size (givC d (.slice (some ⟨q, 0, none⟩) 1 1) (.slice (some ⟨p, 0, none⟩) 1 1)) rfl rfl 31 _ HB3.out (infoGiv _ _ _) (by rw [hZ2, givC_size]) (givC_one _ _ _ rfl rfl) ?_
  refine wpList_nil ?_
  have hdef : GvQ d w (.returned (.agg (givC d (.slice (some ⟨q, 0, none⟩) 1 1) (.slice (some ⟨p, 0, none⟩) 1 1)))) (w5.setRow w.heap.size (givC d (.slice (some ⟨q, 0, none⟩) 1 1) (.slice (some ⟨p, 0, none⟩) 1 1))) := by
    have hS := below_setRow (HL.out.trans (HL5.out.mono HL.out.size)) (Nat.le_refl w.heap.size) (givC d (.slice (some ⟨q, 0, none⟩) 1 1) (.slice (some ⟨p, 0, none⟩) 1 1))
    refine ⟨_, _, rfl, ⟨hdb, by rw [h1]; decide, ?_, ?_, fun h => by rw [hgo] at h; cases h⟩, hS⟩
    · have hs : RdS (w5.setRow w.heap.size (givC d (.slice (some ⟨q, 0, none⟩) 1 1) (.slice (some ⟨p, 0, none⟩) 1 1))) (.slice (some ⟨q, 0, none⟩) d.lines.length d.lines.length) d.lines := rdS_row ((setRow_ne Hq.out.symm).trans HR4.out)
      rw [hls] at hs
      rw [hls]
      exact hs
    · rw [hgo]
      exact rdV_one ((setRow_ne Hp.out.symm).trans HR5.out)
  have HF := Lib.hid hdef
  clear hdef HL3 HR3 HL5 HR4 HR5
  go_wp2
  exact bodyPost_ret (v := .agg (givC d (.slice (some ⟨q, 0, none⟩) 1 1) (.slice (some ⟨p, 0, none⟩) 1 1))) (results_cell_row rfl _ _ w.heap.size 31 _ (0, 0) _ rfl (setRow_at HB3.out) Tryd.underlying31 rfl (infoGiv _ _ _)) rfl HF.out
end Go.Proofs.YtnjeppmpnaemlaaDoor.Grf
/- DERIVED. The law's known graphs, reckoned; slices of parts. -/
set_option maxRecDepth 100000
namespace Go.Proofs.YtnjeppmpnaemlaaDoor.Grf
open Go.RowKit Str Go.Maps
theorem md_1 : mdD [] [dFirst] = some [dFirst] := by kernel_rfl
theorem md_12 : mdD [] [dFirst, dSecond] = some [dSecond, dFirst] := by kernel_rfl
theorem md_123 : mdD [] [dFirst, dSecond, dThird] = some [dThird, dSecond, dFirst] := by kernel_rfl
theorem md_132 : mdD [] [dFirst, dThird, dSecond] = some [dSecond, dThird, dFirst] := by kernel_rfl
abbrev v10 : Vx := vA 1 0 (by omega) (by omega)
abbrev v11 : Vx := vA 1 1 (by omega) (by omega)
abbrev v20 : Vx := vA 2 0 (by omega) (by omega)
abbrev v30 : Vx := vA 3 0 (by omega) (by omega)
theorem li_1 : linesB [dFirst] [v10, v11] = true := by kernel_rfl
theorem li_123 : linesB [dThird, dSecond, dFirst] [v10, v20, v30, v11] = true := by kernel_rfl
theorem li_132 : linesB [dSecond, dThird, dFirst] [v10, v20, v30, v11] = true := by kernel_rfl
theorem li_12 : linesB [dSecond, dFirst] [v10, v20, v11] = true := by kernel_rfl
theorem tx_1 : textL ([v10, v11].map (lnD [dFirst])) = ⟨#[97, 32, 98, 32]⟩ := by kernel_rfl
theorem tx_123 : textL ([v10, v20, v30, v11].map (lnD [dThird, dSecond, dFirst])) = ⟨#[40, 97, 41, 32, 120, 32, 121, 32, 98, 32]⟩ := by kernel_rfl
theorem tx_132 : textL ([v10, v20, v30, v11].map (lnD [dSecond, dThird, dFirst])) = ⟨#[40, 97, 41, 32, 120, 32, 121, 32, 98, 32]⟩ := by kernel_rfl
theorem tx_12 : textL ([v10, v20, v11].map (lnD [dSecond, dFirst])) = ⟨#[97, 32, 120, 32, 98, 32]⟩ := by kernel_rfl
theorem giv_fun (d : PD) (A B : Option Addr) (n c m k : Nat) : ∃ f : Nat → Value, givC d (.slice A n c) (.slice B m k) = ((List.range 102).map f).toArray := fun_of _ 102 (givC_size _ _ _)
/-- slices of one, two and three parts. -/
noncomputable def onePt (p : Array (Nat × Value)) : Sem Value := Instr.buildSlice 57 1 p
noncomputable def twoPt (p : Array (Nat × Value)) : Sem Value := Instr.buildSlice 57 2 p
noncomputable def threePt (p : Array (Nat × Value)) : Sem Value := Instr.buildSlice 57 3 p
theorem onePt_of (p : Array (Nat × Value)) : Instr.buildSlice 57 1 p = onePt p := rfl
theorem twoPt_of (p : Array (Nat × Value)) : Instr.buildSlice 57 2 p = twoPt p := rfl
theorem threePt_of (p : Array (Nat × Value)) : Instr.buildSlice 57 3 p = threePt p := rfl
def zP : Array Value := (List.replicate 32 (Value.int .u8 0) ++ [Value.int .i64 0, Value.int .i64 0] ++ List.replicate 32 (Value.int .u8 0) ++ [Value.int .i64 0] ++ List.replicate 32 (Value.int .u8 0) ++ [Value.int .i64 0, nils, nils]).toArray
theorem info_pt : (Tryd.prog.info? 31).map (fun i => (i.size, i.zero.map (·.cells))) = some (102, some zP) := by kernel_rfl
theorem fill_1 (f : Nat → Value) : Instr.fill (fun i => some (i * 102, 102)) ((Array.range (1 * 102)).map (fun i => zP[i % zP.size]!)) [(0, .agg ((List.range 102).map f).toArray)] = some ((List.range 102).map f).toArray := by kernel_rfl
theorem fill_2 (f g : Nat → Value) : Instr.fill (fun i => some (i * 102, 102)) ((Array.range (2 * 102)).map (fun i => zP[i % zP.size]!)) [(0, .agg ((List.range 102).map f).toArray), (1, .agg ((List.range 102).map g).toArray)] = some ((List.range 102).map f ++ (List.range 102).map g).toArray := by kernel_rfl
theorem fill_3 (f g h : Nat → Value) : Instr.fill (fun i => some (i * 102, 102)) ((Array.range (3 * 102)).map (fun i => zP[i % zP.size]!)) [(0, .agg ((List.range 102).map f).toArray), (1, .agg ((List.range 102).map g).toArray), (2, .agg ((List.range 102).map h).toArray)] = some ((List.range 102).map f ++ (List.range 102).map g ++ (List.range 102).map h).toArray := by kernel_rfl
theorem info_pt2 : ∃ ie z, Tryd.prog.info? 31 = some ie ∧ ie.zero = some z ∧ ie.size = 102 ∧ z.cells = zP := by
  have hi := info_pt
  cases hie : Tryd.prog.info? 31 with
  | none => rw [hie] at hi; cases hi
  | some ie =>
    rw [hie] at hi
    simp only [Option.map_some, Option.some.injEq, Prod.mk.injEq] at hi
    obtain ⟨h33, hz0⟩ := hi
    cases hz : ie.zero with
    | none => rw [hz] at hz0; cases hz0
    | some z =>
      rw [hz] at hz0
      exact ⟨ie, z, rfl, hz, h33, Option.some.inj hz0⟩
theorem cells_fun (a : Array Value) (h : a.size = 102) : ∃ f : Nat → Value, a = ((List.range 102).map f).toArray := fun_of _ 102 h
theorem run_onePt (d : PD) (l g : Value) (w : World) : (onePt #[(0, .agg (givC d l g))]).run Tryd.prog w = .ok (.slice (some ⟨w.heap.size, 0, none⟩) 1 1) (w.alloc (.cells (givC d l g) 31)) := by
  obtain ⟨ie, z, hie, hz, hs, hc⟩ := info_pt2
  unfold onePt
  refine run_buildSlice w 57 31 1 _ _ ie z Tryd.underlying57 hie hz (by rw [hs]; omega) (by rw [hs]; omega) ?_
  rw [hs, hc]
  obtain ⟨f, hf⟩ := cells_fun (givC d l g) (givC_size _ _ _)
  rw [hf]
  exact fill_1 f
theorem run_twoPt (d : PD) (l g : Value) (d2 : PD) (l2 g2 : Value) (w : World) : (twoPt #[(0, .agg (givC d l g)), (1, .agg (givC d2 l2 g2))]).run Tryd.prog w = .ok (.slice (some ⟨w.heap.size, 0, none⟩) 2 2) (w.alloc (.cells ((givC d l g).toList ++ (givC d2 l2 g2).toList).toArray 31)) := by
  obtain ⟨ie, z, hie, hz, hs, hc⟩ := info_pt2
  unfold twoPt
  refine run_buildSlice w 57 31 2 _ _ ie z Tryd.underlying57 hie hz (by rw [hs]; omega) (by rw [hs]; omega) ?_
  rw [hs, hc]
  obtain ⟨f, hf⟩ := cells_fun (givC d l g) (givC_size _ _ _)
  obtain ⟨f2, hf2⟩ := cells_fun (givC d2 l2 g2) (givC_size _ _ _)
  rw [hf, hf2]
  exact fill_2 f f2
theorem run_threePt (d : PD) (l g : Value) (d2 : PD) (l2 g2 : Value) (d3 : PD) (l3 g3 : Value) (w : World) : (threePt #[(0, .agg (givC d l g)), (1, .agg (givC d2 l2 g2)), (2, .agg (givC d3 l3 g3))]).run Tryd.prog w = .ok (.slice (some ⟨w.heap.size, 0, none⟩) 3 3) (w.alloc (.cells ((givC d l g).toList ++ (givC d2 l2 g2).toList ++ (givC d3 l3 g3).toList).toArray 31)) := by
  obtain ⟨ie, z, hie, hz, hs, hc⟩ := info_pt2
  unfold threePt
  refine run_buildSlice w 57 31 3 _ _ ie z Tryd.underlying57 hie hz (by rw [hs]; omega) (by rw [hs]; omega) ?_
  rw [hs, hc]
  obtain ⟨f, hf⟩ := cells_fun (givC d l g) (givC_size _ _ _)
  obtain ⟨f2, hf2⟩ := cells_fun (givC d2 l2 g2) (givC_size _ _ _)
  obtain ⟨f3, hf3⟩ := cells_fun (givC d3 l3 g3) (givC_size _ _ _)
  rw [hf, hf2, hf3]
  exact fill_3 f f2 f3
attribute [irreducible] onePt twoPt threePt
/-- a graph of these parts, anew. -/
def Nw (w : World) (ps : List PD) (n : Nat) (e : Ending) (w' : World) : Prop := ∃ S, e = .returned (ptr S.g) ∧ ds S.ps = ps ∧ GX w' S n ∧ Below w.heap.size w w' ∧ ∀ b ∈ blk S, w.heap.size ≤ b
theorem Nw.of {w u : World} {l ps : List PD} (n : Nat) (hn : l.length = n) (h : mdD [] l = some ps) (hb : Below w.heap.size w u) {e : Ending} {w' : World} (hq : MdQ u l e w') : Nw w ps n e w' := by
  unfold MdQ at hq
  rw [h] at hq
  obtain ⟨S, he, h1, h2, h3, h4⟩ := hq
  exact ⟨S, he, h1, hn ▸ h2, hb.trans (h3.mono hb.size), fun b hbb => Nat.le_trans hb.size (h4 b hbb)⟩
theorem made1_any (d : PD) (l g : Value) (ps : List PD) (h : mdD [] [d] = some ps) (w : World) (hL : Laid w) (ho : GvOk w (d, l, g)) : Calls Tryd.prog 11 #[.slice (some ⟨w.heap.size, 0, none⟩) 1 1] (w.alloc (.cells (givC d l g) 31)) (Nw w ps 1) := by
  have hn := Go.heap_alloc_new w (.cells (givC d l g) 31)
  have hb : Below w.heap.size w (w.alloc (.cells (givC d l g) 31)) := (Below.refl _ _).alloc (Nat.le_refl _) _
  obtain ⟨u, hu⟩ : ∃ u, u = w.alloc (.cells (givC d l g) 31) := ⟨_, rfl⟩
  rw [← hu] at hn hb ⊢
  refine (made_any [(d, l, g)] (by simp) _ u (hL.below hb (Nat.le_refl _)) ⟨_, 1, rfl, Nat.le_refl _, fun _ => ⟨w.heap.size, 0, rfl, (Array.getElem?_eq_some_iff.1 hn).1, fun j x hx => ?_⟩⟩ (fun x hx => by rw [List.mem_singleton.1 hx]; exact ho.below hb)).mono fun e w' hq => Nw.of 1 rfl h hb hq
  match j, hx with
  | 0, hx => obtain rfl := Option.some.inj hx; exact row_range hn [] _ [] (by simp) 0 rfl
  | j + 1, hx => simp at hx
theorem made2_any (d : PD) (l g : Value) (d2 : PD) (l2 g2 : Value) (ps : List PD) (h : mdD [] [d, d2] = some ps) (w : World) (hL : Laid w) (ho : GvOk w (d, l, g)) (ho2 : GvOk w (d2, l2, g2)) : Calls Tryd.prog 11 #[.slice (some ⟨w.heap.size, 0, none⟩) 2 2] (w.alloc (.cells ((givC d l g).toList ++ (givC d2 l2 g2).toList).toArray 31)) (Nw w ps 2) := by
  have hn := Go.heap_alloc_new w (.cells ((givC d l g).toList ++ (givC d2 l2 g2).toList).toArray 31)
  have hb : Below w.heap.size w (w.alloc (.cells ((givC d l g).toList ++ (givC d2 l2 g2).toList).toArray 31)) := (Below.refl _ _).alloc (Nat.le_refl _) _
  obtain ⟨u, hu⟩ : ∃ u, u = w.alloc (.cells ((givC d l g).toList ++ (givC d2 l2 g2).toList).toArray 31) := ⟨_, rfl⟩
  rw [← hu] at hn hb ⊢
  refine (made_any [(d, l, g), (d2, l2, g2)] (by simp) _ u (hL.below hb (Nat.le_refl _)) ⟨_, 2, rfl, Nat.le_refl _, fun _ => ⟨w.heap.size, 0, rfl, (Array.getElem?_eq_some_iff.1 hn).1, fun j x hx => ?_⟩⟩ (fun x hx => ?_)).mono fun e w' hq => Nw.of 2 rfl h hb hq
  · match j, hx with
    | 0, hx => obtain rfl := Option.some.inj hx; exact row_range hn [] _ (givC d2 l2 g2).toList (by simp) 0 rfl
    | 1, hx => obtain rfl := Option.some.inj hx; exact row_range hn (givC d l g).toList _ [] (by simp) 102 (by simp [givC_size])
    | j + 2, hx => simp at hx
  · simp only [List.mem_cons, List.not_mem_nil, or_false] at hx
    rcases hx with rfl | rfl
    · exact ho.below hb
    · exact ho2.below hb
theorem made3_any (d : PD) (l g : Value) (d2 : PD) (l2 g2 : Value) (d3 : PD) (l3 g3 : Value) (ps : List PD) (h : mdD [] [d, d2, d3] = some ps) (w : World) (hL : Laid w) (ho : GvOk w (d, l, g)) (ho2 : GvOk w (d2, l2, g2)) (ho3 : GvOk w (d3, l3, g3)) : Calls Tryd.prog 11 #[.slice (some ⟨w.heap.size, 0, none⟩) 3 3] (w.alloc (.cells ((givC d l g).toList ++ (givC d2 l2 g2).toList ++ (givC d3 l3 g3).toList).toArray 31)) (Nw w ps 3) := by
  have hn := Go.heap_alloc_new w (.cells ((givC d l g).toList ++ (givC d2 l2 g2).toList ++ (givC d3 l3 g3).toList).toArray 31)
  have hb : Below w.heap.size w (w.alloc (.cells ((givC d l g).toList ++ (givC d2 l2 g2).toList ++ (givC d3 l3 g3).toList).toArray 31)) := (Below.refl _ _).alloc (Nat.le_refl _) _
  obtain ⟨u, hu⟩ : ∃ u, u = w.alloc (.cells ((givC d l g).toList ++ (givC d2 l2 g2).toList ++ (givC d3 l3 g3).toList).toArray 31) := ⟨_, rfl⟩
  rw [← hu] at hn hb ⊢
  refine (made_any [(d, l, g), (d2, l2, g2), (d3, l3, g3)] (by simp) _ u (hL.below hb (Nat.le_refl _)) ⟨_, 3, rfl, Nat.le_refl _, fun _ => ⟨w.heap.size, 0, rfl, (Array.getElem?_eq_some_iff.1 hn).1, fun j x hx => ?_⟩⟩ (fun x hx => ?_)).mono fun e w' hq => Nw.of 3 rfl h hb hq
  · match j, hx with
    | 0, hx => obtain rfl := Option.some.inj hx; exact row_range hn [] _ ((givC d2 l2 g2).toList ++ (givC d3 l3 g3).toList) (by simp) 0 rfl
    | 1, hx => obtain rfl := Option.some.inj hx; exact row_range hn (givC d l g).toList _ (givC d3 l3 g3).toList (by simp) 102 (by simp [givC_size])
    | 2, hx => obtain rfl := Option.some.inj hx; exact row_range hn ((givC d l g).toList ++ (givC d2 l2 g2).toList) _ [] (by simp) 204 (by simp [givC_size])
    | j + 3, hx => simp at hx
  · simp only [List.mem_cons, List.not_mem_nil, or_false] at hx
    rcases hx with rfl | rfl | rfl
    · exact ho.below hb
    · exact ho2.below hb
    · exact ho3.below hb
end Go.Proofs.YtnjeppmpnaemlaaDoor.Grf
