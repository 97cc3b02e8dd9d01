/- DERIVED. Texts of ours, merged: XGrfLines XGrfPutA. -/
import Derived.Test.YtnjeppmpnaemlaaDoorMrk15
import Derived.Test.YtnjeppmpnaemlaaDoorMrk8
import Derived.Test.YtnjeppmpnaemlaaDoorMrk9
/- DERIVED. Lines: all lines in their order. Written by mklines.py. -/
set_option maxRecDepth 100000
namespace Go.Proofs.YtnjeppmpnaemlaaDoor.Grf
open Go.RowKit Str Go.Maps
attribute [local go_sem ↓ high] loadAtVx
abbrev Ln := Vx × ByteArray × Bool
def lnC (x : Ln) : Array Value := (x.1.c.toList ++ [Value.string x.2.1, .bool x.2.2]).toArray
theorem lnC_size (x : Ln) : (lnC x).size = 35 := by simp [lnC, Vx.c_size]
theorem lnC_one (x : Ln) : (lnC x).all (·.oneCell') = true := by
  rw [Array.all_eq_true_iff_forall_mem]
  intro y hy
  have hy : y ∈ (lnC x).toList := Array.mem_toList_iff.2 hy
  have e : (lnC x).toList = x.1.c.toList ++ [Value.string x.2.1, .bool x.2.2] := by simp [lnC]
  rw [e, List.mem_append] at hy
  rcases hy with hy | hy
  · exact Array.all_eq_true_iff_forall_mem.1 (Vx.one x.1) y (Array.mem_toList_iff.1 hy)
  · simp only [List.mem_cons, List.mem_nil_iff, or_false] at hy
    rcases hy with rfl | rfl <;> rfl
def flatLn (l : List Ln) : List Value := l.flatMap fun x => (lnC x).toList
theorem flatLn_len (l : List Ln) : (flatLn l).length = l.length * 35 := by
  induction l with
  | nil => rfl
  | cons x t ih =>
    show ((lnC x).toList ++ flatLn t).length = _
    rw [List.length_append, ih, Array.length_toList, lnC_size, List.length_cons]
    omega
theorem flatLn_app (a b : List Ln) : flatLn (a ++ b) = flatLn a ++ flatLn b := by simp [flatLn]
/-- lines of the call's own. -/
def OwnLn (base : Nat) (l : List Ln) (v : Value) (w : World) : Prop := w.ownsRow base 55 35 v l.length (flatLn l)
/-- a vertex's text. -/
def textS (S : GS) (v : Vx) : ByteArray := match find S.ps v with | some (p, i) => p.d.lines.getD i ByteArray.empty | none => ByteArray.empty
def lnS (S : GS) (gn : Vx → Int) (v : Vx) : Ln := (v, textS S v, decide (gn v = 0))
theorem GM.lineT {w : World} {S : GS} {us : Nat → Int} {gn : Vx → Int} (h : GM w S us gn) {v : Vx} (hv : v ∈ verts (ds S.ps)) : ∃ pb at_, LRow w (blS S v) v (textS S v) pb at_ (gn v) := by
  obtain ⟨b, hb⟩ := (lineB_in h.lsl).2 hv
  have e : blS S v = b := by unfold blS; rw [hb]; rfl
  rw [e]
  unfold lineB at hb
  unfold textS
  cases hf : find S.ps v with
  | none =>
    rw [hf] at hb
    simp only at hb
    by_cases h1 : v = root
    · rw [if_pos h1] at hb
      cases hb
      subst h1
      exact ⟨_, _, h.lr⟩
    · rw [if_neg h1] at hb
      by_cases h2 : v = fin
      · rw [if_pos h2] at hb
        cases hb
        subst h2
        exact ⟨_, _, h.lf⟩
      · rw [if_neg h2] at hb; cases hb
  | some x =>
    obtain ⟨p, i⟩ := x
    rw [hf] at hb
    simp only at hb
    obtain ⟨h1, h2, h3, _⟩ := find_some hf
    have := h.ln p h1 i b _ hb (List.getElem?_eq_getElem h2)
    rw [h3] at this
    simp only [List.getD_eq_getElem?_getD, List.getElem?_eq_getElem h2, Option.getD_some]
    exact ⟨_, _, this⟩
theorem text_size {S : GS} (hs : ∀ p ∈ S.ps, ∀ s ∈ p.d.lines, s.size ≤ 281474976710656) (v : Vx) : (textS S v).size ≤ 281474976710656 := by
  unfold textS
  cases hf : find S.ps v with
  | none => simp
  | some x =>
    obtain ⟨p, i⟩ := x
    obtain ⟨h1, h2, _⟩ := find_some hf
    simp only [List.getD_eq_getElem?_getD, List.getElem?_eq_getElem h2, Option.getD_some]
    exact hs p h1 _ (List.getElem_mem h2)
theorem built_lnF (f : Nat → Value) (s : ByteArray) (b : Bool) : Tryd.prog.built 55 [(0, .agg ((List.range 33).map f).toArray), (1, .string s), (2, .bool b)] = some (((List.range 33).map f).toArray.toList ++ [Value.string s, .bool b]).toArray := by kernel_rfl
theorem built_ln (x : Ln) : Tryd.prog.built 55 [(0, .agg x.1.c), (1, .string x.2.1), (2, .bool x.2.2)] = some (lnC x) := by
  obtain ⟨f, hf⟩ := fun_of x.1.c 33 x.1.c_size
  unfold lnC
  rw [hf]
  exact built_lnF f x.2.1 x.2.2
theorem infoLn (x : Ln) : (Tryd.prog.info? 55).map (·.size) = some (lnC x).size := by rw [lnC_size]; kernel_rfl
theorem infoLz : ∃ i z b, Tryd.prog.info? 55 = some i ∧ i.zero = some z ∧ i.size = 35 ∧ i.bytes = b ∧ b ≤ 100 := by
  have h : (Tryd.prog.info? 55).map (fun i => (i.zero.isSome, i.size, decide (i.bytes ≤ 100))) = some (true, 35, true) := by kernel_rfl
  obtain ⟨i, hi, e⟩ := Option.map_eq_some_iff.1 h
  simp only [Prod.mk.injEq, decide_eq_true_eq] at e
  obtain ⟨z, hz⟩ := Option.isSome_iff_exists.1 e.1
  exact ⟨i, z, i.bytes, hi, hz, e.2.1, rfl, e.2.2⟩
/-- k lines are laid. -/
def LI (l : List Ln) (gq n k : Nat) (w : World) : Prop := ∃ C : Array Value, w.heap[gq]? = some (.cells C 55 (0, 0)) ∧ C.size = n * 35 ∧ C.toList.take (k * 35) = flatLn (l.take k)
theorem mk_lines (n : Nat) (hn : n ≤ 1000000) (w : World) : ∃ C : Array Value, C.size = n * 35 ∧ (Instr.makeSlice 47 (.int .i64 n) (.int .i64 n)).run Tryd.prog w = .ok (.slice (some ⟨w.heap.size, 0, none⟩) n n) (w.alloc (.cells C 55)) := by
  obtain ⟨i0, z, b, hi, hz0, hz1, hz2, hb⟩ := infoLz
  have h := run_make (P := Tryd.prog) w 47 55 i0 z Tryd.underlying47 hi hz0 .i64 .i64 n n (by omega) (by omega) (by
    rw [hz2]
    have : (b : Int) * n ≤ 100 * n := Int.mul_le_mul_of_nonneg_right (by omega) (by omega)
    omega) (by omega)
  rw [hz1] at h
  rw [Int.toNat_natCast] at h
  exact ⟨_, by rw [size_madeCells], h⟩
theorem LI.start {l : List Ln} {gq n : Nat} {w : World} {C : Array Value} (h : w.heap[gq]? = some (.cells C 55 (0, 0))) (hs : C.size = n * 35) : LI l gq n 0 w := ⟨C, h, hs, by simp [flatLn]⟩
theorem LI.below {l : List Ln} {gq n k : Nat} {w w' : World} (h : LI l gq n k w) (hb : Below w.heap.size w w') : LI l gq n k w' := by
  obtain ⟨C, h1, h2⟩ := h
  exact ⟨C, at_below h1 hb, h2⟩
theorem there_row {w : World} {g n : Nat} {C : Array Value} {T : TypeId} (h : w.heap[g]? = some (.cells C T (0, 0))) (o : Nat) (hn : o + n ≤ C.size) : w.there g o n := fun j hj =>
  ⟨by rw [cell_row h, Array.getElem?_eq_getElem (by omega)]; simp, free_row h _⟩
theorem LI.next {l : List Ln} {gq n k : Nat} {w : World} {x : Ln} (h : LI l gq n k w) (hk : k < n) (hx : l[k]? = some x) : w.there gq (k * 35) (lnC x).size ∧ LI l gq n (k + 1) (w.setCells gq (k * 35) (lnC x).toList) := by
  obtain ⟨C, h1, h2, h3⟩ := h
  have hle : k * 35 + 35 ≤ C.size := by rw [h2]; omega
  refine ⟨there_row h1 _ (by rw [lnC_size]; exact hle), _, heap_setCells _ _ _ _ h1 (by rw [Array.length_toList, lnC_size]; exact hle), ?_, ?_⟩
  · simp only [splice, List.size_toArray, List.length_append, List.length_take, List.length_drop, Array.length_toList, lnC_size]
    omega
  · have e : k * 35 + 35 = (k + 1) * 35 := by omega
    rw [List.take_add_one, hx, flatLn_app, ← h3]
    show List.take ((k + 1) * 35) (splice C.toList (k * 35) (lnC x).toList) = _
    unfold splice
    have hl1 : (List.take (k * 35) C.toList).length = k * 35 := by rw [List.length_take, Array.length_toList]; omega
    have hl2 : (List.take (k * 35) C.toList ++ (lnC x).toList).length = (k + 1) * 35 := by rw [List.length_append, hl1, Array.length_toList, lnC_size]; omega
    rw [← List.append_assoc, List.take_left' hl2]
    simp [flatLn]
theorem LI.own {l : List Ln} {gq n base : Nat} {w : World} (h : LI l gq n n w) (hl : l.length = n) (hb : base ≤ gq) (hn : n ≤ 1000000) : OwnLn base l (.slice (some ⟨gq, 0, none⟩) n n) w := by
  obtain ⟨C, h1, h2, h3⟩ := h
  unfold OwnLn
  rw [hl]
  refine ⟨by rw [flatLn_len, hl], .inr ⟨gq, n, C, rfl, hb, h1, Nat.le_refl _, by unfold maxLen; omega, h2, ?_⟩⟩
  rw [h3, List.take_of_length_le (by omega)]
def LnQ (w : World) (S : GS) (gn : Vx → Int) (e : Ending) (w' : World) : Prop := ∃ v M, e = .returned v ∧ Steps (verts (ds S.ps)) (edges (ds S.ps)) (root :: (M ++ [fin])) ∧ (∀ v ∈ verts (ds S.ps), v ∈ root :: (M ++ [fin])) ∧ OwnLn w.heap.size (M.map (lnS S gn)) v w' ∧ Below w.heap.size w w'
set_option maxHeartbeats 8000000 in
theorem lines_any (S : GS) (us : Nat → Int) (gn : Vx → Int) (hok : GOk S) (hps : S.ps.length ≤ 100) (hls : ∀ p ∈ S.ps, p.d.lines.length ≤ 1000) (hsz : ∀ p ∈ S.ps, ∀ s ∈ p.d.lines, s.size ≤ 281474976710656) (w : World) (h : GM w S us gn) (hL : Laid w) :
    Calls Tryd.prog 24 #[ptr S.g] w (LnQ w S gn) := by
  have h1 := made_yes S.g w h.g0
  have HI : Hid (∀ m, Calls Tryd.prog 48 #[ptr S.g] (w.drewN m) (InQ (w.drewN m) S)) := fun m => inOrder_any S us gn hok hps hls (w.drewN m) (h.drewN m) ⟨hL.r, hL.e⟩
  have HH := Lib.hid h
  have HOk := Lib.hid hok
  have HSz := Lib.hid hsz
  have HV : Hid ((verts (ds S.ps)).length ≤ 200000) := by
    have aux : ∀ ps : List PA, (∀ p ∈ ps, p.d.lines.length ≤ 1000) → (verts (ds ps)).length ≤ 2 + ps.length * 1000 := by
      intro ps
      induction ps with
      | nil => intro _; simp [verts]
      | cons q t ih =>
        intro hq
        show (own q.d ++ verts (ds t)).length ≤ _
        rw [List.length_append, own_len, List.length_cons]
        have h1 := hq q (by simp)
        have h2 := ih (fun p hp => hq p (by simp [hp]))
        omega
    have := aux S.ps hls
    show _ ≤ _
    omega
  clear h hok hL hps hls hsz
  go_enter Tryd.func24, Tryd.ntmps24
  go_upto_region 4 with (first | (go_at_call 46; refine h1.mono ?_; rintro e w1 ⟨rfl, m, rfl⟩) | (go_at_call 48; refine (HI.out m).mono ?_; rintro e w2 ⟨lv, L, rfl, hst, hall, hown, hlow⟩))
  obtain ⟨M, rfl⟩ := steps_ends HOk.out.adm hst hall
  obtain ⟨n, hn⟩ : ∃ n, n = M.length := ⟨_, rfl⟩
  have hLn := nodup_len hst.nodup.1 hst.nodup.2
  have hlen : (root :: (M ++ [fin])).length = n + 2 := by simp [hn]
  have hlow' : Below w.heap.size w w2 := (show Below w.heap.size w (w.drewN m) from ⟨rfl, rfl, rfl, Nat.le_refl _, fun _ _ => rfl⟩).trans hlow
  rcases hown.2 with ⟨_, h0⟩ | ⟨g, cap, cur, rfl, hgb, hgh, hgc, _, _, hgt⟩
  · rw [hlen] at h0; omega
  rw [hlen] at hgc hgt hLn ⊢
  have HC : Hid (∀ (j : Nat) (v : Vx), M[j]? = some v → w2.cell? ⟨g, 1 + j, none⟩ = some (ptr (blS S v))) := fun j v hj => by
    have hj2 := (List.getElem?_eq_some_iff.1 hj).1
    have k : ((root :: (M ++ [fin])).map fun v => ptr (blS S v))[1 + j]? = some (ptr (blS S v)) := by
      rw [Nat.add_comm 1 j, List.map_cons, List.getElem?_cons_succ, List.getElem?_map, List.getElem?_append_left hj2, hj]
      rfl
    rw [← hgt, List.getElem?_take, if_pos (by omega)] at k
    rw [cell_row hgh]
    simpa using k
  have HSt := Lib.hid hst
  have HAll := Lib.hid hall
  have HLow := Lib.hid hlow'
  have Hn := Lib.hid hn
  have Hg := Lib.hid ((Array.getElem?_eq_some_iff.1 hgh).1)
  have hV9 := HV.out
  have hn6 : n ≤ 200000 := by omega
  have hsl : (1 : Int) ≤ ((n + 2 : Nat) : Int) := by omega
  have hs1 : ((n + 2 : Nat) : Int) - 1 = ((n + 1 : Nat) : Int) := by omega
  have hc1 : ¬ cap = 1 := by omega
  obtain ⟨C0, hC0, hmk⟩ := mk_lines n (by omega) w2
  have HC0 := Lib.hid hC0
  clear hst hall hlow hlow' hn hgh hgb hgt hown hlen hLn hC0 h1
  go_upto_region 6 with (fail)
  rw [show n + 2 - 1 - 1 = n from rfl]
  obtain ⟨W3, hW3⟩ : ∃ W3, W3 = w2.alloc (.cells C0 55) := ⟨_, rfl⟩
  obtain ⟨gq, hgq⟩ : ∃ gq, gq = w2.heap.size := ⟨_, rfl⟩
  have HI3 : Hid (Below w2.heap.size w2 W3 ∧ LI (M.map (lnS S gn)) gq n 0 W3) := by
    rw [hW3, hgq]
    exact ⟨(Below.refl _ _).alloc (Nat.le_refl _) _, LI.start (Go.heap_alloc_new _ _) HC0.out⟩
  rw [← hW3, ← hgq]
  have Hgq := Lib.hid hgq
  clear hW3 hgq hmk hsl hs1 hV9
  have hcI : (n : Int) ≤ ((cap - 1 : Nat) : Int) := by omega
  go_upto_region 7 with (fail)
  go_loopw [22] (fun i wr => ∃ k : Nat, k ≤ n ∧ i = .int .i64 k ∧ Hid (Below w2.heap.size w2 wr ∧ LI (M.map (lnS S gn)) gq n k wr)) (fun i _ => n - (intOf i).toNat)
  case atStart => exact ⟨0, Nat.zero_le _, rfl, HI3.out⟩
  case round =>
    obtain ⟨k, hk, rfl, hI⟩ := hrel
    clear HI3
    by_cases hlt : k < n
    · have hltI : (k : Int) < n := by omega
      have hk0 : 0 ≤ (k : Int) := by omega
      obtain ⟨x, hx⟩ : ∃ x, M[k]? = some x := ⟨_, List.getElem?_eq_getElem (by have := Hn.out; omega)⟩
      have cx := (hI.out.1.cell (p := ⟨g, 1 + k, none⟩) Hg.out).trans (HC.out k x hx)
      have hlw : Below w.heap.size w wr := HLow.out.trans (hI.out.1.mono HLow.out.size)
      have hxV : x ∈ verts (ds S.ps) := HSt.out.nodup.2 x (by simp [List.mem_of_getElem? hx])
      obtain ⟨pb, at_, hr⟩ := (HH.out.below hlw).lineT hxV
      have hxl : (M.map (lnS S gn))[k]? = some (lnS S gn x) := by rw [List.getElem?_map, hx]; rfl
      have HX9 := Lib.hid hxl
      have HR := Lib.hid hr
      have HTx := Lib.hid (text_size HSz.out x)
      have HCl : Hid (∀ u, Calls Tryd.prog 49 #[.string (textS S x)] u fun e w' => e = .returned (.string (textS S x)) ∧ Below u.heap.size u w') := fun u => sclone_any (textS S x) u HTx.out
      obtain ⟨b, hb⟩ : ∃ b, b = blS S x := ⟨_, rfl⟩
      rw [← hb] at cx HR
      obtain ⟨s, hs⟩ : ∃ s, s = textS S x := ⟨_, rfl⟩
      obtain ⟨gx, hgx⟩ : ∃ gx, gx = gn x := ⟨_, rfl⟩
      rw [← hs, ← hgx] at HR
      rw [← hs] at HCl
      obtain ⟨al, hal⟩ : ∃ al, al = decide (gx = 0) := ⟨_, rfl⟩
      have HBl : Hid (lnS S gn x = (x, s, al)) := by show _ = _; rw [hs, hal, hgx]; rfl
      have hLn := hI.out.2.next hlt hxl
      rw [HBl.out] at hLn
      have HW : Hid (b ≠ gq ∧ b < wr.heap.size) := by
        have h1 := (Array.getElem?_eq_some_iff.1 hr).1
        obtain ⟨C, h2, _⟩ := hI.out.2
        rw [hb]
        exact ⟨ne_ty hr h2 (by decide), h1⟩
      have Hal := Lib.hid hal
      have hvx := loadVx_eq HR.out.vx
      have HVx := Lib.hid HR.out.vx
      have HTx2 := Lib.hid HR.out.text
      have HGn := Lib.hid HR.out.gn
      clear hx hlw hxV hr hxl hb hs hgx hal HR hLn hvx
      go_upto_region 9 with (fail)
      have apx : apartB [27, 28, 29, 30, 31, 32, 33, 34, 35, 36, 37, 38, 39, 40, 41, 42, 43, 44, 1018] = true := by decide
      refine wp_region_any (by kernel_rfl) ?_
      change wpAny _ _ _ _ _ _ _ (World.drew _)
      refine wpAny_inv2 (fun ll aa wx => Hid (ll.size = 19 ∧ RelC 18 [gq] wr ll wx) ∧ ∃ (z : Nat → Value), Hid (aa = ⟨#[ptr S.g, undef, .slice none 0 0, .slice (some ⟨g, 1, none⟩) n (cap - 1), .slice (some ⟨gq, 0, none⟩) n n, .int .i64 k, ptr b, ptr S.g, .bool true, .bool false, ptr S.g, .slice (some ⟨g, 0, none⟩) (n + 2) cap, .slice (some ⟨g, 0, none⟩) (n + 2) cap, .slice (some ⟨g, 0, none⟩) (n + 2) cap, .int .i64 ((n : Int) + 2), .int .i64 ((n : Int) + 2 - 1), .slice (some ⟨g, 1, none⟩) n (cap - 1), .slice (some ⟨g, 1, none⟩) n (cap - 1), .int .i64 n, .slice (some ⟨gq, 0, none⟩) n n, .slice (some ⟨g, 1, none⟩) n (cap - 1), .int .i64 n, .int .i64 k, .bool true, .int .i64 k, .pointer (some ⟨g, 1 + k, none⟩), ptr b, z 27, z 28, z 29, z 30, z 31, z 32, z 33, z 34, z 35, z 36, z 37, z 38, z 39, z 40, z 41, z 42, z 43, z 44, u45, undef], []⟩) ∧ Holding [27, 28, 29, 30, 31, 32, 33, 34, 35, 36, 37, 38, 39, 40, 41, 42, 43, 44, 1018] [some (.slice (some ⟨gq, 0, none⟩) n n), some (.int .i64 k), some (ptr b), some (.pointer (some ⟨b, 0, none⟩)), some (.pointer (some ⟨b, 0, none⟩)), some (.agg x.c), some (ptr b), some (.pointer (some ⟨b, 0, none⟩)), some (.pointer (some ⟨b, 33, none⟩)), some (.string s), some (.string s), some (ptr b), some (.pointer (some ⟨b, 0, none⟩)), some (.pointer (some ⟨b, 36, none⟩)), some (.int .i64 gx), some (.bool al), some (.agg (lnC (x, s, al))), some (.pointer (some ⟨gq, k * 35, none⟩)), none] ll z ∧ Whn ll 18 (fun _ ww => Below w2.heap.size w2 ww ∧ LI (M.map (lnS S gn)) gq n (k + 1) ww) (z 1018) wx) ?_ (by kernel_rfl) ?_ ?_ _ rfl _ _ ?_
      · rintro ll aa wx ⟨hI, _⟩
        exact hI.out.1
      · rintro ll aa wx ⟨hI, z, ha, hz, hp18⟩ hall
        have hx := Lib.hid hI.out.2
        have e0 : z 27 = .slice (some ⟨gq, 0, none⟩) n n := hz 0 _ (hall 0 (by decide)) rfl
        have e1 : z 28 = .int .i64 k := hz 1 _ (hall 1 (by decide)) rfl
        have e2 : z 29 = ptr b := hz 2 _ (hall 2 (by decide)) rfl
        have e3 : z 30 = .pointer (some ⟨b, 0, none⟩) := hz 3 _ (hall 3 (by decide)) rfl
        have e4 : z 31 = .pointer (some ⟨b, 0, none⟩) := hz 4 _ (hall 4 (by decide)) rfl
        have e5 : z 32 = .agg x.c := hz 5 _ (hall 5 (by decide)) rfl
        have e6 : z 33 = ptr b := hz 6 _ (hall 6 (by decide)) rfl
        have e7 : z 34 = .pointer (some ⟨b, 0, none⟩) := hz 7 _ (hall 7 (by decide)) rfl
        have e8 : z 35 = .pointer (some ⟨b, 33, none⟩) := hz 8 _ (hall 8 (by decide)) rfl
        have e9 : z 36 = .string s := hz 9 _ (hall 9 (by decide)) rfl
        have e10 : z 37 = .string s := hz 10 _ (hall 10 (by decide)) rfl
        have e11 : z 38 = ptr b := hz 11 _ (hall 11 (by decide)) rfl
        have e12 : z 39 = .pointer (some ⟨b, 0, none⟩) := hz 12 _ (hall 12 (by decide)) rfl
        have e13 : z 40 = .pointer (some ⟨b, 36, none⟩) := hz 13 _ (hall 13 (by decide)) rfl
        have e14 : z 41 = .int .i64 gx := hz 14 _ (hall 14 (by decide)) rfl
        have e15 : z 42 = .bool al := hz 15 _ (hall 15 (by decide)) rfl
        have e16 : z 43 = .agg (lnC (x, s, al)) := hz 16 _ (hall 16 (by decide)) rfl
        have e17 : z 44 = .pointer (some ⟨gq, k * 35, none⟩) := hz 17 _ (hall 17 (by decide)) rfl
        have p18 := hp18.get (hall 18 (by decide))
        clear hall hz hI hp18
        obtain rfl := ha.out
        clear ha
        clear apx
        have HN := Lib.hid p18
        clear hx p18 e0 e1 e2 e3 e4 e5 e6 e7 e8 e9 e10 e11 e12 e13 e14 e15 e16 e17
        generalize z 27 = q27
        generalize z 28 = q28
        generalize z 29 = q29
        generalize z 30 = q30
        generalize z 31 = q31
        generalize z 32 = q32
        generalize z 33 = q33
        generalize z 34 = q34
        generalize z 35 = q35
        generalize z 36 = q36
        generalize z 37 = q37
        generalize z 38 = q38
        generalize z 39 = q39
        generalize z 40 = q40
        generalize z 41 = q41
        generalize z 42 = q42
        generalize z 43 = q43
        generalize z 44 = q44
        go_wp2
        go_roundw
        case rel => exact ⟨k + 1, by omega, by go_num, HN.out⟩
        case measure => simp [intOf]; omega
      · rintro ll aa wx i ⟨hI, z, ha, hz, hp18⟩ hcl hi hu hw
        obtain rfl := ha.out
        have hsz := Lib.hid hI.out.1
        have hx := Lib.hid hI.out.2
        clear ha hI
        have hin : i < 19 := hi
        obtain rfl | rfl | rfl | rfl | rfl | rfl | rfl | rfl | rfl | rfl | rfl | rfl | rfl | rfl | rfl | rfl | rfl | rfl | rfl : i = 0 ∨ i = 1 ∨ i = 2 ∨ i = 3 ∨ i = 4 ∨ i = 5 ∨ i = 6 ∨ i = 7 ∨ i = 8 ∨ i = 9 ∨ i = 10 ∨ i = 11 ∨ i = 12 ∨ i = 13 ∨ i = 14 ∨ i = 15 ∨ i = 16 ∨ i = 17 ∨ i = 18 := by omega
        · refine wpOp_plain rfl rfl ?_
          go_simp
          exact ⟨⟨by simp [hsz.out], hx.out.same⟩, upd z 27 (.slice (some ⟨gq, 0, none⟩) n n), (by unfold Hid; simp [upd]), hz.next apx hsz.out 0 (by decide) _ (fun _ h => Option.some.inj h), Whn.never (by decide) (fun hl => hcl 18 0 hl (by kernel_rfl)) hu⟩
        · refine wpOp_plain rfl rfl ?_
          go_simp
          exact ⟨⟨by simp [hsz.out], hx.out.same⟩, upd z 28 (.int .i64 k), (by unfold Hid; simp [upd]), hz.next apx hsz.out 1 (by decide) _ (fun _ h => Option.some.inj h), Whn.never (by decide) (fun hl => hcl 18 1 hl (by kernel_rfl)) hu⟩
        · refine wpOp_plain rfl rfl ?_
          go_simp
          exact ⟨⟨by simp [hsz.out], hx.out.same⟩, upd z 29 (ptr b), (by unfold Hid; simp [upd]), hz.next apx hsz.out 2 (by decide) _ (fun _ h => Option.some.inj h), Whn.never (by decide) (fun hl => hcl 18 2 hl (by kernel_rfl)) hu⟩
        · have e2 : z 29 = ptr b := hz 2 _ (hw 2 (by kernel_rfl)) rfl
          refine wpOp_plain rfl rfl ?_
          go_simp
          exact ⟨⟨by simp [hsz.out], hx.out.same⟩, upd z 30 (.pointer (some ⟨b, 0, none⟩)), (by unfold Hid; simp [upd, e2]), hz.next apx hsz.out 3 (by decide) _ (fun _ h => Option.some.inj h), Whn.never (by decide) (fun hl => hcl 18 3 hl (by kernel_rfl)) hu⟩
        · have e3 : z 30 = .pointer (some ⟨b, 0, none⟩) := hz 3 _ (hw 3 (by kernel_rfl)) rfl
          refine wpOp_plain rfl rfl ?_
          go_simp
          exact ⟨⟨by simp [hsz.out], hx.out.same⟩, upd z 31 (.pointer (some ⟨b, 0, none⟩)), (by unfold Hid; simp [upd, e3]), hz.next apx hsz.out 4 (by decide) _ (fun _ h => Option.some.inj h), Whn.never (by decide) (fun hl => hcl 18 4 hl (by kernel_rfl)) hu⟩
        · have e4 : z 31 = .pointer (some ⟨b, 0, none⟩) := hz 4 _ (hw 4 (by kernel_rfl)) rfl
          have cl := loadVx_eq (range_at HVx.out (hx.out.1.block b HW.out.2 (by simpa using HW.out.1)))
          refine wpOp_plain rfl rfl ?_
          go_simp
          exact ⟨⟨by simp [hsz.out], hx.out.same⟩, upd z 32 (.agg x.c), (by unfold Hid; simp [upd, e4]), hz.next apx hsz.out 5 (by decide) _ (fun _ h => Option.some.inj h), Whn.never (by decide) (fun hl => hcl 18 5 hl (by kernel_rfl)) hu⟩
        · refine wpOp_plain rfl rfl ?_
          go_simp
          exact ⟨⟨by simp [hsz.out], hx.out.same⟩, upd z 33 (ptr b), (by unfold Hid; simp [upd]), hz.next apx hsz.out 6 (by decide) _ (fun _ h => Option.some.inj h), Whn.never (by decide) (fun hl => hcl 18 6 hl (by kernel_rfl)) hu⟩
        · have e6 : z 33 = ptr b := hz 6 _ (hw 6 (by kernel_rfl)) rfl
          refine wpOp_plain rfl rfl ?_
          go_simp
          exact ⟨⟨by simp [hsz.out], hx.out.same⟩, upd z 34 (.pointer (some ⟨b, 0, none⟩)), (by unfold Hid; simp [upd, e6]), hz.next apx hsz.out 7 (by decide) _ (fun _ h => Option.some.inj h), Whn.never (by decide) (fun hl => hcl 18 7 hl (by kernel_rfl)) hu⟩
        · have e7 : z 34 = .pointer (some ⟨b, 0, none⟩) := hz 7 _ (hw 7 (by kernel_rfl)) rfl
          refine wpOp_plain rfl rfl ?_
          go_simp
          exact ⟨⟨by simp [hsz.out], hx.out.same⟩, upd z 35 (.pointer (some ⟨b, 33, none⟩)), (by unfold Hid; simp [upd, e7]), hz.next apx hsz.out 8 (by decide) _ (fun _ h => Option.some.inj h), Whn.never (by decide) (fun hl => hcl 18 8 hl (by kernel_rfl)) hu⟩
        · have e8 : z 35 = .pointer (some ⟨b, 33, none⟩) := hz 8 _ (hw 8 (by kernel_rfl)) rfl
          have cl := (World.cell?_of_block (hx.out.1.block b HW.out.2 (by simpa using HW.out.1))).trans HTx2.out
          refine wpOp_plain rfl rfl ?_
          go_simp
          exact ⟨⟨by simp [hsz.out], hx.out.same⟩, upd z 36 (.string s), (by unfold Hid; simp [upd, e8]), hz.next apx hsz.out 9 (by decide) _ (fun _ h => Option.some.inj h), Whn.never (by decide) (fun hl => hcl 18 9 hl (by kernel_rfl)) hu⟩
        · have e9 : z 36 = .string s := hz 9 _ (hw 9 (by kernel_rfl)) rfl
          refine wpOp_plain rfl rfl ?_
          go_simp
          go_at_call 49
          refine (HCl.out wx).mono ?_
          rintro e w8 ⟨rfl, low⟩
          exact ⟨⟨by simp [hsz.out], hx.out.call low⟩, upd z 37 (.string s), (by unfold Hid; simp [upd, e9]), hz.next apx hsz.out 10 (by decide) _ (fun _ h => Option.some.inj h), Whn.never (by decide) (fun hl => hcl 18 10 hl (by kernel_rfl)) hu⟩
        · refine wpOp_plain rfl rfl ?_
          go_simp
          exact ⟨⟨by simp [hsz.out], hx.out.same⟩, upd z 38 (ptr b), (by unfold Hid; simp [upd]), hz.next apx hsz.out 11 (by decide) _ (fun _ h => Option.some.inj h), Whn.never (by decide) (fun hl => hcl 18 11 hl (by kernel_rfl)) hu⟩
        · have e11 : z 38 = ptr b := hz 11 _ (hw 11 (by kernel_rfl)) rfl
          refine wpOp_plain rfl rfl ?_
          go_simp
          exact ⟨⟨by simp [hsz.out], hx.out.same⟩, upd z 39 (.pointer (some ⟨b, 0, none⟩)), (by unfold Hid; simp [upd, e11]), hz.next apx hsz.out 12 (by decide) _ (fun _ h => Option.some.inj h), Whn.never (by decide) (fun hl => hcl 18 12 hl (by kernel_rfl)) hu⟩
        · have e12 : z 39 = .pointer (some ⟨b, 0, none⟩) := hz 12 _ (hw 12 (by kernel_rfl)) rfl
          refine wpOp_plain rfl rfl ?_
          go_simp
          exact ⟨⟨by simp [hsz.out], hx.out.same⟩, upd z 40 (.pointer (some ⟨b, 36, none⟩)), (by unfold Hid; simp [upd, e12]), hz.next apx hsz.out 13 (by decide) _ (fun _ h => Option.some.inj h), Whn.never (by decide) (fun hl => hcl 18 13 hl (by kernel_rfl)) hu⟩
        · have e13 : z 40 = .pointer (some ⟨b, 36, none⟩) := hz 13 _ (hw 13 (by kernel_rfl)) rfl
          have cl := (World.cell?_of_block (hx.out.1.block b HW.out.2 (by simpa using HW.out.1))).trans HGn.out
          refine wpOp_plain rfl rfl ?_
          go_simp
          exact ⟨⟨by simp [hsz.out], hx.out.same⟩, upd z 41 (.int .i64 gx), (by unfold Hid; simp [upd, e13]), hz.next apx hsz.out 14 (by decide) _ (fun _ h => Option.some.inj h), Whn.never (by decide) (fun hl => hcl 18 14 hl (by kernel_rfl)) hu⟩
        · have e14 : z 41 = .int .i64 gx := hz 14 _ (hw 14 (by kernel_rfl)) rfl
          refine wpOp_plain rfl rfl ?_
          go_simp
          rw [show (gx == 0) = al by rw [Hal.out]; rfl]
          exact ⟨⟨by simp [hsz.out], hx.out.same⟩, upd z 42 (.bool al), (by unfold Hid; simp [upd, e14]), hz.next apx hsz.out 15 (by decide) _ (fun _ h => Option.some.inj h), Whn.never (by decide) (fun hl => hcl 18 15 hl (by kernel_rfl)) hu⟩
        · have e5 : z 32 = .agg x.c := hz 5 _ (hw 5 (by kernel_rfl)) rfl
          have e10 : z 37 = .string s := hz 10 _ (hw 10 (by kernel_rfl)) rfl
          have e15 : z 42 = .bool al := hz 15 _ (hw 15 (by kernel_rfl)) rfl
          refine wpOp_plain rfl rfl (wp_buildV 55 #[(0, .tmp 32), (1, .tmp 37), (2, .tmp 42)] rfl (lnC (x, s, al)) (by simp only [List.map_toArray, List.map_cons, List.map_nil]; show Tryd.prog.built _ [(0, z 32), (1, z 37), (2, z 42)] = _; rw [e5, e10, e15]; exact built_ln (x, s, al)) ?_)
          go_simp
          exact ⟨⟨by simp [hsz.out], hx.out.same⟩, upd z 43 (.agg (lnC (x, s, al))), (by unfold Hid; simp [upd, e5, e10, e15]), hz.next apx hsz.out 16 (by decide) _ (fun _ h => Option.some.inj h), Whn.never (by decide) (fun hl => hcl 18 16 hl (by kernel_rfl)) hu⟩
        · have e0 : z 27 = .slice (some ⟨gq, 0, none⟩) n n := hz 0 _ (hw 0 (by kernel_rfl)) rfl
          have e1 : z 28 = .int .i64 k := hz 1 _ (hw 1 (by kernel_rfl)) rfl
          refine wpOp_plain rfl rfl ?_
          go_simp
          exact ⟨⟨by simp [hsz.out], hx.out.same⟩, upd z 44 (.pointer (some ⟨gq, k * 35, none⟩)), (by unfold Hid; simp [upd, e0, e1]), hz.next apx hsz.out 17 (by decide) _ (fun _ h => Option.some.inj h), Whn.never (by decide) (fun hl => hcl 18 17 hl (by kernel_rfl)) hu⟩
        · have e16 : z 43 = .agg (lnC (x, s, al)) := hz 16 _ (hw 16 (by kernel_rfl)) rfl
          have e17 : z 44 = .pointer (some ⟨gq, k * 35, none⟩) := hz 17 _ (hw 17 (by kernel_rfl)) rfl
          have hlow := hx.out.2 hu
          have hLn := (hI.out.2.below hlow).next hlt HX9.out
          rw [HBl.out] at hLn
          refine wpOp_plain rfl rfl (wp_store_mid 55 (.tmp 44) (.tmp 43) rfl gq (k * 35) (lnC (x, s, al)) (by show z 44 = _; exact e17) (by show z 43 = _; exact e16) hLn.1 (infoLn _) (lnC_one _) ?_)
          go_simp
          exact ⟨⟨by simp [hsz.out], hx.out.wr ((Chg.refl _ _).setCells (by simp) _ _) (by rw [hsz.out]; decide)⟩, upd z 1018 (undef), (by unfold Hid; simp [upd, e16, e17]), hz.next apx hsz.out 18 (by decide) _ (fun _ h => by cases h), Whn.done (⟨Chg.below ((Chg.refl [gq] _).setCells (by simp) _ _) (hI.out.1.trans (hlow.mono hI.out.1.size)) (Nat.le_trans hI.out.1.size hlow.size) (by simp [Hgq.out]), hLn.2⟩)⟩
      · exact ⟨⟨rfl, RelC.start⟩, fun xx => (#[ptr S.g, undef, .slice none 0 0, .slice (some ⟨g, 1, none⟩) n (cap - 1), .slice (some ⟨gq, 0, none⟩) n n, .int .i64 k, ptr b, ptr S.g, .bool true, .bool false, ptr S.g, .slice (some ⟨g, 0, none⟩) (n + 2) cap, .slice (some ⟨g, 0, none⟩) (n + 2) cap, .slice (some ⟨g, 0, none⟩) (n + 2) cap, .int .i64 ((n : Int) + 2), .int .i64 ((n : Int) + 2 - 1), .slice (some ⟨g, 1, none⟩) n (cap - 1), .slice (some ⟨g, 1, none⟩) n (cap - 1), .int .i64 n, .slice (some ⟨gq, 0, none⟩) n n, .slice (some ⟨g, 1, none⟩) n (cap - 1), .int .i64 n, .int .i64 k, .bool true, .int .i64 k, .pointer (some ⟨g, 1 + k, none⟩), ptr b, u27, u28, u29, u30, u31, u32, u33, u34, u35, u36, u37, u38, u39, u40, u41, u42, u43, u44, u45, undef] : Array Value).getD xx undef, (by rfl), Holding.start, Whn.none (by decide)⟩
    · have hltI : ¬ (k : Int) < n := by omega
      obtain rfl : k = n := by omega
      have HF : Hid (LnQ w S gn (.returned (.slice (some ⟨gq, 0, none⟩) k k)) wr) := by
        refine ⟨_, M, rfl, HSt.out, HAll.out, hI.out.2.own (by rw [List.length_map, ← Hn.out]) ?_ (by omega), HLow.out.trans (hI.out.1.mono HLow.out.size)⟩
        rw [Hgq.out]; exact HLow.out.size
      clear hI
      go_wp2
      go_ret
      exact HF.out
end Go.Proofs.YtnjeppmpnaemlaaDoor.Grf
/- DERIVED. A graph while a part is laid: what stays, what the numbers are. -/
set_option maxRecDepth 100000
namespace Go.Proofs.YtnjeppmpnaemlaaDoor.Grf
open Go.RowKit Str Go.Maps
/-- a graph in memory, but for its own row and its maps. -/
structure GC (w : World) (S : GS) (us : Nat → Int) (gn : Vx → Int) : Prop where
  frm : PRow w S.fr pd0 nils nils 0 S.fcv (us S.fr)
  frc : Ptrs w S.fcv [S.rb, S.eb]
  lr : LRow w S.rb root ByteArray.empty S.fr 0 (gn root)
  lf : LRow w S.eb fin ByteArray.empty S.fr 1 (gn fin)
  prt : ∀ p ∈ S.ps, PRow w p.b p.d p.lnv p.gnv p.rank p.chv (us p.b)
  lsl : ∀ p ∈ S.ps, p.ls.length = p.d.lines.length
  ln : ∀ p ∈ S.ps, ∀ (i b : Nat) (s : ByteArray), p.ls[i]? = some b → p.d.lines[i]? = some s → LRow w b (vert p.d i) s p.b ((i : Int) + 1) (gn (vert p.d i))
  chn : ∀ p ∈ S.ps, ∃ u dn, lineB S p.d.up = some u ∧ lineB S p.d.down = some dn ∧ Ptrs w p.chv (u :: (p.ls ++ [dn]))
  lns : ∀ p ∈ S.ps, OwnS 0 p.d.lines p.lnv w
  gns : ∀ p ∈ S.ps, OwnV 0 p.d.gone p.gnv w
theorem GM.blk {w w' : World} {S : GS} {us : Nat → Int} {gn : Vx → Int} (h : GM w S us gn) (hc : Chg [S.g, S.mp, S.mv] w w') {b T : Nat} {C : Array Value} (hb : w.heap[b]? = some (.cells C T (0, 0))) (hT : T ≠ 38) : w'.heap[b]? = some (.cells C T (0, 0)) :=
  hc.at hb (by simp only [List.mem_cons, List.mem_nil_iff, or_false, not_or]; exact ⟨ne_ty hb h.gr hT, h.mapP.ne hb, h.mapV.ne hb⟩)
theorem map_cell {k : TypeId} {w : World} {b s j : Nat} {f : Vx → Option Value} (h : MapF k w b s f) : w.cell? ⟨b, j, none⟩ = none := by
  obtain ⟨D, ⟨es, clock, hb, _⟩, _⟩ := h
  simp [World.cell?, hb]
theorem GM.ptrs {w w' : World} {S : GS} {us : Nat → Int} {gn : Vx → Int} (h : GM w S us gn) (hc : Chg [S.g, S.mp, S.mv] w w') {v : Value} {L : List Nat} (hp : Ptrs w v L) {b T : Nat} {C : Array Value} (h0 : L[0]? = some b) (hb : w.heap[b]? = some (.cells C T (0, 0))) (hT : T ≠ 38) : Ptrs w' v L := by
  obtain ⟨g, cap, e, h1, h2, h3⟩ := hp
  have c0 := h3 0 b h0
  refine ⟨g, cap, e, h1, Nat.lt_of_lt_of_le h2 hc.size, fun j x hx => (World.cell?_of_block (hc.block g h2 ?_)).trans (h3 j x hx)⟩
  simp only [List.mem_cons, List.mem_nil_iff, or_false, not_or]
  refine ⟨fun e1 => ?_, fun e1 => ?_, fun e1 => ?_⟩
  · rw [e1, h.g0] at c0
    have e2 : S.g = b := by simpa using c0
    exact ne_ty hb h.gr hT e2.symm
  · rw [e1, map_cell h.mapP] at c0; cases c0
  · rw [e1, map_cell h.mapV] at c0; cases c0
theorem GM.ownr {w w' : World} {S : GS} {us : Nat → Int} {gn : Vx → Int} (h : GM w S us gn) (hc : Chg [S.g, S.mp, S.mv] w w') {base n s T : Nat} {v : Value} {L : List Value} (ho : w.ownsRow base T s v n L) (hT : T ≠ 38) : w'.ownsRow base T s v n L := by
  obtain ⟨h1, h2⟩ := ho
  refine ⟨h1, ?_⟩
  rcases h2 with h3 | ⟨g, cap, cur, h3, h4, h5, h6⟩
  · exact .inl h3
  · exact .inr ⟨g, cap, cur, h3, h4, h.blk hc h5 hT, h6⟩
/-- what turns the graph's row and its maps alone leaves the rest. -/
theorem GM.core {w w' : World} {S : GS} {us : Nat → Int} {gn : Vx → Int} (h : GM w S us gn) (hc : Chg [S.g, S.mp, S.mv] w w') : GC w' S us gn where
  frm := h.blk hc h.frm (by decide)
  frc := h.ptrs hc h.frc (by rfl) h.lr (by decide)
  lr := h.blk hc h.lr (by decide)
  lf := h.blk hc h.lf (by decide)
  prt := fun p hp => h.blk hc (h.prt p hp) (by decide)
  lsl := h.lsl
  ln := fun p hp i b s h1 h2 => h.blk hc (h.ln p hp i b s h1 h2) (by decide)
  chn := fun p hp => by
    obtain ⟨u, dn, h1, h2, h3⟩ := h.chn p hp
    obtain ⟨s, pb, at_, hr, _⟩ := h.line h1
    exact ⟨u, dn, h1, h2, h.ptrs hc h3 (by rfl) hr (by decide)⟩
  lns := fun p hp => h.ownr hc (h.lns p hp) (by decide)
  gns := fun p hp => h.ownr hc (h.gns p hp) (by decide)
/-! the numbers -/
def usS (S : GS) (q : Nat) : Int := (S.ps.map fun p => ((if pOf S p.d.up = q then (1 : Int) else 0) + (if pOf S p.d.down = q then (1 : Int) else 0) + ((p.d.gone.countP fun v => decide (pOf S v = q) : Nat) : Int))).sum
def gnS (S : GS) (v : Vx) : Int := (S.ps.map fun p => ((p.d.gone.count v : Nat) : Int)).sum
theorem addV_fold (z : Int) (v : Vx) : ∀ (l : List Vx) (gn : Vx → Int), (l.foldl (fun gn x => addV gn x z) gn) v = gn v + z * (l.count v : Nat) := by
  intro l
  induction l with
  | nil => intro gn; simp
  | cons x t ih =>
    intro gn
    rw [List.foldl_cons, ih, List.count_cons]
    unfold addV setV
    by_cases e : v = x
    · subst e
      simp only [if_true, beq_self_eq_true, Int.natCast_add, Int.mul_add]
      omega
    · simp only [e, if_false, beq_iff_eq, Ne.symm e, Nat.add_zero]
theorem addN_fold (S : GS) (z : Int) (q : Nat) : ∀ (l : List Vx) (us : Nat → Int), (l.foldl (fun us x => addN us (pOf S x) z) us) q = us q + z * (l.countP (fun v => decide (pOf S v = q)) : Nat) := by
  intro l
  induction l with
  | nil => intro us; simp
  | cons x t ih =>
    intro us
    rw [List.foldl_cons, ih, List.countP_cons]
    unfold addN setN
    by_cases e : q = pOf S x
    · subst e
      simp only [if_true, decide_true, Int.natCast_add, Int.mul_add]
      omega
    · simp only [e, if_false, Ne.symm e, decide_false, Bool.false_eq_true, Nat.add_zero]
theorem cntG_all (d : PD) (z : Int) (gn : Vx → Int) (v : Vx) : cntG d z gn d.gone.length v = gn v + z * (d.gone.count v : Nat) := by
  unfold cntG
  rw [List.take_length]
  exact addV_fold z v d.gone gn
theorem cntU_all (S : GS) (d : PD) (z : Int) (us : Nat → Int) (q : Nat) : cntU S d z us d.gone.length q = us q + (if pOf S d.up = q then z else 0) + (if pOf S d.down = q then z else 0) + z * (d.gone.countP (fun v => decide (pOf S v = q)) : Nat) := by
  unfold cntU
  rw [List.take_length, addN_fold]
  unfold addN setN
  by_cases e1 : pOf S d.down = q
  · by_cases e2 : pOf S d.up = q
    · simp only [e1, e2, if_true]
    · simp only [e1, e2, if_true, if_false, Ne.symm e2]; omega
  · by_cases e2 : pOf S d.up = q
    · simp only [Ne.symm e1, e2, if_true, if_false, e1]; omega
    · simp only [Ne.symm e1, Ne.symm e2, if_false, e1, e2]; omega
theorem find_new {q : PA} {ps : List PA} {v : Vx} (h : v ∉ own q.d) : find (q :: ps) v = find ps v := by rw [find, if_neg h]
/-- a graph with one part more. -/
def moreS (S : GS) (p : PA) : GS := { S with added := S.added + 1, nv := S.nv + p.d.lines.length, ps := p :: S.ps }
theorem pOf_more {S : GS} {p : PA} {v : Vx} (h : v ∉ own p.d) : pOf (moreS S p) v = pOf S v := by
  unfold pOf moreS
  simp only [find_new h]
theorem lineB_more {S : GS} {p : PA} {v : Vx} (h : v ∉ own p.d) : lineB (moreS S p) v = lineB S v := by
  unfold lineB moreS
  simp only [find_new h]
theorem lineB_mine {S : GS} {p : PA} {v : Vx} (h : v ∈ own p.d) : lineB (moreS S p) v = p.ls[(own p.d).idxOf v]? := by
  unfold lineB moreS
  simp only [find, if_pos h]
theorem gone_in : ∀ {ps : List PA}, Adm (ds ps) → ∀ {p : PA}, p ∈ ps → ∀ {v : Vx}, v ∈ p.d.gone → v ∈ verts (ds ps) := by
  intro ps
  induction ps with
  | nil => intro _ p h; simp at h
  | cons q t ih =>
    intro ha p hp v hv
    obtain ⟨h1, f, _⟩ := adm_tail ha
    rcases List.mem_cons.1 hp with rfl | hp
    · exact List.mem_append.2 (.inr (f.goneIn v hv).1)
    · exact List.mem_append.2 (.inr (ih h1 hp hv))
/-- what is asked of a part that is put. -/
structure PutOk (S : GS) (p : PA) : Prop where
  fits : Fits p.d (ds S.ps)
  le : le (ds S.ps) p.d.up p.d.down
  ne : p.d.up ≠ p.d.down
  rank : p.rank = S.added + 1
theorem GOk.more {S : GS} {p : PA} (h : GOk S) (k : PutOk S p) : GOk (moreS S p) where
  adm := .cons h.adm k.fits k.le k.ne
  falls := ⟨List.pairwise_cons.2 ⟨fun q hq => by have := h.top q hq; rw [k.rank]; omega, h.falls.1⟩, fun q hq => by
    rcases List.mem_cons.1 hq with rfl | hq
    · rw [k.rank]; omega
    · exact h.falls.2 q hq⟩
  top := fun q hq => by
    show q.rank ≤ S.added + 1
    rcases List.mem_cons.1 hq with rfl | hq
    · rw [k.rank]; exact Nat.le_refl _
    · have := h.top q hq; omega
theorem gnS_more {S : GS} {p : PA} : gnS (moreS S p) = cntG p.d 1 (gnS S) p.d.gone.length := by
  funext v
  rw [cntG_all]
  unfold gnS moreS
  simp only [List.map_cons, List.sum_cons]
  omega
theorem usS_more {S : GS} {p : PA} (hok : GOk S) (k : PutOk S p) : usS (moreS S p) = cntU (moreS S p) p.d 1 (usS S) p.d.gone.length := by
  funext q
  rw [cntU_all]
  have e : usS (moreS S p) q = ((if pOf (moreS S p) p.d.up = q then (1 : Int) else 0) + (if pOf (moreS S p) p.d.down = q then (1 : Int) else 0) + ((p.d.gone.countP fun v => decide (pOf (moreS S p) v = q) : Nat) : Int)) + usS S q := by
    have old : ∀ {v : Vx}, v ∈ verts (ds S.ps) → pOf (moreS S p) v = pOf S v := fun {v} hv => pOf_more (fun h => k.fits.apart v h hv)
    show (List.map _ (p :: S.ps)).sum = _
    rw [List.map_cons, List.sum_cons]
    congr 1
    unfold usS
    congr 1
    apply List.map_congr_left
    intro r hr
    obtain ⟨h1, h2⟩ := part_in hok.adm hr
    rw [old h1, old h2]
    have h3 : (r.d.gone.countP fun v => decide (pOf (moreS S p) v = q)) = r.d.gone.countP fun v => decide (pOf S v = q) := List.countP_congr (fun v hv => by rw [old (gone_in hok.adm hr hv)])
    rw [h3]
  rw [e]
  omega
end Go.Proofs.YtnjeppmpnaemlaaDoor.Grf
