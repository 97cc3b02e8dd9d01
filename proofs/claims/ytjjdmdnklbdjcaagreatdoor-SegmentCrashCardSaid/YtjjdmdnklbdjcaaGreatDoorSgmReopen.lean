/- DERIVED. A segment behind a restart; loads of the law's own parameters. -/
import Derived.Test.YtjjdmdnklbdjcaaGreatDoorSgmWorks
import Derived.Test.YtjjdmdnklbdjcaaGreatDoorSgmArgs
namespace Go.Proofs.YtjjdmdnklbdjcaaGreatDoor.Sgm
open Go.RowKit Dsk Slt Epo
noncomputable def loadH (v : Value) : Sem Value := Instr.loadAt 24 v
theorem loadAtH (v : Value) : Instr.loadAt 24 v = loadH v := rfl
theorem loadH_eq {w : World} {b : Nat} {key : List Int} (hk : key.length = 32) (h : w.rangeAt b 0 (vals key)) : (loadH (.pointer (some ⟨b, 0, none⟩))).run Tryz.prog w = .ok (.agg (u8s key)) w := by
  unfold loadH
  exact run_loadAt_mid (P := Tryz.prog) w b 0 24 (vals key) _ h Tryz.underlying24 rfl (by rw [vals_length, hk]; exact Seal.infoH)
noncomputable def loadB (v : Value) : Sem Value := Instr.loadAt 27 v
theorem loadAtB (v : Value) : Instr.loadAt 27 v = loadB v := rfl
theorem loadB_eq {w : World} {b : Nat} {x y : Value} (h : w.rangeAt b 1 [x, y]) : (loadB (.pointer (some ⟨b, 1, none⟩))).run Tryz.prog w = .ok (.agg #[x, y]) w := by
  unfold loadB
  exact run_loadAt_mid (P := Tryz.prog) w b 1 27 [x, y] _ h Tryz.underlying27 rfl (by kernel_rfl)
noncomputable def loadW (v : Value) : Sem Value := Instr.loadAt 29 v
theorem loadAtW (v : Value) : Instr.loadAt 29 v = loadW v := rfl
theorem loadW_eq {w : World} {b : Nat} {x y z u : Value} (h : w.rangeAt b 0 [x, y, z, u]) : (loadW (.pointer (some ⟨b, 0, none⟩))).run Tryz.prog w = .ok (.agg #[x, y, z, u]) w := by
  unfold loadW
  exact run_loadAt_mid (P := Tryz.prog) w b 0 29 [x, y, z, u] _ h Tryz.underlying29 rfl (by kernel_rfl)
attribute [irreducible] loadH loadB loadW
attribute [local go_sem ↓ high] loadAtH loadAtB loadAtW
theorem range_of {w : World} {b o : Nat} {C : Array Value} {T : TypeId} {fr : Nat × Nat} (h : w.heap[b]? = some (.cells C T fr)) {l : List Value} (hl : ∀ j v, l[j]? = some v → C[o + j]? = some v) : w.rangeAt b o l := fun j v hv => by
  rw [cell_row h]
  exact hl j v hv
/-- what lies in the two boxes. -/
structure Bx (w : World) (bk bw : Nat) (key : List Int) (s : ByteArray) (lv : Int) (cp sc : Nat) : Prop where
  k : w.heap[bk]? = some (.cells (u8s key) 24 (0, 0))
  w : w.heap[bw]? = some (.cells #[.string s, .int .i64 lv, .int .u64 (cp : Nat), .int .u8 (sc : Nat)] 29 (0, 0))
theorem Bx.facts {w : World} {bk bw : Nat} {key : List Int} {s : ByteArray} {lv : Int} {cp sc : Nat} (h : Bx w bk bw key s lv cp sc) (hk : key.length = 32) : (loadH (.pointer (some ⟨bk, 0, none⟩))).run Tryz.prog w = .ok (.agg (u8s key)) w ∧ w.cell? ⟨bw, 0, none⟩ = some (.string s) ∧ (loadB (.pointer (some ⟨bw, 1, none⟩))).run Tryz.prog w = .ok (.agg #[.int .i64 lv, .int .u64 (cp : Nat)]) w ∧ w.cell? ⟨bw, 3, none⟩ = some (.int .u8 (sc : Nat)) ∧ (loadW (.pointer (some ⟨bw, 0, none⟩))).run Tryz.prog w = .ok (.agg #[.string s, .int .i64 lv, .int .u64 (cp : Nat), .int .u8 (sc : Nat)]) w := by
  refine ⟨loadH_eq hk (range_of h.k fun j v hv => ?_), by rw [cell_row h.w]; rfl, loadB_eq (range_of h.w fun j v hv => ?_), by rw [cell_row h.w]; rfl, loadW_eq (range_of h.w fun j v hv => ?_)⟩
  · rw [Nat.zero_add]
    unfold u8s
    rw [List.getElem?_toArray]
    exact hv
  · match j, hv with
    | 0, hv => exact hv
    | 1, hv => exact hv
    | j + 2, hv => cases hv
  · match j, hv with
    | 0, hv => exact hv
    | 1, hv => exact hv
    | 2, hv => exact hv
    | 3, hv => exact hv
    | j + 4, hv => cases hv
theorem Bx.below {w w' : World} {B : Nat} {bk bw : Nat} {key : List Int} {s : ByteArray} {lv : Int} {cp sc : Nat} (h : Bx w bk bw key s lv cp sc) (hb : Below B w w') (h1 : bk < B) (h2 : bw < B) : Bx w' bk bw key s lv cp sc :=
  ⟨(hb.block _ h1).trans h.k, (hb.block _ h2).trans h.w⟩
theorem Bx.chg {w w' : World} {X : List Nat} {bk bw : Nat} {key : List Int} {s : ByteArray} {lv : Int} {cp sc : Nat} (h : Bx w bk bw key s lv cp sc) (hc : Chg X w w') (h1 : bk ∉ X) (h2 : bw ∉ X) : Bx w' bk bw key s lv cp sc :=
  ⟨hc.at h.k h1, hc.at h.w h2⟩
theorem sd_restart {w0 w : World} {K : DK} {D : DS} (h : SD w0 w K D) : Calls Tryz.prog 36 #[.pointer (some ⟨K.g, 0, none⟩)] w fun e w' => e = .returned (.int .i64 0) ∧ SD w0 w' K (restD D) ∧ Chg K.bl w w' :=
  (restart_any h.dsk).mono fun _ _ ⟨e, hd, hc⟩ => ⟨e, h.chg hd hc h.kb, hc⟩
theorem Fresh.after {w w1 w2 : World} {K : DK} {J : LK} {G : GK} (h : Fresh w1 w2 K J G) (hc : Chg K.bl w w1) : Fresh w w2 K J G :=
  ⟨hc.trans h.chg, fun q hq => Nat.le_trans hc.size (h.jn q hq), fun q hq => Nat.le_trans hc.size (h.jt q hq), fun q hq => Nat.le_trans hc.size (h.gn q hq), fun q hq => Nat.le_trans hc.size (h.gt q hq)⟩
set_option maxRecDepth 100000 in
set_option maxHeartbeats 2000000 in
theorem reopen_any {w0 w : World} {K : DK} {D : DS} (h : SD w0 w K D) {key : List Int} (hk : key.length = 32) (hkb : InB key) (s : ByteArray) (hs : s.size ≤ 100) (lv : Int) (cp sc : Nat) {v : Nat} {R : List (List Int × Nat)} (hg : DG D key (ctxL s lv cp) v R) (hv : v < 1024) (hw : D.writes ≤ 1152921504606846976) :
    Calls Tryz.prog 18 #[.pointer (some ⟨K.g, 0, none⟩), .agg #[.string s, .int .i64 lv, .int .u64 (cp : Nat), .int .u8 (sc : Nat)], .agg (u8s key)] w fun e w' => ∃ J G D' S, e = .returned (.tuple #[G.ptr, .int .i64 0]) ∧ SE w0 w' K D' J G S ⟨key, ctxL s lv cp, v + 1, R.map (·.1), false⟩ ∧ SGd D' S ⟨key, ctxL s lv cp, v + 1, R.map (·.1), false⟩ R ∧ D'.laid = false ∧ D'.writes ≤ D.writes + 1 ∧ D'.secs = D.secs ∧ Fresh w w' K J G := by
  have hb2 : Below w.heap.size w ((w.alloc (.cells #[.string s, .int .i64 lv, .int .u64 (cp : Nat), .int .u8 (sc : Nat)] 29)).alloc (.cells (u8s key) 24)) := ((Below.refl _ _).alloc (Nat.le_refl _) _).alloc (by rw [World.size_alloc]; omega) _
  obtain ⟨t1, t2⟩ := two_new w (.cells #[.string s, .int .i64 lv, .int .u64 (cp : Nat), .int .u8 (sc : Nat)] 29) (.cells (u8s key) 24)
  have HsK : Hid ((Tryz.prog.info? 24).map (·.size) = some (u8s key).size) := by show _ = _; rw [u8s_size, hk]; exact Seal.infoH
  have HX : Hid (Bx ((w.alloc (.cells #[.string s, .int .i64 lv, .int .u64 (cp : Nat), .int .u8 (sc : Nat)] 29)).alloc (.cells (u8s key) 24)) (w.heap.size + 1) w.heap.size key s lv cp sc) := ⟨t2, t1⟩
  have HB2 := Lib.hid hb2
  have Hd := Lib.hid (h.later hb2)
  have Hsz : Hid (((w.alloc (.cells #[.string s, .int .i64 lv, .int .u64 (cp : Nat), .int .u8 (sc : Nat)] 29)).alloc (.cells (u8s key) 24)).heap.size = w.heap.size + 2) := by show _ = _; rw [World.size_alloc, World.size_alloc]
  have Hop : Hid (∀ W, SD w0 W K (restD D) → Calls Tryz.prog 14 #[.pointer (some ⟨K.g, 0, none⟩), .agg (u8s key), .string s, .agg #[.int .i64 lv, .int .u64 (cp : Nat)]] W fun e w' => ∃ J G D' S, e = .returned (.tuple #[G.ptr, .int .i64 0]) ∧ SE w0 w' K D' J G S ⟨key, ctxL s lv cp, v + 1, R.map (·.1), false⟩ ∧ SGd D' S ⟨key, ctxL s lv cp, v + 1, R.map (·.1), false⟩ R ∧ D'.laid = false ∧ D'.writes ≤ D.writes + 1 ∧ D'.secs = D.secs ∧ Fresh W w' K J G) := fun W hW =>
    sd_open hW hk hkb s hs lv cp (hg.of_data (rest_data D)) hv rfl rfl hw
  have Hk := Lib.hid hk
  have HKl : Hid (∀ q ∈ K.bl, q < w.heap.size) := h.kl
  clear h hk hkb hs hg hv hw hb2 t1 t2
  go_enter Tryz.func18, Tryz.ntmps18
  have hsK := HsK.out
  go_upto_region 1 with (fail)
  generalize (w.alloc _).alloc _ = w2 at HX HB2 Hd Hsz ⊢
  clear hsK
  go_upto_region 2 with (go_at_call 36; refine (sd_restart Hd.out).mono ?_; rintro e w3 ⟨rfl, hq3, hc3⟩; have Q3 := Lib.hid hq3; have C3 := Lib.hid hc3; clear hq3 hc3)
  obtain ⟨k1, k2, k3, _, _⟩ := (HX.out.chg C3.out (fun hm => by have := HKl.out _ hm; omega) (fun hm => by have := HKl.out _ hm; omega)).facts Hk.out
  go_wp2_with (go_at_call 14; refine (Hop.out _ Q3.out).mono ?_; rintro e w4 ⟨J, G, D', S, rfl, hq4⟩; have Q4 := Lib.hid hq4; clear hq4)
  go_ret2
  obtain ⟨h1, h2, h3, h4, h5, h6⟩ := Q4.out
  exact ⟨J, G, D', S, rfl, h1, h2, h3, h4, h5, h6.after ((Chg.of_below HB2.out).trans C3.out)⟩
end Go.Proofs.YtjjdmdnklbdjcaaGreatDoor.Sgm
