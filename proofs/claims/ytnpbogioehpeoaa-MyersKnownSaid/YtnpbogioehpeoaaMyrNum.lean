/- DERIVED. myers.numbers: each text's place among those that are known. -/
import Derived.Test.YtnpbogioehpeoaaMyrRow
import Derived.Maps.OwnSet
import Derived.Maps.OwnOps
import Derived.StringKeys
namespace Go.Proofs.Ytnpbogioehpeoaa.Myr
open Go.RowKit Lns Go.Maps
def plc : List ByteArray → ByteArray → Nat
  | [], _ => 0
  | x :: us, s => if x = s then 0 else plc us s + 1
def kn (us : List ByteArray) (s : ByteArray) : Bool := us.any fun x => decide (x = s)
theorem kn_yes {us : List ByteArray} {s : ByteArray} : kn us s = true ↔ s ∈ us := by
  simp only [kn, List.any_eq_true, decide_eq_true_eq]
  exact ⟨fun ⟨x, h, e⟩ => e ▸ h, fun h => ⟨s, h, rfl⟩⟩
theorem kn_no {us : List ByteArray} {s : ByteArray} : kn us s = false ↔ s ∉ us := by rw [← kn_yes]; simp
def ext : List ByteArray → List ByteArray → List ByteArray
  | us, [] => us
  | us, s :: L => ext (if kn us s then us else us ++ [s]) L
theorem plc_lt : ∀ {us : List ByteArray} {s : ByteArray}, s ∈ us → plc us s < us.length
  | x :: us, s, h => by
    rw [plc]
    by_cases e : x = s
    · rw [if_pos e]; exact Nat.zero_lt_succ _
    · rw [if_neg e]
      have := plc_lt (us := us) (s := s) ((List.mem_cons.1 h).resolve_left (fun k => e k.symm))
      simp only [List.length_cons]; omega
theorem plc_app : ∀ {us : List ByteArray} {s : ByteArray} (t : List ByteArray), s ∈ us → plc (us ++ t) s = plc us s
  | x :: us, s, t, h => by
    rw [List.cons_append, plc, plc]
    by_cases e : x = s
    · rw [if_pos e, if_pos e]
    · rw [if_neg e, if_neg e, plc_app t ((List.mem_cons.1 h).resolve_left (fun k => e k.symm))]
theorem plc_new : ∀ {us : List ByteArray} {s : ByteArray}, s ∉ us → plc (us ++ [s]) s = us.length
  | [], s, _ => by rw [List.nil_append, plc, if_pos rfl]; rfl
  | x :: us, s, h => by
    rw [List.mem_cons, not_or] at h
    rw [List.cons_append, plc, if_neg (fun e => h.1 e.symm), plc_new h.2]; rfl
theorem plc_inj : ∀ {us : List ByteArray} {s t : ByteArray}, s ∈ us → t ∈ us → plc us s = plc us t → s = t
  | x :: us, s, t, hs, ht, h => by
    rw [plc, plc] at h
    by_cases e : x = s
    · by_cases k : x = t
      · rw [← e, ← k]
      · rw [if_pos e, if_neg k] at h; omega
    · by_cases k : x = t
      · rw [if_neg e, if_pos k] at h; omega
      · rw [if_neg e, if_neg k] at h
        exact plc_inj ((List.mem_cons.1 hs).resolve_left (fun k => e k.symm)) ((List.mem_cons.1 ht).resolve_left (fun e => k e.symm)) (by omega)
theorem ext_pre : ∀ (L us : List ByteArray), ∃ t, ext us L = us ++ t
  | [], us => ⟨[], (List.append_nil _).symm⟩
  | s :: L, us => by
    rw [ext]
    obtain ⟨t, h⟩ := ext_pre L (if kn us s then us else us ++ [s])
    rw [h]
    split
    · exact ⟨t, rfl⟩
    · exact ⟨s :: t, by simp⟩
theorem ext_mem : ∀ (L us : List ByteArray), ∀ x ∈ L, x ∈ ext us L
  | s :: L, us, x, hx => by
    rw [ext]
    rcases List.mem_cons.1 hx with rfl | hx
    · obtain ⟨t, h⟩ := ext_pre L (if kn us x then us else us ++ [x])
      rw [h]
      refine List.mem_append_left _ ?_
      split
      · rename_i h; exact kn_yes.1 h
      · simp
    · exact ext_mem L _ x hx
theorem ext_snoc : ∀ (L us : List ByteArray) (s : ByteArray), ext us (L ++ [s]) = if kn (ext us L) s then ext us L else ext us L ++ [s]
  | [], us, s => rfl
  | y :: L, us, s => by rw [List.cons_append, ext, ext, ext_snoc L]
theorem ext_len : ∀ (L us : List ByteArray), (ext us L).length ≤ us.length + L.length
  | [], us => Nat.le_refl _
  | s :: L, us => by
    rw [ext]
    have := ext_len L (if kn us s then us else us ++ [s])
    have h2 : (if kn us s then us else us ++ [s]).length ≤ us.length + 1 := by split <;> simp
    simp only [List.length_cons]; omega
def nums (us L : List ByteArray) : List Int := L.map fun s => (plc us s : Int)
theorem nums_len (us L : List ByteArray) : (nums us L).length = L.length := List.length_map ..
theorem nums_app {us L : List ByteArray} (t : List ByteArray) (h : ∀ x ∈ L, x ∈ us) : nums (us ++ t) L = nums us L :=
  List.map_congr_left fun x hx => by rw [plc_app t (h x hx)]
/-- a map of known texts. -/
structure KM (w : World) (B : Nat) (us : List ByteArray) (D : DataW Unit) : Prop where
  own : w.ownsMap Try.prog 9 (plainElem Try.prog 3) B us.length D
  has : ∀ s : ByteArray, Go.Maps.has D (.string s.data.toList) = kn us s
  at_ : ∀ s ∈ us, D.atKey (.string s.data.toList) (.lit (.int .i64 0)) = .lit (.int .i64 (plc us s))
  size : Go.Maps.size D = us.length
  tidy : Go.Maps.Tidy D
theorem law : Keyed Try.prog 9 := string_keyed Try.underlying9
theorem zeroI (w : World) : (zeroValue 3).run Try.prog w = .ok (.int .i64 0) w := by kernel_rfl
theorem key_ne {s t : ByteArray} (h : t ≠ s) : (Lit.string t.data.toList) ≠ .string s.data.toList := fun e => h (bytes_eq (by injection e))
theorem KM.next {w w' : World} {B : Nat} {us : List ByteArray} {D : DataW Unit} (h : KM w B us D) {s : ByteArray} (hs : s ∉ us) (ho : w'.ownsMap Try.prog 9 (plainElem Try.prog 3) B (us.length + 1) (D.put (.string s.data.toList) (.lit (.int .i64 us.length)))) :
    KM w' B (us ++ [s]) (D.put (.string s.data.toList) (.lit (.int .i64 us.length))) := by
  have hm := h.tidy.isMap
  have hk : WideAt.IsKeyLit (.string s.data.toList) := trivial
  refine ⟨by rw [List.length_append]; exact ho, fun t => ?_, fun t ht => ?_, ?_, h.tidy.put hk _⟩
  · by_cases e : t = s
    · subst e; rw [has_put_same hm hk, kn_yes.2 (by simp)]
    · rw [has_put_other (key_ne e), h.has t]
      simp [kn, show s ≠ t from fun k => e k.symm]
  · by_cases e : t = s
    · subst e; rw [atKey_put_same hm hk, plc_new hs]
    · rw [atKey_put_other (key_ne e)]
      have ht' : t ∈ us := by simpa [e] using ht
      rw [h.at_ t ht', plc_app _ ht']
  · rw [size_put h.tidy, h.has s, kn_no.2 hs, h.size]; simp
theorem KM.made (w : World) : KM (w.alloc (.map #[] 0)) w.heap.size [] (.map []) :=
  ⟨World.ownsMap_made _ _ _ _, fun s => rfl, (fun s h => by cases h), rfl, tidy_empty⟩
theorem KM.kept {w w' : World} {B : Nat} {us : List ByteArray} {D : DataW Unit} {row : Option Nat} (h : KM w B us D) (hg : w.grownBy w' row) (hne : some B ≠ row) : KM w' B us D := ⟨h.own.kept hg hne, h.has, h.at_, h.size, h.tidy⟩
theorem grown_set (w : World) (a : Addr) (u : Value) : w.grownBy (w.setCell a u) (some a.block) :=
  ⟨rfl, rfl, rfl, by simp, fun k _ hk => heap_setCell_other w a k u (fun e => hk (by rw [e]))⟩
theorem grown_then {a b c : World} {row row' : Option Nat} (h : a.grownBy b row) (k : b.grownBy c row') (hr : ∀ j, row' = some j → a.heap.size ≤ j) : a.grownBy c row :=
  ⟨k.os.trans h.os, k.tape.trans h.tape, k.output.trans h.output, Nat.le_trans h.size k.size, fun i hi hne => (k.block i (Nat.lt_of_lt_of_le hi h.size) (fun e => by have := hr i e.symm; omega)).trans (h.block i hi hne)⟩
theorem KM.none_at {w : World} {B : Nat} {us : List ByteArray} {D : DataW Unit} (h : KM w B us D) (off : Nat) : w.cell? ⟨B, off, none⟩ = none := by
  obtain ⟨es, cl, hb, _⟩ := h.own
  simp [World.cell?, hb]
/-- what numbers' loop has done. -/
structure NI (w : World) (B : Nat) (us L : List ByteArray) (k : Nat) (wr : World) : Prop where
  row : ∃ r : List Int, r.length = L.length ∧ r.take k = nums (ext us (L.take k)) (L.take k) ∧ RowI .i64 3 wr w.heap.size r
  map : ∃ D, KM wr B (ext us (L.take k)) D
  grown : w.grownBy wr (some B)
theorem take_next {L : List ByteArray} {k : Nat} (h : k < L.length) : L.take (k + 1) = L.take k ++ [nth L k] := by
  rw [nth_lt h, List.take_succ_eq_append_getElem h]
theorem take_set {r : List Int} {k : Nat} {x : Int} (h : k < r.length) : (r.set k x).take (k + 1) = r.take k ++ [x] := by
  rw [List.take_succ_eq_append_getElem (by rw [List.length_set]; exact h), List.getElem_set_self]
  congr 1
  rw [List.take_set_of_le (Nat.le_refl _)]
theorem NI_in {w wr : World} {B : Nat} {us L : List ByteArray} {k : Nat} {r : List Int} {D : DataW Unit} (hp : k < L.length) (hrl : r.length = L.length) (hrt : r.take k = nums (ext us (L.take k)) (L.take k)) (hrow : RowI .i64 3 wr w.heap.size r)
    (hD : KM wr B (ext us (L.take k)) D) (hg : w.grownBy wr (some B)) (hB : B < w.heap.size) (hs : nth L k ∈ ext us (L.take k)) : NI w B us L (k + 1) (wr.setCell ⟨w.heap.size, k, none⟩ (.int .i64 (plc (ext us (L.take k)) (nth L k)))) := by
  have e : ext us (L.take (k + 1)) = ext us (L.take k) := by rw [take_next hp, ext_snoc, if_pos (kn_yes.2 hs)]
  have hk : wr.grownBy (wr.setCell ⟨w.heap.size, k, none⟩ (.int .i64 (plc (ext us (L.take k)) (nth L k)))) (some w.heap.size) := by
    exact grown_set _ ⟨w.heap.size, k, none⟩ _
  refine ⟨⟨_, by rw [List.length_set]; exact hrl, ?_, hrow.set k _⟩, ⟨D, ?_⟩, ?_⟩
  · rw [take_set (by omega), hrt, e, take_next hp, nums, nums, List.map_append]; rfl
  · rw [e]; exact hD.kept hk (by simp; omega)
  · exact grown_then hg hk (fun j hj => by cases hj; exact Nat.le_refl _)
theorem NI_out {w wr w1 : World} {B : Nat} {us L : List ByteArray} {k : Nat} {r : List Int} {D : DataW Unit} (hp : k < L.length) (hrl : r.length = L.length) (hrt : r.take k = nums (ext us (L.take k)) (L.take k)) (hrow : RowI .i64 3 wr w.heap.size r)
    (hD : KM wr B (ext us (L.take k)) D) (hg : w.grownBy wr (some B)) (hB : B < w.heap.size) (hs : nth L k ∉ ext us (L.take k))
    (ho : w1.ownsMap Try.prog 9 (plainElem Try.prog 3) B ((ext us (L.take k)).length + 1) (D.put (.string (nth L k).data.toList) (.lit (.int .i64 (ext us (L.take k)).length)))) (hg1 : wr.grownBy w1 (some B)) :
    NI w B us L (k + 1) (w1.setCell ⟨w.heap.size, k, none⟩ (.int .i64 (ext us (L.take k)).length)) := by
  have e : ext us (L.take (k + 1)) = ext us (L.take k) ++ [nth L k] := by rw [take_next hp, ext_snoc, if_neg (by rw [kn_no.2 hs]; decide)]
  have hk : w1.grownBy (w1.setCell ⟨w.heap.size, k, none⟩ (.int .i64 (ext us (L.take k)).length)) (some w.heap.size) := grown_set _ ⟨w.heap.size, k, none⟩ _
  have hrow1 : RowI .i64 3 w1 w.heap.size r := hrow.block (hg1.block _ hrow.lt (by simp; omega))
  refine ⟨⟨_, by rw [List.length_set]; exact hrl, ?_, hrow1.set k _⟩, ⟨D.put (.string (nth L k).data.toList) (.lit (.int .i64 (ext us (L.take k)).length)), ?_⟩, ?_⟩
  · rw [take_set (by omega), hrt, e, take_next hp]
    rw [← nums_app (L := L.take k) [nth L k] (ext_mem _ _)]
    simp only [nums, List.map_append, List.map_cons, List.map_nil, plc_new hs]
  · rw [e]; exact (hD.next hs ho).kept hk (by simp; omega)
  · exact grown_then (hg.trans hg1) hk (fun j hj => by cases hj; exact Nat.le_refl _)
set_option maxHeartbeats 1000000 in
theorem numbers_any (L us : List ByteArray) (v : Value) (B : Nat) (w : World) (hR : RdT L v w) (hK : ∃ D, KM w B us D) (hn : L.length ≤ 1024) (hz : ∀ x ∈ L, x.size ≤ 100000) (hu : us.length ≤ 1024) :
    Calls Try.prog 20 #[v, .map (some B)] w fun e w' => ∃ g, e = .returned (.slice (some ⟨g, 0, none⟩) L.length L.length) ∧ w.heap.size ≤ g ∧ RowI .i64 3 w' g (nums (ext us L) L) ∧ (∃ D, KM w' B (ext us L) D) ∧ w.grownBy w' (some B) := by
  obtain ⟨A, c, rfl, hc, hk⟩ := hR
  obtain ⟨n, hn0⟩ : ∃ n, n = L.length := ⟨_, rfl⟩
  rw [← hn0] at hn ⊢
  have hmk := mk_ints n (by omega)
  obtain ⟨D, hD⟩ := hK
  have hB : B < w.heap.size := hD.own.lt
  have Hst : Hid (NI w B us L 0 (w.alloc (.cells (iv .i64 (List.replicate n 0)) 3))) := by
    refine ⟨⟨_, by simp [hn0], rfl, row_new _ _ _ _⟩, ⟨D, ?_⟩, World.grownBy_alloc w _ _⟩
    exact hD.kept (World.grownBy_alloc w _ none) (by simp)
  have Hk := Lib.hid hk
  have Hn := Lib.hid hn0
  have Hz := Lib.hid hz
  have Hu := Lib.hid hu
  have HB := Lib.hid hB
  have HD : Hid (∃ D, KM w B us D) := ⟨D, hD⟩
  clear hk hn0 hz hu hD hB hc
  go_enter Try.func20, Try.ntmps20
  go_wp2
  clear hmk
  go_loopw [15] (fun i wr => ∃ (k : Nat), i = .int .i64 k ∧ k ≤ n ∧ Hid (NI w B us L k wr)) (fun i _ => n - (intOf i).toNat)
  case atStart => exact ⟨0, rfl, Nat.zero_le _, Hst⟩
  case round =>
    obtain ⟨k, rfl, hk, HI⟩ := hrel
    by_cases hp : k < n
    · have hpI : (k : Int) < n := by omega
      have hpl : k < L.length := by rw [← Hn.out]; exact hp
      obtain ⟨⟨r, hrl, hrt, hrow⟩, ⟨D, hD⟩, hgr⟩ := HI.out
      obtain ⟨gA, off, rfl, hg, hcell⟩ := Hk.out (by rw [← Hn.out]; omega)
      have hneB : gA ≠ B := fun e => by
        have h1 := hcell k hpl
        rw [e] at h1
        obtain ⟨D0, hD0⟩ := HD.out
        rw [hD0.none_at] at h1
        cases h1
      obtain ⟨s, hs⟩ : ∃ s, s = nth L k := ⟨_, rfl⟩
      have hc1 : wr.cell? ⟨gA, off + k, none⟩ = some (.string s) := by rw [hs]; exact hgr.cell (hcell k hpl) (by simpa using hneB)
      have hkey : keyOf Try.prog 9 (.string s) = some (.string s.data.toList) := Go.WideMaps.keyOf_string_mk Try.underlying9 (by rw [hs]; have := Hz.out _ (nth_mem hpl); unfold maxLen; omega)
      have hr1 := hrow.cell k (by omega)
      have hr2 := hrow.free k
      have hu9 : (ext us (L.take k)).length ≤ 2048 := by have := ext_len (L.take k) us; have := Hu.out; rw [List.length_take] at *; omega
      obtain ⟨us1, hus⟩ : ∃ us1, us1 = ext us (L.take k) := ⟨_, rfl⟩
      rw [← hus] at hD hu9 hrt
      cases hkn : kn us1 s
      · have hhas := Lib.hid ((hD.has s).trans hkn)
        have hown := hD.own
        have hsz := Lib.hid hD.size
        have Hnx : Hid (∀ w1 : World, w1.ownsMap Try.prog 9 (plainElem Try.prog 3) B (us1.length + 1) (D.put (.string s.data.toList) (.lit (.int .i64 us1.length))) → wr.grownBy w1 (some B) → NI w B us L (k + 1) (w1.setCell ⟨w.heap.size, k, none⟩ (.int .i64 us1.length))) := by
          intro w1 ho1 hg1
          have := NI_out (w1 := w1) hpl hrl (by rw [hrt, hus]) hrow (by rw [← hus]; exact hD) hgr HB.out (by rw [← hus, ← hs]; exact kn_no.1 hkn) (by rw [← hus, ← hs]; exact ho1) hg1
          rw [← hus] at this
          exact this
        have Hr1 : Hid (∀ w1 : World, wr.grownBy w1 (some B) → w1.cell? ⟨w.heap.size, k, none⟩ = some (.int .i64 (r.getD k 0)) ∧ w1.frozen? ⟨w.heap.size, k, none⟩ = false) := fun w1 hg1 => by
          have hrow1 : RowI .i64 3 w1 w.heap.size r := hrow.block (hg1.block _ hrow.lt (by simp; have := HB.out; omega))
          exact ⟨hrow1.cell k (by omega), hrow1.free k⟩
        obtain ⟨m1, hm1⟩ : ∃ m1, m1 = us1.length := ⟨_, rfl⟩
        rw [← hm1] at Hnx hown hsz hu9
        have hwf : (Lit.int .i64 (m1 : Int)).wf = true := WalkArith.wf_i64 (by omega)
        clear hs hus hkn hgr hrl hrt hcell hrow hD hr1 hr2 hm1
        go_wp2_with (first
          | (at_lookup; refine wpList_lookup_own_ok_int _ rfl _ _ 45 rfl 9 3 .i64 law Try.underlying45 Try.underlying3 (zeroI _) B _ D rfl hown _ _ rfl hkey ?_; intro c2 hat hwc; rw [hhas.out]; clear hat hwc)
          | (at_len; refine wpList_len_own _ rfl _ 45 rfl 9 3 Try.underlying45 _ B _ D rfl hown ?_; rw [hsz.out])
          | (at_mapUpdate; refine wpList_mapUpdate_own _ rfl _ _ _ 45 rfl 9 3 law Try.underlying45 _ B m1 D rfl hown (by unfold maxLen; omega) _ _ _ rfl rfl hkey _ [] (plainElem_int Try.underlying3 hwf) ?_; intro w1 hown1 hg1; have Hn1 := Lib.hid (Hnx.out w1 hown1 hg1); obtain ⟨hr1, hr2⟩ := Hr1.out w1 hg1; clear hown1 hg1)
          | go_in)
        go_roundw
        case rel => exact ⟨k + 1, by go_num, by omega, Hn1⟩
        case measure => simp [intOf]; omega
      · have hhas := Lib.hid ((hD.has s).trans hkn)
        have Hat := Lib.hid (hD.at_ s (kn_yes.1 hkn))
        have hown := hD.own
        have Hnx := Lib.hid (NI_in hpl hrl (by rw [hrt, hus]) hrow (by rw [← hus]; exact hD) hgr HB.out (by rw [← hus, ← hs]; exact kn_yes.1 hkn))
        rw [← hus, ← hs] at Hnx
        obtain ⟨q, hq⟩ : ∃ q : Int, q = plc us1 s := ⟨_, rfl⟩
        rw [← hq] at Hat Hnx
        have Hs := Lib.hid hs
        clear hs hus hq hkn hgr hrl hrt hcell hrow hD
        go_wp2_with (first
          | (at_lookup; refine wpList_lookup_own_ok_int _ rfl _ _ 45 rfl 9 3 .i64 law Try.underlying45 Try.underlying3 (zeroI _) B _ D rfl hown _ _ rfl hkey ?_; intro c2 hat hwc; rw [hhas.out]; rw [Hat.out] at hat; obtain rfl : q = c2 := by injection hat with h; injection h)
          | go_in)
        go_roundw
        case rel => exact ⟨k + 1, by go_num, by omega, Hnx⟩
        case measure => simp [intOf]; omega
    · have hpI : ¬ (k : Int) < n := by omega
      obtain rfl : k = n := by omega
      obtain ⟨⟨r, hrl, hrt, hrow⟩, hD, hgr⟩ := HI.out
      have e : L.take k = L := by rw [Hn.out]; exact List.take_length
      have e2 : r.take k = r := by rw [Hn.out, ← hrl]; exact List.take_length
      rw [e, e2] at hrt
      rw [e] at hD
      rw [hrt] at hrow
      have Hq := Lib.hid (And.intro hrow (And.intro hD hgr))
      clear hrt hrow hD hgr e e2 HI
      go_wp2
      go_ret
      exact ⟨_, rfl, Nat.le_refl _, Hq.out.1, Hq.out.2.1, Hq.out.2.2⟩
end Go.Proofs.Ytnpbogioehpeoaa.Myr
