/- DERIVED. Texts of ours, merged: XSltKeep XSltAll XSltMath XSltWrite. -/
import Derived.Test.YtkjhoanlkkcfkaaGreatDoorMseg17
import Derived.StillTailTactics
import Derived.Deep.DeepCutAuto
import Derived.Test.YtkjhoanlkkcfkaaGreatDoorMseg15
import Derived.Test.YtkjhoanlkkcfkaaGreatDoorMseg16
/- DERIVED. The contract of slots.Log.keep (mkkeep.py writes this text out of keep.txt). -/
namespace Go.Proofs.YtkjhoanlkkcfkaaGreatDoor.Slt
open Go.RowKit Dsk
/-- the world of the region that appends a record: the append is operation 8, the store 11. -/
structure RK (g : Nat) (C : Array Value) (u : Value) (W : World) (ll : Array Bool) (wx : World) : Prop where
  chg : Chg (g :: u.ownBlock.toList) W wx
  low : ll.getD 8 false = false → ll.getD 11 false = false → Below W.heap.size W wx
  row : ll.getD 11 false = false → wx.heap[g]? = some (.cells C 128 (0, 0))
section
variable {g : Nat} {C : Array Value} {u : Value} {W wx w' : World} {ll : Array Bool}
theorem RK.start {n : Nat} (h : W.heap[g]? = some (.cells C 128 (0, 0))) : RK g C u W (Array.replicate n false) W.drew :=
  ⟨Chg.of_below (Below.refl _ _).drew, fun _ _ => (Below.refl _ _).drew, fun _ => h⟩
theorem RK.same {i : Nat} (h : RK g C u W ll wx) (h8 : i ≠ 8) (h11 : i ≠ 11) : RK g C u W (ll.setIfInBounds i true) wx :=
  ⟨h.chg, by rw [getD_set_ne false h8, getD_set_ne false h11]; exact h.low, by rw [getD_set_ne false h11]; exact h.row⟩
theorem RK.call {i : Nat} (h : RK g C u W ll wx) (hg : g < W.heap.size) (h8 : i ≠ 8) (h11 : i ≠ 11) (hb : Below wx.heap.size wx w') : RK g C u W (ll.setIfInBounds i true) w' := by
  refine ⟨h.chg.trans (Chg.of_below hb), ?_, ?_⟩
  · rw [getD_set_ne false h8, getD_set_ne false h11]
    exact fun a b => (h.low a b).trans (hb.mono h.chg.size)
  · rw [getD_set_ne false h11]
    exact fun a => (hb.block _ (Nat.lt_of_lt_of_le hg h.chg.size)).trans (h.row a)
theorem RK.app (h : RK g C u W ll wx) (hg : g < W.heap.size) (hu : u.ownBlock ≠ some g) (hs : 8 < ll.size) (hg' : wx.grownBy w' u.ownBlock) : RK g C u W (ll.setIfInBounds 8 true) w' := by
  refine ⟨h.chg.trans ((chg_grown hg').mono (fun k hk => .inl (by simp at hk; simp [hk]))), fun a => by simp [hs] at a, ?_⟩
  rw [getD_set_ne false (by decide)]
  exact fun a => (hg'.block _ (Nat.lt_of_lt_of_le hg h.chg.size) (fun e => hu e.symm)).trans (h.row a)
theorem RK.store {z : Value} (h : RK g C u W ll wx) (hs : 11 < ll.size) (h8 : ll.getD 8 false = true) : RK g C u W (ll.setIfInBounds 11 true) (wx.setCell ⟨g, 5, none⟩ z) := by
  refine ⟨h.chg.setCell (by simp) z, ?_, fun a => by simp [hs] at a⟩
  intro a
  rw [getD_set_ne false (by decide), h8] at a
  cases a
end
/-- the record's copy. -/
structure YX (t : List Int) (B : Nat) (y : Value) (w : World) : Prop where
  sl : SlB t y w
  own : ∀ q, y.ownBlock = some q → B ≤ q ∧ q < w.heap.size
  one : y.oneCell' = true
theorem YX.chg {t : List Int} {B : Nat} {y : Value} {w w' : World} {S : List Nat} (h : YX t B y w) (hc : Chg S w w') (hS : ∀ q ∈ S, q < B) : YX t B y w' := by
  obtain ⟨A, c, rfl, hB⟩ := h.sl
  exact ⟨⟨A, c, rfl, hB.chg hc (fun a ha hm => by have := h.own a.block (by rw [ha]; rfl); have := hS _ hm; omega)⟩, fun q hq => ⟨(h.own q hq).1, Nat.lt_of_lt_of_le (h.own q hq).2 hc.size⟩, rfl⟩
theorem YX.later {t : List Int} {B : Nat} {y : Value} {w w' : World} (h : YX t B y w) (hb : Below w.heap.size w w') : YX t B y w' := h.chg (S := []) (Chg.of_below hb) (by simp)
theorem YX.new {t : List Int} {B : Nat} {y : Value} {w : World} (ho : w.ownsRow B 5 1 y t.length (vals t)) (hs : SlB t y w) : YX t B y w := ⟨hs, fun q hq => ho.lt q hq, by obtain ⟨A, c, rfl, _⟩ := hs; rfl⟩
/-- a slice in a block of its own, as a slice of one. -/
def NX (y z : Value) (w : World) : Prop := ∃ N, z = .slice (some ⟨N, 0, none⟩) 1 1 ∧ w.heap[N]? = some (.cells #[y] 38 (0, 0))
theorem NX.new {y v : Value} {N : Nat} {w : World} (hv : y = v) (h : w.heap[N]? = some (.cells #[v] 38 (0, 0))) : NX y (.slice (some ⟨N, 0, none⟩) 1 1) w := ⟨N, rfl, by rw [hv]; exact h⟩
theorem NX.later {y z : Value} {w w' : World} (h : NX y z w) (hb : Below w.heap.size w w') : NX y z w' := by
  obtain ⟨N, h1, h2⟩ := h
  exact ⟨N, h1, (hb.block _ (Array.getElem?_eq_some_iff.1 h2).1).trans h2⟩
/-- the row that the append leaves; its block is the old one's, or new. -/
structure OX (n : Nat) (ts : List Value) (u : Value) (B : Nat) (y z : Value) (w : World) : Prop where
  own : w.ownsRow 0 38 1 z (n + 1) (ts ++ [y])
  blk : z.ownBlock = u.ownBlock ∨ ∃ q, z.ownBlock = some q ∧ B ≤ q ∧ (∀ r, y.ownBlock = some r → r ≠ q)
  one : z.oneCell' = true
theorem OX.new {n : Nat} {ts t : _} {u y z : Value} {B : Nat} {w w' : World} (ho : w'.ownsRow 0 38 1 z (n + 1) (ts ++ [y])) (hb : z.ownBlock = u.ownBlock ∨ z.ownBlock = some w.heap.size) (hy : YX t B y w) (hB : B ≤ w.heap.size) : OX n ts u B y z w' :=
  ⟨ho, hb.imp id (fun e => ⟨_, e, hB, fun r hr => by have := hy.own r hr; omega⟩), by rcases ho.2 with ⟨rfl, _⟩ | ⟨g, cap, cur, rfl, _⟩ <;> rfl⟩
theorem OX.ne {n : Nat} {ts : List Value} {u y z : Value} {B g : Nat} {w : World} (h : OX n ts u B y z w) (hu : u.ownBlock ≠ some g) (hg : g < B) : z.ownBlock ≠ some g := by
  rcases h.blk with e | ⟨q, e, hq, _⟩
  · rw [e]; exact hu
  · rw [e]; intro h; cases h; omega
theorem OX.later {n : Nat} {ts : List Value} {u : Value} {B : Nat} {y z : Value} {w w' : World} (h : OX n ts u B y z w) (hb : Below w.heap.size w w') : OX n ts u B y z w' := ⟨own_stays h.own hb, h.blk, h.one⟩
/-- what the store leaves. -/
structure AX (g : Nat) (C : Array Value) (n : Nat) (ts : List Value) (u : Value) (B : Nat) (y z v : Value) (w : World) : Prop where
  row : w.heap[g]? = some (.cells (C.setIfInBounds 5 z) 128 (0, 0))
  ox : OX n ts u B y z w
theorem AX.later {g : Nat} {C : Array Value} {n : Nat} {ts : List Value} {u : Value} {B : Nat} {y z v : Value} {w w' : World} (h : AX g C n ts u B y z v w) (hb : Below w.heap.size w w') : AX g C n ts u B y z v w' :=
  ⟨(hb.block _ (Array.getElem?_eq_some_iff.1 h.row).1).trans h.row, h.ox.later hb⟩
theorem own_one {w : World} {base n : Nat} {t : TypeId} {v : Value} {L : List Value} {s : Nat} (h : w.ownsRow base t s v n L) : v.oneCell' = true := by
  rcases h.2 with ⟨rfl, _⟩ | ⟨g, cap, cur, rfl, _⟩ <;> rfl
theorem OX.set {n : Nat} {ts : List Value} {u : Value} {B g k : Nat} {y z x : Value} {w : World} (h : OX n ts u B y z w) (hz : z.ownBlock ≠ some g) : OX n ts u B y z (w.setCell ⟨g, k, none⟩ x) :=
  ⟨own_chg h.own ((Chg.refl [g] _).setCell (by simp) x) (fun q hq => by simp; rintro rfl; exact hz hq), h.blk, h.one⟩
theorem AX.new {g n B : Nat} {C : Array Value} {ts : List Value} {u y z v x : Value} {wx : World} (h8 : OX n ts u B y z wx) (hz : z.ownBlock ≠ some g) (hr : wx.heap[g]? = some (.cells C 128 (0, 0))) (hv : z = v) : AX g C n ts u B y z x (wx.setCell ⟨g, 5, none⟩ v) := by
  subst hv
  exact ⟨heap_setCell_same _ _ _ _ _ _ hr, h8.set hz⟩
theorem _root_.Go.Proofs.YtkjhoanlkkcfkaaGreatDoor.Whu.never {l : Array Bool} {i k q : Nat} {p : Value → World → Prop} {v : Value} {w : World} (hne : i ≠ k) (h : l.getD i false = true → l.getD k false = true) (hu : l.getD k false = false) : Whu (l.setIfInBounds k true) i q p v w := fun hl _ => by
  have := h ((getD_listed hl).resolve_left hne)
  rw [this] at hu
  cases hu
/-- what keep leaves. -/
structure Kept0 (K : DK) (J : LK) (S : LS) (t : List Int) (w : World) (J' : LK) (w' : World) : Prop where
  g : J'.g = J.g
  lg0 : Lg0 w' K J' { S with used := S.used + tk t.length, texts := S.texts ++ [t] }
  chg : Chg J.bl w w'
  bl : ∀ q ∈ J'.bl, q ∈ J.bl ∨ w.heap.size ≤ q
  tx : ∀ q ∈ J'.tx, q ∈ J.tx ∨ w.heap.size ≤ q
structure Kept (K : DK) (J : LK) (S : LS) (t : List Int) (w : World) (J' : LK) (w' : World) : Prop extends Kept0 K J S t w J' w' where
  lg : Lg w' K J' { S with used := S.used + tk t.length, texts := S.texts ++ [t] }
theorem kept_of {w w' : World} {K : DK} {J : LK} {S : LS} {t : List Int} {y z : Value} (h : Lg0 w K J S) (hK : ∀ q ∈ K.bl, q < w.heap.size) (ht : InB t) (hl : t.length ≤ 262144)
    (hr : w'.heap[J.g]? = some (.cells (rowL K ⟨J.g, z, J.ts ++ [y]⟩ { S with used := S.used + tk t.length, texts := S.texts ++ [t] }) 128 (0, 0))) (ho : OX S.texts.length J.ts J.v w.heap.size y z w') (hy : YX t w.heap.size y w') (hc : Chg J.bl w w') : Kept0 K J S t w ⟨J.g, z, J.ts ++ [y]⟩ w' := by
  have hbl : ∀ q ∈ (⟨J.g, z, J.ts ++ [y]⟩ : LK).bl, q ∈ J.bl ∨ w.heap.size ≤ q := by
    intro q hq
    simp only [LK.bl, List.mem_cons, Option.mem_toList] at hq ⊢
    rcases hq with rfl | hq
    · exact .inl (.inl rfl)
    · rcases ho.blk with e | ⟨q', e, hq', _⟩
      · rw [e] at hq; exact .inl (.inr hq)
      · rw [e] at hq; cases hq; exact .inr hq'
  have htx : ∀ q ∈ (⟨J.g, z, J.ts ++ [y]⟩ : LK).tx, q ∈ J.tx ∨ (y.ownBlock = some q) := by
    intro q hq
    simp only [LK.tx, List.flatMap_append, List.mem_append, List.flatMap_cons, List.flatMap_nil, List.append_nil, Option.mem_toList] at hq ⊢
    exact hq
  have hbw : ∀ q ∈ J.bl, q < w.heap.size := by
    intro q hq
    simp only [LK.bl, List.mem_cons, Option.mem_toList] at hq
    rcases hq with rfl | hq
    · exact h.glt
    · exact (h.own.lt q hq).2
  have hz : z.ownBlock ≠ some J.g := ho.ne (fun e => h.gv _ e rfl) h.glt
  refine ⟨rfl, ⟨hr, by rw [List.length_append]; exact ho.own, fun q hq e => hz (by rw [← e]; exact hq), ?_, ?_, ?_, ?_, ?_⟩, hc, hbl, fun q hq => (htx q hq).imp id (fun e => (hy.own q e).1)⟩
  · intro i hi
    simp only [List.length_append, List.length_cons, List.length_nil] at hi
    by_cases e : i < S.texts.length
    · have h1 : (S.texts ++ [t]).getD i [] = S.texts.getD i [] := by simp [List.getD_eq_getElem?_getD, List.getElem?_append_left e]
      have h2 : (J.ts ++ [y]).getD i undef = J.ts.getD i undef := by simp [List.getD_eq_getElem?_getD, List.getElem?_append_left (show i < J.ts.length by rw [h.len]; exact e)]
      simp only [h1, h2]
      obtain ⟨A, c, e1, hB⟩ := h.txt i e
      exact ⟨A, c, e1, hB.chg hc (fun a ha => (h.tap _ (mem_tx (by rw [e1, ha]) (by rw [h.len]; exact e))).2)⟩
    · obtain rfl : i = S.texts.length := by omega
      have h1 : (S.texts ++ [t]).getD S.texts.length [] = t := by simp [List.getD_eq_getElem?_getD]
      have h2 : (J.ts ++ [y]).getD S.texts.length undef = y := by rw [← h.len]; simp [List.getD_eq_getElem?_getD]
      simp only [h1, h2]
      exact hy.sl
  · intro q hq
    rcases htx q hq with a | a
    · exact Nat.lt_of_lt_of_le (h.tlt q a) hc.size
    · exact (hy.own q a).2
  · intro q hq
    rcases htx q hq with a | a
    · refine ⟨(h.tap q a).1, fun hm => ?_⟩
      rcases hbl q hm with b | b
      · exact (h.tap q a).2 b
      · have := h.tlt q a; omega
    · have hge := (hy.own q a).1
      refine ⟨fun hm => by have := hK q hm; omega, fun hm => ?_⟩
      simp only [LK.bl, List.mem_cons, Option.mem_toList] at hm
      rcases hm with rfl | hm
      · have := h.glt; omega
      · rcases ho.blk with e | ⟨q', e, _, hn⟩
        · rw [e] at hm; have := (h.own.lt q hm).2; omega
        · rw [e] at hm; cases hm; exact hn q a rfl
  · intro q hq hm
    rcases hbl q hq with b | b
    · exact h.kap q b hm
    · have := hK q hm; omega
  · intro x hx
    rcases List.mem_append.1 hx with a | a
    · exact h.inb x a
    · simp at a; subst a; exact ⟨ht, hl⟩
set_option maxRecDepth 100000 in
set_option maxHeartbeats 4000000 in
theorem keep0 {w : World} {K : DK} {J : LK} {S : LS} (h : Lg0 w K J S) (hK : ∀ q ∈ K.bl, q < w.heap.size) {t : List Int} {v : Value} (hv : SlB t v w) (ht : InB t) (hl : t.length ≤ 262144) (hn : S.texts.length ≤ 100000) (hus : S.used ≤ 1000000000) :
    Calls Tryz.prog 80 #[J.ptr, v] w fun e w' => e = .returned (.tuple #[]) ∧ ∃ J', Kept0 K J S t w J' w' := by
  have hrow := h.row
  have hg := h.glt
  have hown := h.own
  have hug : J.v.ownBlock ≠ some J.g := fun e => h.gv _ e rfl
  have hub : ∀ q, J.v.ownBlock = some q → q < w.heap.size := fun q hq => (hown.lt q hq).2
  have H := Lib.hid h
  have HK := Lib.hid hK
  have Hl := Lib.hid hl
  have Ht := Lib.hid ht
  obtain ⟨C, hC⟩ : ∃ C, C = rowL K J S := ⟨_, rfl⟩
  rw [← hC] at hrow
  have c5 : C[5]? = some J.v := by rw [hC]; rfl
  have c4 : C[4]? = some (.int .i64 S.used) := by rw [hC]; rfl
  have hCs : C.size = 7 := by rw [hC]; rfl
  obtain ⟨A, c, rfl, hB⟩ := hv
  obtain ⟨n, hn'⟩ : ∃ n, n = t.length := ⟨_, rfl⟩
  rw [← hn'] at hl ⊢
  have HC := Lib.hid hC
  have HN := Lib.hid hn'
  have Hrow := Lib.hid hrow
  have Hg := Lib.hid hg
  have Hown := Lib.hid hown
  have Hug := Lib.hid hug
  have Hub := Lib.hid hub
  have Hn := Lib.hid hn
  have C5 := Lib.hid c5
  have C4 := Lib.hid c4
  have HCs := Lib.hid hCs
  have HB := Lib.hid hB
  have Hsec := Lib.hid (fun w => (sectorsOf_any n (by omega) w).mono (fun (e : Ending) w' (h : e = .returned (.int .i64 (tk n : Nat)) ∧ w = w') => (⟨h.1, h.2.symm⟩ : e = .returned (.int .i64 (tk n : Nat)) ∧ w' = w)))
  have hlI : (n : Int) ≤ 262144 := by omega
  have htk : tk n ≤ 3000 := by unfold tk; omega
  obtain ⟨u, hu⟩ : ∃ u, u = S.used := ⟨_, rfl⟩
  rw [← hu] at C4 hus
  have Hu := Lib.hid hu
  obtain ⟨k, hk⟩ : ∃ k, k = tk n := ⟨_, rfl⟩
  rw [← hk] at Hsec htk
  have HKk := Lib.hid hk
  have hKsub : ∀ q ∈ (J.g :: J.v.ownBlock.toList), q < w.heap.size := by
    intro q hq
    simp at hq
    rcases hq with rfl | hq
    · exact hg
    · exact hub q hq
  have Hsub := Lib.hid hKsub
  have hT : ∀ wx, Chg (J.g :: J.v.ownBlock.toList) w wx → (∀ l11 : Bool, True) → True := fun _ _ _ => trivial
  clear hT
  unfold LK.ptr
  clear h hK hl ht hC hn' hrow hg hown hug hub hn c5 c4 hCs hB hu hk hKsub
  go_enter Tryz.func80, Tryz.ntmps80
  go_upto_region 0 with (fail)
  have apx : apartB [4, 5, 6, 7, 8, 9, 10, 11, 12, 13, 14, 1011] = true := by decide
  refine wp_region_any (by kernel_rfl) ?_
  change wpAny _ _ _ _ _ _ _ (World.drew _)
  refine wpAny_inv2 (fun ll aa wx => Hid (ll.size = 12 ∧ RK J.g C J.v w ll wx) ∧ ∃ (z : Nat → Value), Hid (aa = ⟨#[.pointer (some ⟨J.g, 0, none⟩), .slice A n c, undef, undef, z 4, z 5, z 6, z 7, z 8, z 9, z 10, z 11, z 12, z 13, z 14, undef, undef, undef, undef, undef, undef, undef, undef, undef, undef], []⟩) ∧ Holding [4, 5, 6, 7, 8, 9, 10, 11, 12, 13, 14, 1011] [some (.pointer (some ⟨J.g, 0, none⟩)), some (.pointer (some ⟨J.g, 0, none⟩)), some (.pointer (some ⟨J.g, 0, none⟩)), some (.pointer (some ⟨J.g, 5, none⟩)), some (J.v), some (.slice A n c), none, none, none, some (.pointer (some ⟨J.g, 0, none⟩)), some (.pointer (some ⟨J.g, 5, none⟩)), none] ll z ∧ Whn ll 6 (YX t w.heap.size) (z 10) wx ∧ Whu ll 7 8 (NX (z 10)) (z 11) wx ∧ Whu ll 8 11 (OX S.texts.length J.ts J.v w.heap.size (z 10)) (z 12) wx ∧ Whn ll 11 (AX J.g C S.texts.length J.ts J.v w.heap.size (z 10) (z 12)) (z 1011) wx) ?_ (by kernel_rfl) ?_ ?_ _ rfl _ _ ?_
  · rintro ll aa wx ⟨hI, _⟩
    exact hI.out.1
  · rintro ll aa wx ⟨hI, z, ha, hz, hp6, hp7, hp8, hp11⟩ hall
    have hx := Lib.hid hI.out.2
    have e0 : z 4 = .pointer (some ⟨J.g, 0, none⟩) := hz 0 _ (hall 0 (by decide)) rfl
    have e1 : z 5 = .pointer (some ⟨J.g, 0, none⟩) := hz 1 _ (hall 1 (by decide)) rfl
    have e2 : z 6 = .pointer (some ⟨J.g, 0, none⟩) := hz 2 _ (hall 2 (by decide)) rfl
    have e3 : z 7 = .pointer (some ⟨J.g, 5, none⟩) := hz 3 _ (hall 3 (by decide)) rfl
    have e4 : z 8 = J.v := hz 4 _ (hall 4 (by decide)) rfl
    have e5 : z 9 = .slice A n c := hz 5 _ (hall 5 (by decide)) rfl
    have e9 : z 13 = .pointer (some ⟨J.g, 0, none⟩) := hz 9 _ (hall 9 (by decide)) rfl
    have e10 : z 14 = .pointer (some ⟨J.g, 5, none⟩) := hz 10 _ (hall 10 (by decide)) rfl
    have p6 := hp6.get (hall 6 (by decide))
    have p11 := hp11.get (hall 11 (by decide))
    clear hall hz hI hp6 hp7 hp8 hp11
    obtain rfl := ha.out
    clear ha
    clear apx
    have P6 := Lib.hid p6
    have P11 := Lib.hid p11
    have HX := Lib.hid hx.out.chg
    clear p6 p11 hx e0 e1 e2 e3 e4 e5 e9 e10
    generalize z 10 = y at *
    generalize z 12 = zz at *
    generalize z 11 = y11
    generalize z 1011 = y1011 at *
    generalize z 4 = y4
    generalize z 5 = y5
    generalize z 6 = y6
    generalize z 7 = y7
    generalize z 8 = y8
    generalize z 9 = y9
    generalize z 13 = y13
    generalize z 14 = y14
    try dsimp only
    have hr1 := P11.out.row
    have c5 := cell_row hr1 4
    rw [Array.getElem?_setIfInBounds, if_neg (by decide), C4.out] at c5
    have f5 := free_row hr1 4
    clear z
    go_upto_region 1 with (fail)
    refine wp_region_still_tail 10 (by kernel_rfl) (by kernel_rfl) ?_
    simp only [List.take_succ_cons, List.take_zero, List.drop_succ_cons, List.drop_zero]
    change wpStill _ _ wx.drew _ _ _
    have hr2 : wx.drew.heap[J.g]? = some (.cells (C.setIfInBounds 5 zz) 128 (0, 0)) := hr1
    have c52 : wx.drew.cell? ⟨J.g, 4, none⟩ = some (.int .i64 u) := c5
    have f52 : wx.drew.frozen? ⟨J.g, 4, none⟩ = false := f5
    repeat (first
      | (refine wpStill_step (fun K hK => ?_); go_simp; refine hK _ ?_; clear hK K)
      | (refine wpStill_step (fun K hK => ?_); go_simp; refine ⟨_, Hsec.out _, hK _ ?_⟩; clear hK K))
    refine wpStill_nil ?_
    change wpList _ _ _ _ _ wx.drew
    have hc2 := HX.out.trans (Chg.of_below (Below.refl wx.heap.size wx).drew)
    have p62 := P6.out.later (Below.refl wx.heap.size wx).drew
    have ox2 := P11.out.ox.later (Below.refl wx.heap.size wx).drew
    generalize wx.drew = w4 at hr2 c52 f52 hc2 p62 ox2 ⊢
    have Hr2 := Lib.hid hr2
    have Hc2 := Lib.hid hc2
    have P62 := Lib.hid p62
    have Ox2 := Lib.hid ox2
    clear hr2 hc2 p62 ox2 hr1 c5 f5 P6 P11 HX
    go_wp2
    refine bodyPost_end (results_none rfl _ _ _) rfl ?_
    have hz := Ox2.out.ne Hug.out Hg.out
    refine ⟨rfl, ⟨J.g, zz, J.ts ++ [y]⟩, ?_⟩
    rw [HN.out] at HKk
    have hk4 : ((u : Int) + (k : Int)) = ((S.used + tk t.length : Nat) : Int) := by rw [← HKk.out, ← Hu.out]; omega
    refine kept_of H.out HK.out Ht.out Hl.out ?_ (Ox2.out.set hz) (P62.out.chg ((Chg.refl [J.g] _).setCell (by simp) _) (fun q hq => by simp at hq; rw [hq]; exact Hg.out)) (Hc2.out.setCell (by simp) _)
    rw [heap_setCell_same _ _ _ _ _ _ Hr2.out, HC.out, hk4]
    rfl
  · rintro ll aa wx i ⟨hI, z, ha, hz, hp6, hp7, hp8, hp11⟩ hcl hi hu hw
    obtain rfl := ha.out
    have hsz := Lib.hid hI.out.1
    have hx := Lib.hid hI.out.2
    clear ha hI
    have hin : i < 12 := hi
    obtain rfl | rfl | rfl | rfl | rfl | rfl | rfl | rfl | rfl | rfl | rfl | rfl : i = 0 ∨ i = 1 ∨ i = 2 ∨ i = 3 ∨ i = 4 ∨ i = 5 ∨ i = 6 ∨ i = 7 ∨ i = 8 ∨ i = 9 ∨ i = 10 ∨ i = 11 := by omega
    · refine wpOp_plain rfl rfl ?_
      go_simp
      exact ⟨⟨by simp [hsz.out], hx.out.same (by decide) (by decide)⟩, upd z 4 (.pointer (some ⟨J.g, 0, none⟩)), (by unfold Hid; simp [upd]), hz.next apx hsz.out 0 (by decide) _ (fun _ h => Option.some.inj h), hp6.keep (by decide), hp7.keep (by decide), hp8.keep (by decide), hp11.keep (by decide)⟩
    · refine wpOp_plain rfl rfl ?_
      go_simp
      exact ⟨⟨by simp [hsz.out], hx.out.same (by decide) (by decide)⟩, upd z 5 (.pointer (some ⟨J.g, 0, none⟩)), (by unfold Hid; simp [upd]), hz.next apx hsz.out 1 (by decide) _ (fun _ h => Option.some.inj h), hp6.keep (by decide), hp7.keep (by decide), hp8.keep (by decide), hp11.keep (by decide)⟩
    · have e1 : z 5 = .pointer (some ⟨J.g, 0, none⟩) := hz 1 _ (hw 1 (by kernel_rfl)) rfl
      refine wpOp_plain rfl rfl ?_
      go_simp
      exact ⟨⟨by simp [hsz.out], hx.out.same (by decide) (by decide)⟩, upd z 6 (.pointer (some ⟨J.g, 0, none⟩)), (by unfold Hid; simp [upd, e1]), hz.next apx hsz.out 2 (by decide) _ (fun _ h => Option.some.inj h), hp6.keep (by decide), hp7.keep (by decide), hp8.keep (by decide), hp11.keep (by decide)⟩
    · have e2 : z 6 = .pointer (some ⟨J.g, 0, none⟩) := hz 2 _ (hw 2 (by kernel_rfl)) rfl
      refine wpOp_plain rfl rfl ?_
      go_simp
      exact ⟨⟨by simp [hsz.out], hx.out.same (by decide) (by decide)⟩, upd z 7 (.pointer (some ⟨J.g, 5, none⟩)), (by unfold Hid; simp [upd, e2]), hz.next apx hsz.out 3 (by decide) _ (fun _ h => Option.some.inj h), hp6.keep (by decide), hp7.keep (by decide), hp8.keep (by decide), hp11.keep (by decide)⟩
    · have e3 : z 7 = .pointer (some ⟨J.g, 5, none⟩) := hz 3 _ (hw 3 (by kernel_rfl)) rfl
      have hn11 : ll.getD 11 false = false := not_listed (fun hl => hcl 8 4 (hcl 11 8 hl (by kernel_rfl)) (by kernel_rfl)) hu
      have c8 := cell_row (hx.out.row hn11) 5
      rw [C5.out] at c8
      refine wpOp_plain rfl rfl ?_
      go_simp
      exact ⟨⟨by simp [hsz.out], hx.out.same (by decide) (by decide)⟩, upd z 8 (J.v), (by unfold Hid; simp [upd, e3]), hz.next apx hsz.out 4 (by decide) _ (fun _ h => Option.some.inj h), hp6.keep (by decide), hp7.keep (by decide), hp8.keep (by decide), hp11.keep (by decide)⟩
    · refine wpOp_plain rfl rfl ?_
      go_simp
      exact ⟨⟨by simp [hsz.out], hx.out.same (by decide) (by decide)⟩, upd z 9 (.slice A n c), (by unfold Hid; simp [upd]), hz.next apx hsz.out 5 (by decide) _ (fun _ h => Option.some.inj h), hp6.keep (by decide), hp7.keep (by decide), hp8.keep (by decide), hp11.keep (by decide)⟩
    · have e5 : z 9 = .slice A n c := hz 5 _ (hw 5 (by kernel_rfl)) rfl
      refine wpOp_plain rfl rfl ?_
      go_simp
      go_at_call 38
      refine (clone_sl (L := t) ⟨A, c, by rw [← HN.out], HB.out.below (hx.out.low (not_listed (fun hl => hcl 7 6 (hcl 8 7 hl (by kernel_rfl)) (by kernel_rfl)) hu) (not_listed (fun hl => hcl 7 6 (hcl 8 7 (hcl 11 8 hl (by kernel_rfl)) (by kernel_rfl)) (by kernel_rfl)) hu)) (Nat.le_refl _)⟩ (by have := Hl.out; omega)).mono ?_
      rintro e w' ⟨vr, rfl, ho, low⟩
      exact ⟨⟨by simp [hsz.out], hx.out.call Hg.out (by decide) (by decide) low⟩, upd z 10 (vr), (by unfold Hid; simp [upd, e5]), hz.next apx hsz.out 6 (by decide) _ (fun _ h => by cases h), Whn.done (YX.new (own_lower ho hx.out.chg.size) (own_sl ho rfl)), Whu.never (by decide) (fun hl => hcl 7 6 hl (by kernel_rfl)) hu, Whu.never (by decide) (fun hl => hcl 8 6 hl (by kernel_rfl)) hu, Whn.never (by decide) (fun hl => hcl 11 6 hl (by kernel_rfl)) hu⟩
    · have p6 := hp6.get (hw 6 (by kernel_rfl))
      obtain ⟨A6, c6, hv6, _⟩ := p6.sl
      have lown : Below wx.heap.size wx (wx.alloc (.cells #[.slice A6 t.length c6] 38)) := (Below.refl _ _).alloc (Nat.le_refl _) _
      refine wpOp_plain rfl rfl ?_
      simp only [hv6]
      go_simp
      exact ⟨⟨by simp [hsz.out], hx.out.call Hg.out (by decide) (by decide) lown⟩, upd z 11 (.slice (some ⟨wx.heap.size, 0, none⟩) 1 1), (by unfold Hid; simp [upd, hv6]), hz.next apx hsz.out 7 (by decide) _ (fun _ h => by cases h), (hp6.keep (by decide)).map (fun h => h.later lown), Whu.done (NX.new hv6 (Go.heap_alloc_new wx _)), (hp8.keep (by decide)).map (fun h => h.later lown), (hp11.keep (by decide)).map (fun h => h.later lown)⟩
    · have e4 : z 8 = J.v := hz 4 _ (hw 4 (by kernel_rfl)) rfl
      have p6 := hp6.get (hw 6 (by kernel_rfl))
      have p7 := hp7.get (hw 7 (by kernel_rfl)) hu
      obtain ⟨N, hv7, hN⟩ := p7
      have hn11 : ll.getD 11 false = false := not_listed (fun hl => hcl 11 8 hl (by kernel_rfl)) hu
      have ho8 := own_stays Hown.out (hx.out.low hu hn11)
      refine wpOp_plain rfl rfl (wp_app_sl (.tmp 8) (.tmp 11) rfl 0 J.v S.texts.length J.ts (z 10) p6.one e4 ho8 N hv7 hN Hn.out (Nat.zero_le _) ?_)
      intro vr w9 hown9 hgrow9 hblk9
      go_simp
      exact ⟨⟨by simp [hsz.out], hx.out.app Hg.out Hug.out (by rw [hsz.out]; decide) hgrow9⟩, upd z 12 (vr), (by unfold Hid; simp [upd, e4, hv7]), hz.next apx hsz.out 8 (by decide) _ (fun _ h => by cases h), (hp6.keep (by decide)).map (fun h => h.chg (chg_grown hgrow9) (fun q hq => Hsub.out q (by simp at hq; simp [hq]))), Whu.past (by rw [hsz.out]; decide), Whu.done (OX.new hown9 hblk9 p6 hx.out.chg.size), Whn.never (by decide) (fun hl => hcl 11 8 hl (by kernel_rfl)) hu⟩
    · have e0 : z 4 = .pointer (some ⟨J.g, 0, none⟩) := hz 0 _ (hw 0 (by kernel_rfl)) rfl
      refine wpOp_plain rfl rfl ?_
      go_simp
      exact ⟨⟨by simp [hsz.out], hx.out.same (by decide) (by decide)⟩, upd z 13 (.pointer (some ⟨J.g, 0, none⟩)), (by unfold Hid; simp [upd, e0]), hz.next apx hsz.out 9 (by decide) _ (fun _ h => Option.some.inj h), hp6.keep (by decide), hp7.keep (by decide), hp8.keep (by decide), hp11.keep (by decide)⟩
    · have e9 : z 13 = .pointer (some ⟨J.g, 0, none⟩) := hz 9 _ (hw 9 (by kernel_rfl)) rfl
      refine wpOp_plain rfl rfl ?_
      go_simp
      exact ⟨⟨by simp [hsz.out], hx.out.same (by decide) (by decide)⟩, upd z 14 (.pointer (some ⟨J.g, 5, none⟩)), (by unfold Hid; simp [upd, e9]), hz.next apx hsz.out 10 (by decide) _ (fun _ h => Option.some.inj h), hp6.keep (by decide), hp7.keep (by decide), hp8.keep (by decide), hp11.keep (by decide)⟩
    · have e10 : z 14 = .pointer (some ⟨J.g, 5, none⟩) := hz 10 _ (hw 10 (by kernel_rfl)) rfl
      have p8 := hp8.get (hw 8 (by kernel_rfl)) hu
      have crow := hx.out.row hu
      have c8 : wx.cell? ⟨J.g, 5, none⟩ = some J.v := (cell_row crow 5).trans C5.out
      have f8 : wx.frozen? ⟨J.g, 5, none⟩ = false := free_row crow 5
      have hz8 : (z 12).ownBlock ≠ some J.g := p8.ne Hug.out Hg.out
      obtain ⟨A8, c8e, hv8⟩ := own_nilK p8.own
      refine wpOp_plain rfl rfl ?_
      simp only [hv8]
      go_simp
      exact ⟨⟨by simp [hsz.out], hx.out.store (by rw [hsz.out]; decide) (hw 8 (by kernel_rfl))⟩, upd z 1011 (undef), (by unfold Hid; simp [upd, e10, hv8]), hz.next apx hsz.out 11 (by decide) _ (fun _ h => by cases h), (hp6.keep (by decide)).map (fun h => h.chg ((Chg.refl [J.g] _).setCell (by simp) _) (fun q hq => Hsub.out q (by simp at hq; simp [hq]))), Whu.gone (hw 8 (by kernel_rfl)), Whu.past (by rw [hsz.out]; decide), Whn.done (AX.new p8 hz8 crow hv8)⟩
  · exact ⟨⟨rfl, RK.start Hrow.out⟩, fun xx => (#[.pointer (some ⟨J.g, 0, none⟩), .slice A n c, undef, undef, undef, undef, undef, undef, undef, undef, undef, undef, undef, undef, undef, undef, undef, undef, undef, undef, undef, undef, undef, undef, undef] : Array Value).getD xx undef, rfl, Holding.start, Whn.none (by decide), Whu.none (by decide), Whu.none (by decide), Whn.none (by decide)⟩
theorem keep_any {w : World} {K : DK} {J : LK} {S : LS} (h : Lg w K J S) (hK : ∀ q ∈ K.bl, q < w.heap.size) {t : List Int} {v : Value} (hv : SlB t v w) (ht : InB t) (hl : t.length ≤ 262144) (hfit : S.used + tk t.length ≤ S.secs) :
    Calls Tryz.prog 80 #[J.ptr, v] w fun e w' => e = .returned (.tuple #[]) ∧ ∃ J', Kept K J S t w J' w' := by
  have h1 := h.cnt
  have h2 := h.fit
  have h3 := h.end_
  have h4 := tk_pos t.length
  refine (keep0 h.toLg0 hK hv ht hl (by omega) (by omega)).mono ?_
  rintro e w' ⟨rfl, J', hk⟩
  exact ⟨rfl, J', ⟨hk, ⟨hk.lg0, hfit, h3, by simp only [List.length_append, List.length_cons, List.length_nil]; omega⟩⟩⟩
end Go.Proofs.YtkjhoanlkkcfkaaGreatDoor.Slt
/- DERIVED. The contract of slots.Log.All. -/
namespace Go.Proofs.YtkjhoanlkkcfkaaGreatDoor.Slt
open Go.RowKit Dsk
/-- a row of new slices: its first k read as texts. -/
structure Rows (B : Nat) (L : List (List Int)) (n k : Nat) (g : Nat) (w : World) : Prop where
  row : ∃ C, w.heap[g]? = some (.cells C 38 (0, 0)) ∧ C.size = n ∧ ∀ i, i < k → ∃ v, C[i]? = some v ∧ SlB (L.getD i []) v w ∧ ∀ q, v.ownBlock = some q → B ≤ q ∧ q ≠ g
  ge : B ≤ g
theorem _root_.Go.Proofs.YtkjhoanlkkcfkaaGreatDoor.SlB.chg {T : List Nat} {w w' : World} {L : List Int} {v : Value} (h : SlB L v w) (hc : Chg T w w') (hT : ∀ q, v.ownBlock = some q → q ∉ T) : SlB L v w' := by
  obtain ⟨A, c, rfl, hB⟩ := h
  exact ⟨A, c, rfl, hB.chg hc (fun a ha => hT _ (by rw [ha]; rfl))⟩
theorem Rows.chg {T : List Nat} {B n k g : Nat} {L : List (List Int)} {w w' : World} (h : Rows B L n k g w) (hc : Chg T w w') (hT : ∀ q ∈ T, q < B) : Rows B L n k g w' := by
  obtain ⟨⟨C, h1, h2, h3⟩, h4⟩ := h
  refine ⟨⟨C, hc.at h1 (fun hm => by have := hT _ hm; omega), h2, fun i hi => ?_⟩, h4⟩
  obtain ⟨v, a, b, d⟩ := h3 i hi
  exact ⟨v, a, b.chg hc (fun q hq hm => by have := hT _ hm; have := d q hq; omega), d⟩
theorem Rows.later {B n k g : Nat} {L : List (List Int)} {w w' : World} (h : Rows B L n k g w) (hb : Below w.heap.size w w') : Rows B L n k g w' := h.chg (T := []) (Chg.of_below hb) (by simp)
theorem Rows.lt {B n k g : Nat} {L : List (List Int)} {w : World} (h : Rows B L n k g w) : g < w.heap.size := by obtain ⟨⟨C, h1, _⟩, _⟩ := h; exact (Array.getElem?_eq_some_iff.1 h1).1
/-- one more. -/
theorem Rows.next {B n k g : Nat} {L : List (List Int)} {w : World} {v : Value} (h : Rows B L n k g w) (hk : k < n) (hv : SlB (L.getD k []) v w) (ho : ∀ q, v.ownBlock = some q → B ≤ q ∧ q ≠ g) : Rows B L n (k + 1) g (w.setCell ⟨g, k, none⟩ v) := by
  obtain ⟨⟨C, h1, h2, h3⟩, h4⟩ := h
  have hc : Chg [g] w (w.setCell ⟨g, k, none⟩ v) := (Chg.refl _ _).setCell (by simp) _
  refine ⟨⟨C.setIfInBounds k v, heap_setCell_same _ _ _ _ _ _ h1, by simp [h2], fun i hi => ?_⟩, h4⟩
  rw [Array.getElem?_setIfInBounds]
  by_cases e : k = i
  · subst e
    rw [if_pos rfl, if_pos (by omega)]
    exact ⟨v, rfl, hv.chg hc (fun q hq => by simp; exact (ho q hq).2), ho⟩
  · rw [if_neg e]
    obtain ⟨u, a, b, d⟩ := h3 i (by omega)
    exact ⟨u, a, b.chg hc (fun q hq => by simp; exact (d q hq).2), d⟩
theorem made_slots (n : Nat) : ∃ C : Array Value, madeCells (Value.cells (.slice none 0 0)) n = C ∧ C.size = n := ⟨_, rfl, by simp [madeCells, Value.cells]⟩
theorem mk_slots (n : Nat) (hn : n ≤ 1000000) (w : World) : ∃ C : Array Value, C.size = n ∧ (Instr.makeSlice 51 (.int .i64 n) (.int .i64 n)).run Tryz.prog w = .ok (.slice (some ⟨w.heap.size, 0, none⟩) n n) (w.alloc (.cells C 38)) := by
  obtain ⟨i0, hi, hz0, hz1, hz2⟩ := info_parts info_slz
  have h := run_make (P := Tryz.prog) w 51 38 i0 (.slice none 0 0) Tryz.underlying51 hi hz0 .i64 .i64 n n (by omega) (by omega) (by rw [hz2]; omega) (by omega)
  rw [hz1] at h
  rw [Int.toNat_natCast, Nat.mul_one] at h
  obtain ⟨C, hC, hs⟩ := made_slots n
  rw [hC] at h
  exact ⟨C, hs, h⟩
theorem own_cellS {w : World} {base n : Nat} {A : Option Addr} {c : Nat} {ts : List Value} (h : w.ownsRow base 38 1 (.slice A n c) n ts) (i : Nat) (hi : i < n) : ∃ g, A = some ⟨g, 0, none⟩ ∧ n ≤ c ∧ g < w.heap.size ∧ w.cell? ⟨g, i, none⟩ = some (ts.getD i undef) := by
  rcases h.2 with ⟨_, h0⟩ | ⟨g, cap, cur, hv, _, hh, hcap, _, hs, ht⟩
  · omega
  · cases hv
    refine ⟨g, rfl, hcap, (Array.getElem?_eq_some_iff.1 hh).1, ?_⟩
    rw [cell_row hh]
    have h2 : cur[i]? = cur.toList[i]? := by simp
    have h3 : (cur.toList.take (n * 1))[i]? = cur.toList[i]? := by rw [List.getElem?_take, if_pos (by omega)]
    rw [h2, ← h3, ht]
    have hl : ts.length = n := by have := h.1; omega
    simp [List.getD_eq_getElem?_getD, show i < ts.length by omega]
set_option maxHeartbeats 1000000 in
theorem all_any {w : World} {K : DK} {J : LK} {S : LS} (h : Lg w K J S) : Calls Tryz.prog 81 #[J.ptr] w fun e w' => ∃ g, e = .returned (.slice (some ⟨g, 0, none⟩) S.texts.length S.texts.length) ∧ Rows w.heap.size S.texts S.texts.length S.texts.length g w' ∧ Below w.heap.size w w' := by
  have Hm := Lib.hid (lmade_any h)
  obtain ⟨_, _, _, _, _, c5, _⟩ := h.cells
  have hn : S.texts.length ≤ 16384 := by have := h.cnt; have := h.fit; have := h.end_; omega
  have H := Lib.hid h
  obtain ⟨A, c, hv⟩ := own_nilK h.own
  have hown := h.own
  rw [hv] at c5 hown
  unfold LK.ptr at *
  obtain ⟨n, hn'⟩ : ∃ n, n = S.texts.length := ⟨_, rfl⟩
  rw [← hn'] at hn c5 hown ⊢
  have HN := Lib.hid hn'
  have Hown := Lib.hid hown
  obtain ⟨Cz, hCz, hmk⟩ := mk_slots n (by omega) w
  have hz : Rows w.heap.size S.texts n 0 w.heap.size (w.alloc (.cells Cz 38)) := ⟨⟨Cz, Go.heap_alloc_new _ _, hCz, fun i hi => by omega⟩, Nat.le_refl _⟩
  have hb0 : Below w.heap.size w (w.alloc (.cells Cz 38)) := (Below.refl _ _).alloc (Nat.le_refl _) _
  have hgl := h.glt
  have c52 := (hb0.cell (p := ⟨J.g, 5, none⟩) hgl).trans c5
  have Hz := Lib.hid hz
  have Hb0 := Lib.hid hb0
  clear h hn' hv hown hCz hz hgl hb0
  obtain ⟨w1, hw1⟩ : ∃ w1, w1 = w.alloc (.cells Cz 38) := ⟨_, rfl⟩
  rw [← hw1] at hmk c52 Hz Hb0
  clear hw1
  go_enter Tryz.func81, Tryz.ntmps81
  go_wp2_with (first
    | (go_at_call 94; refine Hm.out.mono ?_; rintro e w' ⟨rfl, rfl⟩))
  go_loopw [20] (fun v wr => ∃ i : Nat, i ≤ n ∧ v = .int .i64 i ∧ Hid (Rows w.heap.size S.texts n i w.heap.size wr ∧ Below w.heap.size w wr)) (fun v _ => n - (intOf v).toNat)
  case atStart => exact ⟨0, Nat.zero_le _, rfl, Hz.out, Hb0.out⟩
  case round =>
    obtain ⟨i, hi, rfl, hr⟩ := hrel
    by_cases hlt : i < n
    · have hltI : (i : Int) < (n : Int) := by omega
      obtain ⟨g, rfl, hcap, hg, hc⟩ := own_cellS Hown.out i hlt
      obtain ⟨A2, c2, e2, hB2⟩ := H.out.txt i (by rw [← HN.out]; exact hlt)
      rw [e2] at hc
      have hcr := (hr.out.2.cell (p := ⟨g, i, none⟩) hg).trans hc
      have hcl := clone_sl (L := S.texts.getD i []) ⟨A2, c2, rfl, hB2.below hr.out.2 (Nat.le_refl _)⟩ (by
        have hm : S.texts.getD i [] ∈ S.texts := by
          rw [List.getD_eq_getElem?_getD, List.getElem?_eq_getElem (by rw [← HN.out]; exact hlt), Option.getD_some]
          exact List.getElem_mem _
        have := (H.out.inb _ hm).2
        omega)
      have Hcl := Lib.hid hcl
      obtain ⟨m2, hm2⟩ : ∃ m2, m2 = (S.texts.getD i []).length := ⟨_, rfl⟩
      rw [← hm2] at hcr Hcl
      have Hm2 := Lib.hid hm2
      clear hcl hc hB2 hm2 e2
      go_upto_region 7 with (fail)
      have Hr := Lib.hid (hr.out)
      clear hr
      go_wp2_with (go_at_call 38; refine Hcl.out.mono ?_; rintro e w2 ⟨v2, rfl, ho, hb⟩; obtain ⟨A3, c3, rfl⟩ := own_nilK ho; have Ho := Lib.hid ho; have Hb := Lib.hid hb; have hr2 := Hr.out.1.later hb; obtain ⟨⟨C2, hC2, _⟩, _⟩ := id hr2; have f2 := free_row hC2 i; have cc := cell_row hC2 i; have Hr2 := Lib.hid hr2; clear ho hb hr2 hC2)
      have hlt2 := Hr.out.1.lt
      have ho2 := Ho.out
      rw [Hm2.out] at ho2 ⊢
      refine ⟨⟨i + 1, by omega, by go_num, Hr2.out.next hlt (own_sl ho2 rfl) (fun q hq => by have := (ho2.lt q hq).1; have := Hr.out.2.size; omega), (Hr.out.2.trans (Hb.out.mono Hr.out.2.size)).setCell (Nat.le_refl _) _⟩, by simp [intOf]; omega⟩
    · have hltI : ¬ (i : Int) < (n : Int) := by omega
      obtain rfl : i = n := by omega
      go_wp2
      go_ret
      exact ⟨_, rfl, hr.out.1, hr.out.2⟩
end Go.Proofs.YtkjhoanlkkcfkaaGreatDoor.Slt
/- DERIVED. What an append leaves on the disk, on lists. No program. -/
namespace Go.Proofs.YtkjhoanlkkcfkaaGreatDoor.Slt
open Go.RowKit Dsk
/-- sectors written: the error tells whether the power went. -/
structure RunQ (D : DS) (n : Nat) (R : DS × Int) : Prop where
  err : R.2 = if R.1.off then 12 else 0
  len : R.1.data.length = D.data.length
  wr : R.1.writes ≤ D.writes + n
theorem RunQ.secs {D : DS} {n : Nat} {R : DS × Int} (h : RunQ D n R) : R.1.secs = D.secs := by simp [DS.secs, h.len]
theorem run_q (k : Nat) (b : List Int) : ∀ (n i : Nat) (D : DS), D.off = false → (k + i + n) * 128 ≤ D.data.length → (i + n) * 128 ≤ b.length → RunQ D n (runD D k b i n) := by
  intro n
  induction n with
  | zero => intro i D ho _ _; exact ⟨by simp [runD, ho], rfl, by simp [runD]⟩
  | succ n ih =>
    intro i D ho hd hb
    have hl := step_len D (k + i) (secL b i) (by omega) (secL_len b i (by omega))
    have hw := step_writes D (k + i) (secL b i)
    cases e : (stepD D (k + i) (secL b i)).off
    · rw [run_on e]
      have h := ih (i + 1) _ e (by rw [hl]; omega) (by omega)
      exact ⟨h.err, h.len.trans hl, by have := h.wr; omega⟩
    · rw [run_off e]
      exact ⟨by simp [e], hl, by simp only [hw]; omega⟩
/-- what an append of a text writes: k sectors, and the first one with the mark. -/
def writD (D : DS) (at_ : Nat) (t : List Int) (k : Nat) : DS × Int :=
  if (runD D at_ (slotB 0 t k) 0 k).2 = 0 then runD (runD D at_ (slotB 0 t k) 0 k).1 at_ ((slotB 1 t k).take 128) 0 1 else runD D at_ (slotB 0 t k) 0 k
theorem writD_yes {D : DS} {p k : Nat} {t : List Int} (h : (runD D p (slotB 0 t k) 0 k).2 = 0) : writD D p t k = runD (runD D p (slotB 0 t k) 0 k).1 p ((slotB 1 t k).take 128) 0 1 := if_pos h
theorem writD_no {D : DS} {p k : Nat} {t : List Int} (h : ¬ (runD D p (slotB 0 t k) 0 k).2 = 0) : writD D p t k = runD D p (slotB 0 t k) 0 k := if_neg h
theorem RunQ.on {D : DS} {n : Nat} {R : DS × Int} (h : RunQ D n R) (e : R.2 = 0) : R.1.off = false := by
  have := h.err
  cases ho : R.1.off
  · rfl
  · rw [ho] at this; rw [this] at e; cases e
theorem take128_len (m : Int) (t : List Int) (k : Nat) (h : t.length + 5 ≤ k * 128) : ((slotB m t k).take 128).length = 128 := by
  rw [List.length_take, slotB_len _ _ _ h]; omega
theorem writ_q {D : DS} {p k : Nat} {t : List Int} (ho : D.off = false) (hp : (p + k) * 128 ≤ D.data.length) (hk : t.length + 5 ≤ k * 128) : RunQ D (k + 1) (writD D p t k) := by
  have hl := slotB_len 0 t k hk
  have h := run_q p (slotB 0 t k) k 0 D ho (by omega) (by omega)
  by_cases e : (runD D p (slotB 0 t k) 0 k).2 = 0
  · rw [writD_yes e]
    have h2 := run_q p ((slotB 1 t k).take 128) 1 0 _ (h.on e) (by rw [h.len]; omega) (by rw [take128_len _ _ _ hk]; omega)
    exact ⟨h2.err, h2.len.trans h.len, by have := h2.wr; have := h.wr; omega⟩
  · rw [writD_no e]
    exact ⟨h.err, h.len, by have := h.wr; omega⟩
end Go.Proofs.YtkjhoanlkkcfkaaGreatDoor.Slt
/- DERIVED. The contract of slots.Log.write. -/
namespace Go.Proofs.YtkjhoanlkkcfkaaGreatDoor.Slt
open Go.RowKit Dsk
theorem slotB_mark (t : List Int) (k : Nat) : (vals (slotB 0 t k)).toArray.setIfInBounds 0 (.int .u8 1) = (vals (slotB 1 t k)).toArray := by
  simp [slotB, vals]
theorem row_byt {w : World} {g : Nat} {L : List Int} (h : w.heap[g]? = some (.cells (vals L).toArray 5 (0, 0))) (c : Nat) (hc : L.length ≤ c) : Byt w (some ⟨g, 0, none⟩) c L :=
  ⟨hc, (fun h => by cases h), fun _ => ⟨g, 0, rfl, (Array.getElem?_eq_some_iff.1 h).1, fun j hj => by rw [Nat.zero_add, cell_row h]; simp [vals, hj]⟩⟩
theorem run_first {k n F : Nat} (hF : tk n ≤ F) (hk : k = firstK n F) : tk n ≤ k ∧ k ≤ F ∧ n + 5 ≤ k * 128 := by
  have h1 := tk_fit n
  subst hk
  unfold firstK
  omega
set_option maxRecDepth 100000 in
set_option maxHeartbeats 2000000 in
theorem lwrite_any {w : World} {K : DK} {D : DS} {J : LK} {S : LS} (hd : Dsk w K D) (h : Lg w K J S) (A : Option Addr) (n c : Nat) (t : List Int) (hl : t.length = n) (hn : n ≤ 262144) (hB : Byt w A c t) (ht : InB t) (hF : S.used + tk n ≤ S.secs) (hend : S.from_ + S.secs ≤ D.secs) (ho : D.off = false) (hw : D.writes ≤ 576460752303423488) :
    Calls Tryz.prog 97 #[J.ptr, .slice A n c] w fun e w' => e = .returned (.int .i64 (writD D (S.from_ + S.used) t (firstK n (S.secs - S.used))).2) ∧ Dsk w' K (writD D (S.from_ + S.used) t (firstK n (S.secs - S.used))).1 ∧ Chg K.bl w w' := by
  have hFs : tk n ≤ S.secs - S.used := by omega
  have h16 : S.secs - S.used ≤ 16384 := by have := h.end_; omega
  have hfree := fun (w1 : World) (hb : Below w.heap.size w w1) => free_any (w := w1) (h.later hb)
  obtain ⟨F, hFe⟩ : ∃ F, F = S.secs - S.used := ⟨_, rfl⟩
  rw [← hFe] at hFs h16 hfree ⊢
  obtain ⟨k, hk⟩ : ∃ k, k = firstK n F := ⟨_, rfl⟩
  have hslot := fun (w1 : World) (h1 : Byt w1 A c t) => slotOf_any (w := w1) A n c F t hl hn h1 hFs h16
  rw [← hk] at hslot ⊢
  obtain ⟨hk1, hk2, hk3⟩ := run_first hFs hk
  obtain ⟨_, c1, c2, _, c4, _, _⟩ := h.cells
  obtain ⟨p, hp⟩ : ∃ p, p = S.from_ + S.used := ⟨_, rfl⟩
  have hpI : ((p : Nat) : Int) = (S.from_ : Int) + (S.used : Int) := by omega
  have hpk : p + k ≤ D.secs := by omega
  have hdl := hd.ok.whole128
  have hpd : (p + k) * 128 ≤ D.data.length := by omega
  have hp16 : p ≤ 16384 := by have := h.end_; omega
  rw [← hp]
  have hlb : (slotB 0 t k).length = k * 128 := slotB_len _ _ _ (by omega)
  have hq := run_q p (slotB 0 t k) k 0 D ho (by omega) (by omega)
  have hgK : ∀ q ∈ K.bl, q < w.heap.size := by
    intro q hq; simp [DK.bl] at hq
    rcases hq with rfl | rfl
    · exact hd.glt
    · exact hd.hlt
  have hJK : J.g ∉ K.bl := h.kap _ (by simp [LK.bl])
  have hwr1 : ∀ (w1 : World) (g : Nat), Below w.heap.size w w1 → w.heap.size ≤ g → w1.heap[g]? = some (.cells (vals (slotB 0 t k)).toArray 5 (0, 0)) → Calls Tryz.prog 121 #[K.ptr, .int .i64 p, .slice (some ⟨g, 0, none⟩) (k * 128) (k * 128)] w1 fun e w' => e = .returned (.int .i64 (runD D p (slotB 0 t k) 0 k).2) ∧ Dsk w' K (runD D p (slotB 0 t k) 0 k).1 ∧ Chg K.bl w1 w' :=
    fun w1 g hb hg hr => write_ok (hd.chg (S := []) ⟨hb.os, hb.tape, hb.output, hb.size, fun q hq _ => hb.block q hq⟩ (by simp) (by simp)) p k (k * 128) hpk ho _ _ (slotB 0 t k) rfl hlb (slotB_in (by omega) ht) (row_byt hr _ (by rw [hlb]; omega)) (fun a ha hm => by cases ha; have : g < w.heap.size := hgK _ hm; omega) (by omega)
  obtain ⟨s0, hs0⟩ : ∃ s0, s0 = S.from_ := ⟨_, rfl⟩
  obtain ⟨u0, hu0⟩ : ∃ u0, u0 = S.used := ⟨_, rfl⟩
  rw [← hs0] at c2 hpI
  rw [← hu0] at c4 hpI
  have hs16 : s0 ≤ 16384 := by have := h.end_; omega
  have hu16 : u0 ≤ 16384 := by have := h.fit; have := h.end_; omega
  have hkk : k * 128 ≤ 2097152 := by omega
  have hk128 : 128 ≤ k * 128 := by have := tk_pos n; omega
  have hk128I : (128 : Int) ≤ (k : Int) * 128 := by omega
  have Hfree := Lib.hid hfree
  have Hslot := Lib.hid hslot
  have Hwr1 := Lib.hid hwr1
  have HpI := Lib.hid hpI
  have HB := Lib.hid hB
  have Hlb := Lib.hid hlb
  have Hq := Lib.hid hq
  have Hgl := Lib.hid h.glt
  have HgK := Lib.hid hgK
  have HJK := Lib.hid hJK
  have Hht := Lib.hid ht
  have Hpk := Lib.hid hpk
  have Hk3 := Lib.hid hk3
  have Hl := Lib.hid hl
  have C1 := Lib.hid c1
  have Hww := Lib.hid hw
  have Hdd := Lib.hid hdl
  unfold LK.ptr DK.ptr at *
  by_cases e0 : (runD D p (slotB 0 t k) 0 k).2 = 0
  · have hz := hq.on e0
    have hwr2 : ∀ (w1 : World) (g cc : Nat), Dsk w1 K (runD D p (slotB 0 t k) 0 k).1 → w.heap.size ≤ g → w1.heap[g]? = some (.cells (vals (slotB 1 t k)).toArray 5 (0, 0)) → 128 ≤ cc → Calls Tryz.prog 121 #[.pointer (some ⟨K.g, 0, none⟩), .int .i64 p, .slice (some ⟨g, 0, none⟩) 128 cc] w1 fun e w' => e = .returned (.int .i64 (writD D p t k).2) ∧ Dsk w' K (writD D p t k).1 ∧ Chg K.bl w1 w' := by
      intro w1 g cc hd1 hg hr hcc
      rw [writD_yes e0]
      have hb1 : Byt w1 (some ⟨g, 0, none⟩) cc ((slotB 1 t k).take 128) := by
        refine ⟨by rw [take128_len _ _ _ (by omega)]; exact hcc, (fun h => by cases h), fun _ => ⟨g, 0, rfl, (Array.getElem?_eq_some_iff.1 hr).1, fun j hj => ?_⟩⟩
        rw [take128_len _ _ _ (by omega)] at hj
        have hlb1 := slotB_len 1 t k (by omega)
        rw [Nat.zero_add, cell_row hr, getD_take' hj]
        simp [vals, show j < (slotB 1 t k).length by omega]
      exact write_ok hd1 p 1 128 (by rw [hq.secs]; omega) hz _ _ _ rfl (take128_len _ _ _ (by omega)) ((slotB_in (by omega) ht).take _) hb1 (fun a ha hm => by cases ha; have : g < w.heap.size := hgK _ hm; omega) (by have := hq.wr; omega)
    have Hwr2 := Lib.hid hwr2
    have E0 := Lib.hid e0
    clear hfree hslot hwr1 hpI hB hlb hq hgK hJK ht hpk hk3 hl c1 hw hdl hd h hF hend ho hwr2 hz e0 hFs h16 hFe hk hk1 hk2 hpd hp hs0 hu0
    have hwr1' := Hwr1.out
    rw [E0.out] at hwr1'
    have Hwr1 := Lib.hid hwr1'
    clear hwr1'
    go_enter Tryz.func97, Tryz.ntmps97
    go_upto_region 1 with (fail)
    go_quiet (fail)
    go_upto_region 6 with (first
      | (go_at_call 96; refine (Hfree.out _ (Below.drewN (Below.refl _ _) nq)).mono ?_; rintro e w1 ⟨rfl, hb1⟩; have Hb1 := Lib.hid ((Below.drewN (Below.refl w.heap.size w) nq).trans hb1); clear hb1)
      | (go_at_call 120; refine (Hslot.out w1 (HB.out.below Hb1.out (Nat.le_refl _))).mono ?_; rintro e w2 ⟨g, rfl, hr2, hg2, hb2⟩; have c12 := ((Hb1.out.trans (hb2.mono Hb1.out.size)).cell (p := ⟨J.g, 1, none⟩) Hgl.out).trans C1.out; have Hb2 := Lib.hid (Hb1.out.trans (hb2.mono Hb1.out.size)); have Hr2 := Lib.hid hr2; have Hg2 := Lib.hid (Nat.le_trans Hb1.out.size hg2); clear hr2 hg2 hb2)
      | (go_at_call 121; rw [← HpI.out]; refine (Hwr1.out w2 g Hb2.out Hg2.out Hr2.out).mono ?_; rintro e w3 ⟨rfl, hd3, hc3⟩; have Hd3 := Lib.hid hd3; have Hc3 := Lib.hid hc3; clear hd3 hc3))
    have hgn : g ∉ K.bl := fun hm => by have : g < w.heap.size := HgK.out _ hm; have := Hg2.out; omega
    have hr3 := Hc3.out.at Hr2.out hgn
    have c0 : w3.cell? ⟨g, 0, none⟩ = some (.int .u8 0) := (cell_row hr3 0).trans (by simp [slotB, vals])
    have f0 := free_row hr3 0
    have Hr3 := Lib.hid hr3
    have hlow3 := Hc3.out
    clear hr3
    go_upto_region 7 with (fail)
    have hr4 : (w3.setCell ⟨g, 0, none⟩ (.int .u8 1)).heap[g]? = some (.cells (vals (slotB 1 t k)).toArray 5 (0, 0)) := by
      rw [heap_setCell_same _ _ _ _ _ _ Hr3.out, slotB_mark]
    have hc34 : Chg [g] w3 (w3.setCell ⟨g, 0, none⟩ (.int .u8 1)) := (Chg.refl _ _).setCell (by simp) _
    have hd4 := (Hd3.out.chg hc34 (fun hm => by simp at hm; exact hgn (by simp [DK.bl, hm])) (fun hm => by simp at hm; exact hgn (by simp [DK.bl, hm]))).later (Below.refl _ _).drew
    have hjg : J.g < w2.heap.size := Nat.lt_of_lt_of_le Hgl.out Hb2.out.size
    have c14 : (w3.setCell ⟨g, 0, none⟩ (.int .u8 1)).drew.cell? ⟨J.g, 1, none⟩ = some (.pointer (some ⟨K.g, 0, none⟩)) := by
      have e1 := World.cell?_of_block (a := ⟨J.g, 1, none⟩) (Hc3.out.block J.g hjg HJK.out)
      have e2 := World.cell?_of_block (a := ⟨J.g, 1, none⟩) (hc34.block J.g (Nat.lt_of_lt_of_le hjg Hc3.out.size) (fun hm => by simp at hm; have := Hgl.out; have := Hg2.out; omega))
      exact (e2.trans e1).trans c12
    have hr4' : (w3.setCell ⟨g, 0, none⟩ (.int .u8 1)).drew.heap[g]? = some (.cells (vals (slotB 1 t k)).toArray 5 (0, 0)) := hr4
    have hch : Chg (g :: K.bl) w2 (w3.setCell ⟨g, 0, none⟩ (.int .u8 1)).drew := ((Hc3.out.mono (fun q hq => .inl (by simp [hq]))).trans (hc34.mono (fun q hq => .inl (by simp at hq; simp [hq])))).trans (Chg.of_below (Below.refl _ _).drew)
    have hcw := Hc3.out
    refine wp_region_still_tail 7 (by kernel_rfl) (by kernel_rfl) ?_
    simp only [List.take_succ_cons, List.take_zero, List.drop_succ_cons, List.drop_zero]
    change wpStill _ _ (w3.setCell ⟨g, 0, none⟩ (.int .u8 1)).drew _ _ _
    have Hd5 := Lib.hid hd4
    have Hr5 := Lib.hid hr4'
    have Hch := Lib.hid hch
    clear hr4 hc34 hd4 hr4' hch c12
    repeat (refine wpStill_step (fun K hK => ?_); go_simp; refine hK _ ?_; clear hK K)
    refine wpStill_nil ?_
    change wpList _ _ _ _ _ (w3.setCell ⟨g, 0, none⟩ (.int .u8 1)).drew
    generalize (w3.setCell ⟨g, 0, none⟩ (.int .u8 1)).drew = w5 at Hd5 Hr5 Hch c14 ⊢
    go_wp2_with (go_at_call 121; refine (Hwr2.out w5 g (k * 128) Hd5.out Hg2.out Hr5.out hk128).mono ?_; rintro e w6 ⟨rfl, hd6, hc6⟩; have Hd6 := Lib.hid hd6; have Hc6 := Lib.hid hc6; clear hd6 hc6)
    go_ret
    refine ⟨rfl, Hd6.out, ?_⟩
    exact (((Chg.of_below Hb2.out).trans Hch.out).mono (fun q hq => by
      rcases List.mem_cons.1 hq with rfl | hq
      · exact .inr Hg2.out
      · exact .inl hq)).trans Hc6.out
  · have E0 := Lib.hid e0
    have hwd : writD D p t k = runD D p (slotB 0 t k) 0 k := writD_no e0
    rw [hwd]
    obtain ⟨R, hR⟩ : ∃ R, R = runD D p (slotB 0 t k) 0 k := ⟨_, rfl⟩
    rw [← hR] at Hwr1 E0 ⊢
    obtain ⟨er, her⟩ : ∃ er, er = R.2 := ⟨_, rfl⟩
    rw [← her] at Hwr1 E0 ⊢
    have e12 : ¬ er = 0 := E0.out
    clear her
    clear hfree hslot hwr1 hpI hB hlb hq hgK hJK ht hpk hk3 hl c1 hw hdl hd h hF hend ho e0 hFs h16 hFe hk hk1 hk2 hpd hp hs0 hu0 hwd hR Hq E0
    go_enter Tryz.func97, Tryz.ntmps97
    go_upto_region 1 with (fail)
    go_quiet (fail)
    go_wp2_with (first
      | (go_at_call 96; refine (Hfree.out _ (Below.drewN (Below.refl _ _) nq)).mono ?_; rintro e w1 ⟨rfl, hb1⟩; have Hb1 := Lib.hid ((Below.drewN (Below.refl w.heap.size w) nq).trans hb1); clear hb1)
      | (go_at_call 120; refine (Hslot.out w1 (HB.out.below Hb1.out (Nat.le_refl _))).mono ?_; rintro e w2 ⟨g, rfl, hr2, hg2, hb2⟩; have c12 := ((Hb1.out.trans (hb2.mono Hb1.out.size)).cell (p := ⟨J.g, 1, none⟩) Hgl.out).trans C1.out; have Hb2 := Lib.hid (Hb1.out.trans (hb2.mono Hb1.out.size)); have Hr2 := Lib.hid hr2; have Hg2 := Lib.hid (Nat.le_trans Hb1.out.size hg2); clear hr2 hg2 hb2)
      | (go_at_call 121; rw [← HpI.out]; refine (Hwr1.out w2 g Hb2.out Hg2.out Hr2.out).mono ?_; rintro e w3 ⟨rfl, hd3, hc3⟩; have Hd3 := Lib.hid hd3; have Hc3 := Lib.hid hc3; clear hd3 hc3))
    go_ret
    exact ⟨rfl, Hd3.out, (Chg.of_below Hb2.out).trans Hc3.out⟩
end Go.Proofs.YtkjhoanlkkcfkaaGreatDoor.Slt
