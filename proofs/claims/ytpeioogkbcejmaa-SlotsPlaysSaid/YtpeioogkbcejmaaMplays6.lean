/- DERIVED. Texts of ours, merged: XSltKeep. -/
import Derived.Test.YtpeioogkbcejmaaMplays5
import Derived.StillTailTactics
/- DERIVED. The contract of slots.Log.keep (mkkeep.py writes this text out of keep.txt). -/
namespace Go.Proofs.Ytpeioogkbcejmaa.Slt
open Go.RowKit Dsk
/-- the world of the region that appends a record: the append is operation 8, the store 11. -/
structure RK (g : Nat) (C : Array Value) (u : Value) (W : World) (ll : Array Bool) (wx : World) : Prop where
  chg : Chg (g :: u.ownBlock.toList) W wx
  low : ll.getD 8 false = false → ll.getD 11 false = false → Below W.heap.size W wx
  row : ll.getD 11 false = false → wx.heap[g]? = some (.cells C 61 (0, 0))
section
variable {g : Nat} {C : Array Value} {u : Value} {W wx w' : World} {ll : Array Bool}
theorem RK.start {n : Nat} (h : W.heap[g]? = some (.cells C 61 (0, 0))) : RK g C u W (Array.replicate n false) W.drew :=
  ⟨Chg.of_below (Below.refl _ _).drew, fun _ _ => (Below.refl _ _).drew, fun _ => h⟩
theorem RK.same {i : Nat} (h : RK g C u W ll wx) (h8 : i ≠ 8) (h11 : i ≠ 11) : RK g C u W (ll.setIfInBounds i true) wx :=
  ⟨h.chg, by rw [getD_set_ne false h8, getD_set_ne false h11]; exact h.low, by rw [getD_set_ne false h11]; exact h.row⟩
theorem RK.call {i : Nat} (h : RK g C u W ll wx) (hg : g < W.heap.size) (h8 : i ≠ 8) (h11 : i ≠ 11) (hb : Below wx.heap.size wx w') : RK g C u W (ll.setIfInBounds i true) w' := by
  refine ⟨h.chg.trans (Chg.of_below hb), ?_, ?_⟩
  · rw [getD_set_ne false h8, getD_set_ne false h11]
    exact fun a b => (h.low a b).trans (hb.mono h.chg.size)
  · rw [getD_set_ne false h11]
    exact fun a => (hb.block _ (Nat.lt_of_lt_of_le hg h.chg.size)).trans (h.row a)
theorem RK.app (h : RK g C u W ll wx) (hg : g < W.heap.size) (hu : u.ownBlock ≠ some g) (hs : 8 < ll.size) (hg' : wx.grownBy w' u.ownBlock) : RK g C u W (ll.setIfInBounds 8 true) w' := by
  refine ⟨h.chg.trans ((chg_grown hg').mono (fun k hk => .inl (by simp at hk; simp [hk]))), fun a => by simp [hs] at a, ?_⟩
  rw [getD_set_ne false (by decide)]
  exact fun a => (hg'.block _ (Nat.lt_of_lt_of_le hg h.chg.size) (fun e => hu e.symm)).trans (h.row a)
theorem RK.store {z : Value} (h : RK g C u W ll wx) (hs : 11 < ll.size) (h8 : ll.getD 8 false = true) : RK g C u W (ll.setIfInBounds 11 true) (wx.setCell ⟨g, 5, none⟩ z) := by
  refine ⟨h.chg.setCell (by simp) z, ?_, fun a => by simp [hs] at a⟩
  intro a
  rw [getD_set_ne false (by decide), h8] at a
  cases a
end
/-- the record's copy. -/
structure YX (t : List Int) (B : Nat) (y : Value) (w : World) : Prop where
  sl : SlB t y w
  own : ∀ q, y.ownBlock = some q → B ≤ q ∧ q < w.heap.size
  one : y.oneCell' = true
theorem YX.chg {t : List Int} {B : Nat} {y : Value} {w w' : World} {S : List Nat} (h : YX t B y w) (hc : Chg S w w') (hS : ∀ q ∈ S, q < B) : YX t B y w' := by
  obtain ⟨A, c, rfl, hB⟩ := h.sl
  exact ⟨⟨A, c, rfl, hB.chg hc (fun a ha hm => by have := h.own a.block (by rw [ha]; rfl); have := hS _ hm; omega)⟩, fun q hq => ⟨(h.own q hq).1, Nat.lt_of_lt_of_le (h.own q hq).2 hc.size⟩, rfl⟩
theorem YX.later {t : List Int} {B : Nat} {y : Value} {w w' : World} (h : YX t B y w) (hb : Below w.heap.size w w') : YX t B y w' := h.chg (S := []) (Chg.of_below hb) (by simp)
theorem YX.new {t : List Int} {B : Nat} {y : Value} {w : World} (ho : w.ownsRow B 5 1 y t.length (vals t)) (hs : SlB t y w) : YX t B y w := ⟨hs, fun q hq => ho.lt q hq, by obtain ⟨A, c, rfl, _⟩ := hs; rfl⟩
/-- a slice in a block of its own, as a slice of one. -/
def NX (y z : Value) (w : World) : Prop := ∃ N, z = .slice (some ⟨N, 0, none⟩) 1 1 ∧ w.heap[N]? = some (.cells #[y] 33 (0, 0))
theorem NX.new {y v : Value} {N : Nat} {w : World} (hv : y = v) (h : w.heap[N]? = some (.cells #[v] 33 (0, 0))) : NX y (.slice (some ⟨N, 0, none⟩) 1 1) w := ⟨N, rfl, by rw [hv]; exact h⟩
theorem NX.later {y z : Value} {w w' : World} (h : NX y z w) (hb : Below w.heap.size w w') : NX y z w' := by
  obtain ⟨N, h1, h2⟩ := h
  exact ⟨N, h1, (hb.block _ (Array.getElem?_eq_some_iff.1 h2).1).trans h2⟩
/-- the row that the append leaves; its block is the old one's, or new. -/
structure OX (n : Nat) (ts : List Value) (u : Value) (B : Nat) (y z : Value) (w : World) : Prop where
  own : w.ownsRow 0 33 1 z (n + 1) (ts ++ [y])
  blk : z.ownBlock = u.ownBlock ∨ ∃ q, z.ownBlock = some q ∧ B ≤ q ∧ (∀ r, y.ownBlock = some r → r ≠ q)
  one : z.oneCell' = true
theorem OX.new {n : Nat} {ts t : _} {u y z : Value} {B : Nat} {w w' : World} (ho : w'.ownsRow 0 33 1 z (n + 1) (ts ++ [y])) (hb : z.ownBlock = u.ownBlock ∨ z.ownBlock = some w.heap.size) (hy : YX t B y w) (hB : B ≤ w.heap.size) : OX n ts u B y z w' :=
  ⟨ho, hb.imp id (fun e => ⟨_, e, hB, fun r hr => by have := hy.own r hr; omega⟩), by rcases ho.2 with ⟨rfl, _⟩ | ⟨g, cap, cur, rfl, _⟩ <;> rfl⟩
theorem OX.ne {n : Nat} {ts : List Value} {u y z : Value} {B g : Nat} {w : World} (h : OX n ts u B y z w) (hu : u.ownBlock ≠ some g) (hg : g < B) : z.ownBlock ≠ some g := by
  rcases h.blk with e | ⟨q, e, hq, _⟩
  · rw [e]; exact hu
  · rw [e]; intro h; cases h; omega
theorem OX.later {n : Nat} {ts : List Value} {u : Value} {B : Nat} {y z : Value} {w w' : World} (h : OX n ts u B y z w) (hb : Below w.heap.size w w') : OX n ts u B y z w' := ⟨own_stays h.own hb, h.blk, h.one⟩
/-- what the store leaves. -/
structure AX (g : Nat) (C : Array Value) (n : Nat) (ts : List Value) (u : Value) (B : Nat) (y z v : Value) (w : World) : Prop where
  row : w.heap[g]? = some (.cells (C.setIfInBounds 5 z) 61 (0, 0))
  ox : OX n ts u B y z w
theorem AX.later {g : Nat} {C : Array Value} {n : Nat} {ts : List Value} {u : Value} {B : Nat} {y z v : Value} {w w' : World} (h : AX g C n ts u B y z v w) (hb : Below w.heap.size w w') : AX g C n ts u B y z v w' :=
  ⟨(hb.block _ (Array.getElem?_eq_some_iff.1 h.row).1).trans h.row, h.ox.later hb⟩
theorem own_one {w : World} {base n : Nat} {t : TypeId} {v : Value} {L : List Value} {s : Nat} (h : w.ownsRow base t s v n L) : v.oneCell' = true := by
  rcases h.2 with ⟨rfl, _⟩ | ⟨g, cap, cur, rfl, _⟩ <;> rfl
theorem OX.set {n : Nat} {ts : List Value} {u : Value} {B g k : Nat} {y z x : Value} {w : World} (h : OX n ts u B y z w) (hz : z.ownBlock ≠ some g) : OX n ts u B y z (w.setCell ⟨g, k, none⟩ x) :=
  ⟨own_chg h.own ((Chg.refl [g] _).setCell (by simp) x) (fun q hq => by simp; rintro rfl; exact hz hq), h.blk, h.one⟩
theorem AX.new {g n B : Nat} {C : Array Value} {ts : List Value} {u y z v x : Value} {wx : World} (h8 : OX n ts u B y z wx) (hz : z.ownBlock ≠ some g) (hr : wx.heap[g]? = some (.cells C 61 (0, 0))) (hv : z = v) : AX g C n ts u B y z x (wx.setCell ⟨g, 5, none⟩ v) := by
  subst hv
  exact ⟨heap_setCell_same _ _ _ _ _ _ hr, h8.set hz⟩
theorem _root_.Go.Proofs.Ytpeioogkbcejmaa.Whu.never {l : Array Bool} {i k q : Nat} {p : Value → World → Prop} {v : Value} {w : World} (hne : i ≠ k) (h : l.getD i false = true → l.getD k false = true) (hu : l.getD k false = false) : Whu (l.setIfInBounds k true) i q p v w := fun hl _ => by
  have := h ((getD_listed hl).resolve_left hne)
  rw [this] at hu
  cases hu
/-- what keep leaves. -/
structure Kept0 (K : DK) (J : LK) (S : LS) (t : List Int) (w : World) (J' : LK) (w' : World) : Prop where
  g : J'.g = J.g
  lg0 : Lg0 w' K J' { S with used := S.used + tk t.length, texts := S.texts ++ [t] }
  chg : Chg J.bl w w'
  bl : ∀ q ∈ J'.bl, q ∈ J.bl ∨ w.heap.size ≤ q
  tx : ∀ q ∈ J'.tx, q ∈ J.tx ∨ w.heap.size ≤ q
structure Kept (K : DK) (J : LK) (S : LS) (t : List Int) (w : World) (J' : LK) (w' : World) : Prop extends Kept0 K J S t w J' w' where
  lg : Lg w' K J' { S with used := S.used + tk t.length, texts := S.texts ++ [t] }
theorem kept_of {w w' : World} {K : DK} {J : LK} {S : LS} {t : List Int} {y z : Value} (h : Lg0 w K J S) (hK : ∀ q ∈ K.bl, q < w.heap.size) (ht : InB t) (hl : t.length ≤ 262144)
    (hr : w'.heap[J.g]? = some (.cells (rowL K ⟨J.g, z, J.ts ++ [y]⟩ { S with used := S.used + tk t.length, texts := S.texts ++ [t] }) 61 (0, 0))) (ho : OX S.texts.length J.ts J.v w.heap.size y z w') (hy : YX t w.heap.size y w') (hc : Chg J.bl w w') : Kept0 K J S t w ⟨J.g, z, J.ts ++ [y]⟩ w' := by
  have hbl : ∀ q ∈ (⟨J.g, z, J.ts ++ [y]⟩ : LK).bl, q ∈ J.bl ∨ w.heap.size ≤ q := by
    intro q hq
    simp only [LK.bl, List.mem_cons, Option.mem_toList] at hq ⊢
    rcases hq with rfl | hq
    · exact .inl (.inl rfl)
    · rcases ho.blk with e | ⟨q', e, hq', _⟩
      · rw [e] at hq; exact .inl (.inr hq)
      · rw [e] at hq; cases hq; exact .inr hq'
  have htx : ∀ q ∈ (⟨J.g, z, J.ts ++ [y]⟩ : LK).tx, q ∈ J.tx ∨ (y.ownBlock = some q) := by
    intro q hq
    simp only [LK.tx, List.flatMap_append, List.mem_append, List.flatMap_cons, List.flatMap_nil, List.append_nil, Option.mem_toList] at hq ⊢
    exact hq
  have hbw : ∀ q ∈ J.bl, q < w.heap.size := by
    intro q hq
    simp only [LK.bl, List.mem_cons, Option.mem_toList] at hq
    rcases hq with rfl | hq
    · exact h.glt
    · exact (h.own.lt q hq).2
  have hz : z.ownBlock ≠ some J.g := ho.ne (fun e => h.gv _ e rfl) h.glt
  refine ⟨rfl, ⟨hr, by rw [List.length_append]; exact ho.own, fun q hq e => hz (by rw [← e]; exact hq), ?_, ?_, ?_, ?_, ?_⟩, hc, hbl, fun q hq => (htx q hq).imp id (fun e => (hy.own q e).1)⟩
  · intro i hi
    simp only [List.length_append, List.length_cons, List.length_nil] at hi
    by_cases e : i < S.texts.length
    · have h1 : (S.texts ++ [t]).getD i [] = S.texts.getD i [] := by simp [List.getD_eq_getElem?_getD, List.getElem?_append_left e]
      have h2 : (J.ts ++ [y]).getD i undef = J.ts.getD i undef := by simp [List.getD_eq_getElem?_getD, List.getElem?_append_left (show i < J.ts.length by rw [h.len]; exact e)]
      simp only [h1, h2]
      obtain ⟨A, c, e1, hB⟩ := h.txt i e
      exact ⟨A, c, e1, hB.chg hc (fun a ha => (h.tap _ (mem_tx (by rw [e1, ha]) (by rw [h.len]; exact e))).2)⟩
    · obtain rfl : i = S.texts.length := by omega
      have h1 : (S.texts ++ [t]).getD S.texts.length [] = t := by simp [List.getD_eq_getElem?_getD]
      have h2 : (J.ts ++ [y]).getD S.texts.length undef = y := by rw [← h.len]; simp [List.getD_eq_getElem?_getD]
      simp only [h1, h2]
      exact hy.sl
  · intro q hq
    rcases htx q hq with a | a
    · exact Nat.lt_of_lt_of_le (h.tlt q a) hc.size
    · exact (hy.own q a).2
  · intro q hq
    rcases htx q hq with a | a
    · refine ⟨(h.tap q a).1, fun hm => ?_⟩
      rcases hbl q hm with b | b
      · exact (h.tap q a).2 b
      · have := h.tlt q a; omega
    · have hge := (hy.own q a).1
      refine ⟨fun hm => by have := hK q hm; omega, fun hm => ?_⟩
      simp only [LK.bl, List.mem_cons, Option.mem_toList] at hm
      rcases hm with rfl | hm
      · have := h.glt; omega
      · rcases ho.blk with e | ⟨q', e, _, hn⟩
        · rw [e] at hm; have := (h.own.lt q hm).2; omega
        · rw [e] at hm; cases hm; exact hn q a rfl
  · intro q hq hm
    rcases hbl q hq with b | b
    · exact h.kap q b hm
    · have := hK q hm; omega
  · intro x hx
    rcases List.mem_append.1 hx with a | a
    · exact h.inb x a
    · simp at a; subst a; exact ⟨ht, hl⟩
set_option maxRecDepth 100000 in
set_option maxHeartbeats 4000000 in
theorem keep0 {w : World} {K : DK} {J : LK} {S : LS} (h : Lg0 w K J S) (hK : ∀ q ∈ K.bl, q < w.heap.size) {t : List Int} {v : Value} (hv : SlB t v w) (ht : InB t) (hl : t.length ≤ 262144) (hn : S.texts.length ≤ 100000) (hus : S.used ≤ 1000000000) :
    Calls Try.prog 34 #[J.ptr, v] w fun e w' => e = .returned (.tuple #[]) ∧ ∃ J', Kept0 K J S t w J' w' := by
  have hrow := h.row
  have hg := h.glt
  have hown := h.own
  have hug : J.v.ownBlock ≠ some J.g := fun e => h.gv _ e rfl
  have hub : ∀ q, J.v.ownBlock = some q → q < w.heap.size := fun q hq => (hown.lt q hq).2
  have H := Lib.hid h
  have HK := Lib.hid hK
  have Hl := Lib.hid hl
  have Ht := Lib.hid ht
  obtain ⟨C, hC⟩ : ∃ C, C = rowL K J S := ⟨_, rfl⟩
  rw [← hC] at hrow
  have c5 : C[5]? = some J.v := by rw [hC]; rfl
  have c4 : C[4]? = some (.int .i64 S.used) := by rw [hC]; rfl
  have hCs : C.size = 7 := by rw [hC]; rfl
  obtain ⟨A, c, rfl, hB⟩ := hv
  obtain ⟨n, hn'⟩ : ∃ n, n = t.length := ⟨_, rfl⟩
  rw [← hn'] at hl ⊢
  have HC := Lib.hid hC
  have HN := Lib.hid hn'
  have Hrow := Lib.hid hrow
  have Hg := Lib.hid hg
  have Hown := Lib.hid hown
  have Hug := Lib.hid hug
  have Hub := Lib.hid hub
  have Hn := Lib.hid hn
  have C5 := Lib.hid c5
  have C4 := Lib.hid c4
  have HCs := Lib.hid hCs
  have HB := Lib.hid hB
  have Hsec := Lib.hid (fun w => (sectorsOf_any n (by omega) w).mono (fun (e : Ending) w' (h : e = .returned (.int .i64 (tk n : Nat)) ∧ w = w') => (⟨h.1, h.2.symm⟩ : e = .returned (.int .i64 (tk n : Nat)) ∧ w' = w)))
  have hlI : (n : Int) ≤ 262144 := by omega
  have htk : tk n ≤ 3000 := by unfold tk; omega
  obtain ⟨u, hu⟩ : ∃ u, u = S.used := ⟨_, rfl⟩
  rw [← hu] at C4 hus
  have Hu := Lib.hid hu
  obtain ⟨k, hk⟩ : ∃ k, k = tk n := ⟨_, rfl⟩
  rw [← hk] at Hsec htk
  have HKk := Lib.hid hk
  have hKsub : ∀ q ∈ (J.g :: J.v.ownBlock.toList), q < w.heap.size := by
    intro q hq
    simp at hq
    rcases hq with rfl | hq
    · exact hg
    · exact hub q hq
  have Hsub := Lib.hid hKsub
  have hT : ∀ wx, Chg (J.g :: J.v.ownBlock.toList) w wx → (∀ l11 : Bool, True) → True := fun _ _ _ => trivial
  clear hT
  unfold LK.ptr
  clear h hK hl ht hC hn' hrow hg hown hug hub hn c5 c4 hCs hB hu hk hKsub
  go_enter Try.func34, Try.ntmps34
  go_upto_region 0 with (fail)
  have apx : apartB [4, 5, 6, 7, 8, 9, 10, 11, 12, 13, 14, 1011] = true := by decide
  refine wp_region_any (by kernel_rfl) ?_
  change wpAny _ _ _ _ _ _ _ (World.drew _)
  refine wpAny_inv2 (fun ll aa wx => Hid (ll.size = 12 ∧ RK J.g C J.v w ll wx) ∧ ∃ (z : Nat → Value), Hid (aa = ⟨#[.pointer (some ⟨J.g, 0, none⟩), .slice A n c, undef, undef, z 4, z 5, z 6, z 7, z 8, z 9, z 10, z 11, z 12, z 13, z 14, undef, undef, undef, undef, undef, undef, undef, undef, undef, undef], []⟩) ∧ Holding [4, 5, 6, 7, 8, 9, 10, 11, 12, 13, 14, 1011] [some (.pointer (some ⟨J.g, 0, none⟩)), some (.pointer (some ⟨J.g, 0, none⟩)), some (.pointer (some ⟨J.g, 0, none⟩)), some (.pointer (some ⟨J.g, 5, none⟩)), some (J.v), some (.slice A n c), none, none, none, some (.pointer (some ⟨J.g, 0, none⟩)), some (.pointer (some ⟨J.g, 5, none⟩)), none] ll z ∧ Whn ll 6 (YX t w.heap.size) (z 10) wx ∧ Whu ll 7 8 (NX (z 10)) (z 11) wx ∧ Whu ll 8 11 (OX S.texts.length J.ts J.v w.heap.size (z 10)) (z 12) wx ∧ Whn ll 11 (AX J.g C S.texts.length J.ts J.v w.heap.size (z 10) (z 12)) (z 1011) wx) ?_ (by kernel_rfl) ?_ ?_ _ rfl _ _ ?_
  · rintro ll aa wx ⟨hI, _⟩
    exact hI.out.1
  · rintro ll aa wx ⟨hI, z, ha, hz, hp6, hp7, hp8, hp11⟩ hall
    have hx := Lib.hid hI.out.2
    have e0 : z 4 = .pointer (some ⟨J.g, 0, none⟩) := hz 0 _ (hall 0 (by decide)) rfl
    have e1 : z 5 = .pointer (some ⟨J.g, 0, none⟩) := hz 1 _ (hall 1 (by decide)) rfl
    have e2 : z 6 = .pointer (some ⟨J.g, 0, none⟩) := hz 2 _ (hall 2 (by decide)) rfl
    have e3 : z 7 = .pointer (some ⟨J.g, 5, none⟩) := hz 3 _ (hall 3 (by decide)) rfl
    have e4 : z 8 = J.v := hz 4 _ (hall 4 (by decide)) rfl
    have e5 : z 9 = .slice A n c := hz 5 _ (hall 5 (by decide)) rfl
    have e9 : z 13 = .pointer (some ⟨J.g, 0, none⟩) := hz 9 _ (hall 9 (by decide)) rfl
    have e10 : z 14 = .pointer (some ⟨J.g, 5, none⟩) := hz 10 _ (hall 10 (by decide)) rfl
    have p6 := hp6.get (hall 6 (by decide))
    have p11 := hp11.get (hall 11 (by decide))
    clear hall hz hI hp6 hp7 hp8 hp11
    obtain rfl := ha.out
    clear ha
    clear apx
    have P6 := Lib.hid p6
    have P11 := Lib.hid p11
    have HX := Lib.hid hx.out.chg
    clear p6 p11 hx e0 e1 e2 e3 e4 e5 e9 e10
    generalize z 10 = y at *
    generalize z 12 = zz at *
    generalize z 11 = y11
    generalize z 1011 = y1011 at *
    generalize z 4 = y4
    generalize z 5 = y5
    generalize z 6 = y6
    generalize z 7 = y7
    generalize z 8 = y8
    generalize z 9 = y9
    generalize z 13 = y13
    generalize z 14 = y14
    try dsimp only
    have hr1 := P11.out.row
    have c5 := cell_row hr1 4
    rw [Array.getElem?_setIfInBounds, if_neg (by decide), C4.out] at c5
    have f5 := free_row hr1 4
    clear z
    go_upto_region 1 with (fail)
    refine wp_region_still_tail 10 (by kernel_rfl) (by kernel_rfl) ?_
    simp only [List.take_succ_cons, List.take_zero, List.drop_succ_cons, List.drop_zero]
    change wpStill _ _ wx.drew _ _ _
    have hr2 : wx.drew.heap[J.g]? = some (.cells (C.setIfInBounds 5 zz) 61 (0, 0)) := hr1
    have c52 : wx.drew.cell? ⟨J.g, 4, none⟩ = some (.int .i64 u) := c5
    have f52 : wx.drew.frozen? ⟨J.g, 4, none⟩ = false := f5
    repeat (first
      | (refine wpStill_step (fun K hK => ?_); go_simp; refine hK _ ?_; clear hK K)
      | (refine wpStill_step (fun K hK => ?_); go_simp; refine ⟨_, Hsec.out _, hK _ ?_⟩; clear hK K))
    refine wpStill_nil ?_
    change wpList _ _ _ _ _ wx.drew
    have hc2 := HX.out.trans (Chg.of_below (Below.refl wx.heap.size wx).drew)
    have p62 := P6.out.later (Below.refl wx.heap.size wx).drew
    have ox2 := P11.out.ox.later (Below.refl wx.heap.size wx).drew
    generalize wx.drew = w4 at hr2 c52 f52 hc2 p62 ox2 ⊢
    have Hr2 := Lib.hid hr2
    have Hc2 := Lib.hid hc2
    have P62 := Lib.hid p62
    have Ox2 := Lib.hid ox2
    clear hr2 hc2 p62 ox2 hr1 c5 f5 P6 P11 HX
    go_wp2
    refine bodyPost_end (results_none rfl _ _ _) rfl ?_
    have hz := Ox2.out.ne Hug.out Hg.out
    refine ⟨rfl, ⟨J.g, zz, J.ts ++ [y]⟩, ?_⟩
    rw [HN.out] at HKk
    have hk4 : ((u : Int) + (k : Int)) = ((S.used + tk t.length : Nat) : Int) := by rw [← HKk.out, ← Hu.out]; omega
    refine kept_of H.out HK.out Ht.out Hl.out ?_ (Ox2.out.set hz) (P62.out.chg ((Chg.refl [J.g] _).setCell (by simp) _) (fun q hq => by simp at hq; rw [hq]; exact Hg.out)) (Hc2.out.setCell (by simp) _)
    rw [heap_setCell_same _ _ _ _ _ _ Hr2.out, HC.out, hk4]
    rfl
  · rintro ll aa wx i ⟨hI, z, ha, hz, hp6, hp7, hp8, hp11⟩ hcl hi hu hw
    obtain rfl := ha.out
    have hsz := Lib.hid hI.out.1
    have hx := Lib.hid hI.out.2
    clear ha hI
    have hin : i < 12 := hi
    obtain rfl | rfl | rfl | rfl | rfl | rfl | rfl | rfl | rfl | rfl | rfl | rfl : i = 0 ∨ i = 1 ∨ i = 2 ∨ i = 3 ∨ i = 4 ∨ i = 5 ∨ i = 6 ∨ i = 7 ∨ i = 8 ∨ i = 9 ∨ i = 10 ∨ i = 11 := by omega
    · refine wpOp_plain rfl rfl ?_
      go_simp
      exact ⟨⟨by simp [hsz.out], hx.out.same (by decide) (by decide)⟩, upd z 4 (.pointer (some ⟨J.g, 0, none⟩)), (by unfold Hid; simp [upd]), hz.next apx hsz.out 0 (by decide) _ (fun _ h => Option.some.inj h), hp6.keep (by decide), hp7.keep (by decide), hp8.keep (by decide), hp11.keep (by decide)⟩
    · refine wpOp_plain rfl rfl ?_
      go_simp
      exact ⟨⟨by simp [hsz.out], hx.out.same (by decide) (by decide)⟩, upd z 5 (.pointer (some ⟨J.g, 0, none⟩)), (by unfold Hid; simp [upd]), hz.next apx hsz.out 1 (by decide) _ (fun _ h => Option.some.inj h), hp6.keep (by decide), hp7.keep (by decide), hp8.keep (by decide), hp11.keep (by decide)⟩
    · have e1 : z 5 = .pointer (some ⟨J.g, 0, none⟩) := hz 1 _ (hw 1 (by kernel_rfl)) rfl
      refine wpOp_plain rfl rfl ?_
      go_simp
      exact ⟨⟨by simp [hsz.out], hx.out.same (by decide) (by decide)⟩, upd z 6 (.pointer (some ⟨J.g, 0, none⟩)), (by unfold Hid; simp [upd, e1]), hz.next apx hsz.out 2 (by decide) _ (fun _ h => Option.some.inj h), hp6.keep (by decide), hp7.keep (by decide), hp8.keep (by decide), hp11.keep (by decide)⟩
    · have e2 : z 6 = .pointer (some ⟨J.g, 0, none⟩) := hz 2 _ (hw 2 (by kernel_rfl)) rfl
      refine wpOp_plain rfl rfl ?_
      go_simp
      exact ⟨⟨by simp [hsz.out], hx.out.same (by decide) (by decide)⟩, upd z 7 (.pointer (some ⟨J.g, 5, none⟩)), (by unfold Hid; simp [upd, e2]), hz.next apx hsz.out 3 (by decide) _ (fun _ h => Option.some.inj h), hp6.keep (by decide), hp7.keep (by decide), hp8.keep (by decide), hp11.keep (by decide)⟩
    · have e3 : z 7 = .pointer (some ⟨J.g, 5, none⟩) := hz 3 _ (hw 3 (by kernel_rfl)) rfl
      have hn11 : ll.getD 11 false = false := not_listed (fun hl => hcl 8 4 (hcl 11 8 hl (by kernel_rfl)) (by kernel_rfl)) hu
      have c8 := cell_row (hx.out.row hn11) 5
      rw [C5.out] at c8
      refine wpOp_plain rfl rfl ?_
      go_simp
      exact ⟨⟨by simp [hsz.out], hx.out.same (by decide) (by decide)⟩, upd z 8 (J.v), (by unfold Hid; simp [upd, e3]), hz.next apx hsz.out 4 (by decide) _ (fun _ h => Option.some.inj h), hp6.keep (by decide), hp7.keep (by decide), hp8.keep (by decide), hp11.keep (by decide)⟩
    · refine wpOp_plain rfl rfl ?_
      go_simp
      exact ⟨⟨by simp [hsz.out], hx.out.same (by decide) (by decide)⟩, upd z 9 (.slice A n c), (by unfold Hid; simp [upd]), hz.next apx hsz.out 5 (by decide) _ (fun _ h => Option.some.inj h), hp6.keep (by decide), hp7.keep (by decide), hp8.keep (by decide), hp11.keep (by decide)⟩
    · have e5 : z 9 = .slice A n c := hz 5 _ (hw 5 (by kernel_rfl)) rfl
      refine wpOp_plain rfl rfl ?_
      go_simp
      go_at_call 28
      refine (clone_sl (L := t) ⟨A, c, by rw [← HN.out], HB.out.below (hx.out.low (not_listed (fun hl => hcl 7 6 (hcl 8 7 hl (by kernel_rfl)) (by kernel_rfl)) hu) (not_listed (fun hl => hcl 7 6 (hcl 8 7 (hcl 11 8 hl (by kernel_rfl)) (by kernel_rfl)) (by kernel_rfl)) hu)) (Nat.le_refl _)⟩ (by have := Hl.out; omega)).mono ?_
      rintro e w' ⟨vr, rfl, ho, low⟩
      exact ⟨⟨by simp [hsz.out], hx.out.call Hg.out (by decide) (by decide) low⟩, upd z 10 (vr), (by unfold Hid; simp [upd, e5]), hz.next apx hsz.out 6 (by decide) _ (fun _ h => by cases h), Whn.done (YX.new (own_lower ho hx.out.chg.size) (own_sl ho rfl)), Whu.never (by decide) (fun hl => hcl 7 6 hl (by kernel_rfl)) hu, Whu.never (by decide) (fun hl => hcl 8 6 hl (by kernel_rfl)) hu, Whn.never (by decide) (fun hl => hcl 11 6 hl (by kernel_rfl)) hu⟩
    · have p6 := hp6.get (hw 6 (by kernel_rfl))
      obtain ⟨A6, c6, hv6, _⟩ := p6.sl
      have lown : Below wx.heap.size wx (wx.alloc (.cells #[.slice A6 t.length c6] 33)) := (Below.refl _ _).alloc (Nat.le_refl _) _
      refine wpOp_plain rfl rfl ?_
      simp only [hv6]
      go_simp
      exact ⟨⟨by simp [hsz.out], hx.out.call Hg.out (by decide) (by decide) lown⟩, upd z 11 (.slice (some ⟨wx.heap.size, 0, none⟩) 1 1), (by unfold Hid; simp [upd, hv6]), hz.next apx hsz.out 7 (by decide) _ (fun _ h => by cases h), (hp6.keep (by decide)).map (fun h => h.later lown), Whu.done (NX.new hv6 (Go.heap_alloc_new wx _)), (hp8.keep (by decide)).map (fun h => h.later lown), (hp11.keep (by decide)).map (fun h => h.later lown)⟩
    · have e4 : z 8 = J.v := hz 4 _ (hw 4 (by kernel_rfl)) rfl
      have p6 := hp6.get (hw 6 (by kernel_rfl))
      have p7 := hp7.get (hw 7 (by kernel_rfl)) hu
      obtain ⟨N, hv7, hN⟩ := p7
      have hn11 : ll.getD 11 false = false := not_listed (fun hl => hcl 11 8 hl (by kernel_rfl)) hu
      have ho8 := own_stays Hown.out (hx.out.low hu hn11)
      refine wpOp_plain rfl rfl (wp_app_sl (.tmp 8) (.tmp 11) rfl 0 J.v S.texts.length J.ts (z 10) p6.one e4 ho8 N hv7 hN Hn.out (Nat.zero_le _) ?_)
      intro vr w9 hown9 hgrow9 hblk9
      go_simp
      exact ⟨⟨by simp [hsz.out], hx.out.app Hg.out Hug.out (by rw [hsz.out]; decide) hgrow9⟩, upd z 12 (vr), (by unfold Hid; simp [upd, e4, hv7]), hz.next apx hsz.out 8 (by decide) _ (fun _ h => by cases h), (hp6.keep (by decide)).map (fun h => h.chg (chg_grown hgrow9) (fun q hq => Hsub.out q (by simp at hq; simp [hq]))), Whu.past (by rw [hsz.out]; decide), Whu.done (OX.new hown9 hblk9 p6 hx.out.chg.size), Whn.never (by decide) (fun hl => hcl 11 8 hl (by kernel_rfl)) hu⟩
    · have e0 : z 4 = .pointer (some ⟨J.g, 0, none⟩) := hz 0 _ (hw 0 (by kernel_rfl)) rfl
      refine wpOp_plain rfl rfl ?_
      go_simp
      exact ⟨⟨by simp [hsz.out], hx.out.same (by decide) (by decide)⟩, upd z 13 (.pointer (some ⟨J.g, 0, none⟩)), (by unfold Hid; simp [upd, e0]), hz.next apx hsz.out 9 (by decide) _ (fun _ h => Option.some.inj h), hp6.keep (by decide), hp7.keep (by decide), hp8.keep (by decide), hp11.keep (by decide)⟩
    · have e9 : z 13 = .pointer (some ⟨J.g, 0, none⟩) := hz 9 _ (hw 9 (by kernel_rfl)) rfl
      refine wpOp_plain rfl rfl ?_
      go_simp
      exact ⟨⟨by simp [hsz.out], hx.out.same (by decide) (by decide)⟩, upd z 14 (.pointer (some ⟨J.g, 5, none⟩)), (by unfold Hid; simp [upd, e9]), hz.next apx hsz.out 10 (by decide) _ (fun _ h => Option.some.inj h), hp6.keep (by decide), hp7.keep (by decide), hp8.keep (by decide), hp11.keep (by decide)⟩
    · have e10 : z 14 = .pointer (some ⟨J.g, 5, none⟩) := hz 10 _ (hw 10 (by kernel_rfl)) rfl
      have p8 := hp8.get (hw 8 (by kernel_rfl)) hu
      have crow := hx.out.row hu
      have c8 : wx.cell? ⟨J.g, 5, none⟩ = some J.v := (cell_row crow 5).trans C5.out
      have f8 : wx.frozen? ⟨J.g, 5, none⟩ = false := free_row crow 5
      have hz8 : (z 12).ownBlock ≠ some J.g := p8.ne Hug.out Hg.out
      obtain ⟨A8, c8e, hv8⟩ := own_nilK p8.own
      refine wpOp_plain rfl rfl ?_
      simp only [hv8]
      go_simp
      exact ⟨⟨by simp [hsz.out], hx.out.store (by rw [hsz.out]; decide) (hw 8 (by kernel_rfl))⟩, upd z 1011 (undef), (by unfold Hid; simp [upd, e10, hv8]), hz.next apx hsz.out 11 (by decide) _ (fun _ h => by cases h), (hp6.keep (by decide)).map (fun h => h.chg ((Chg.refl [J.g] _).setCell (by simp) _) (fun q hq => Hsub.out q (by simp at hq; simp [hq]))), Whu.gone (hw 8 (by kernel_rfl)), Whu.past (by rw [hsz.out]; decide), Whn.done (AX.new p8 hz8 crow hv8)⟩
  · exact ⟨⟨rfl, RK.start Hrow.out⟩, fun xx => (#[.pointer (some ⟨J.g, 0, none⟩), .slice A n c, undef, undef, undef, undef, undef, undef, undef, undef, undef, undef, undef, undef, undef, undef, undef, undef, undef, undef, undef, undef, undef, undef, undef] : Array Value).getD xx undef, rfl, Holding.start, Whn.none (by decide), Whu.none (by decide), Whu.none (by decide), Whn.none (by decide)⟩
theorem keep_any {w : World} {K : DK} {J : LK} {S : LS} (h : Lg w K J S) (hK : ∀ q ∈ K.bl, q < w.heap.size) {t : List Int} {v : Value} (hv : SlB t v w) (ht : InB t) (hl : t.length ≤ 262144) (hfit : S.used + tk t.length ≤ S.secs) :
    Calls Try.prog 34 #[J.ptr, v] w fun e w' => e = .returned (.tuple #[]) ∧ ∃ J', Kept K J S t w J' w' := by
  have h1 := h.cnt
  have h2 := h.fit
  have h3 := h.end_
  have h4 := tk_pos t.length
  refine (keep0 h.toLg0 hK hv ht hl (by omega) (by omega)).mono ?_
  rintro e w' ⟨rfl, J', hk⟩
  exact ⟨rfl, J', ⟨hk, ⟨hk.lg0, hfit, h3, by simp only [List.length_append, List.length_cons, List.length_nil]; omega⟩⟩⟩
end Go.Proofs.Ytpeioogkbcejmaa.Slt
