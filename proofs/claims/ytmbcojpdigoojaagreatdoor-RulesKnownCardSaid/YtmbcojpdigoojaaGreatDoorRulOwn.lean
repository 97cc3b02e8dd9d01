/- DERIVED. Rows of rules of the call's own; an append of one; rules.copied. -/
import Derived.Test.YtmbcojpdigoojaaGreatDoorRulCheckAny
import Derived.Test.YtmbcojpdigoojaaGreatDoorLabRows
import Derived.Test.YtmbcojpdigoojaaGreatDoorOwn2
import Derived.Deep.RegionWith
namespace Go.Proofs.YtmbcojpdigoojaaGreatDoor.Rul
open Go.RowKit Lab Pth Str
theorem flatten_get {α : Type} {f : α → List Value} {s : Nat} (hf : ∀ x, (f x).length = s) : ∀ {xs : List α} (i : Nat) (x : α), xs[i]? = some x → ∀ j v, (f x)[j]? = some v → ((xs.map f).flatten)[i * s + j]? = some v := by
  intro xs
  induction xs with
  | nil => intro i x hx; simp at hx
  | cons y ys ih =>
    intro i x hx j v hv
    simp only [List.map_cons, List.flatten_cons]
    cases i with
    | zero =>
      obtain rfl := Option.some.inj hx
      have hj := (List.getElem?_eq_some_iff.1 hv).1
      rw [Nat.zero_mul, Nat.zero_add, List.getElem?_append_left (by omega)]
      exact hv
    | succ i =>
      have hy := hf y
      have e1 : (i + 1) * s = i * s + s := Nat.succ_mul i s
      rw [List.getElem?_append_right (by omega)]
      have e : (i + 1) * s + j - (f y).length = i * s + j := by omega
      rw [e]
      exact ih i x (by simpa using hx) j v hv
def flatR (xs : List Rl) : List Value := (xs.map fun x => (rlc x).toList).flatten
theorem flatR_app (xs : List Rl) (x : Rl) : flatR (xs ++ [x]) = flatR xs ++ (rlc x).toList := by simp [flatR]
theorem flatR_get {xs : List Rl} (i : Nat) (x : Rl) (hx : xs[i]? = some x) (j : Nat) (v : Value) (hv : (rlc x).toList[j]? = some v) : (flatR xs)[i * 3 + j]? = some v := flatten_get (f := fun x => (rlc x).toList) (fun _ => rfl) i x hx j v hv
/-- a row of rules of the call's own. -/
def OwnR (base : Nat) (xs : List Rl) (v : Value) (w : World) : Prop := w.ownsRow base 48 3 v xs.length (flatR xs)
theorem OwnR.nil (w : World) (base : Nat) : OwnR base [] (.slice none 0 0) w := World.ownsRow_nil w base 48 3
theorem OwnR.ruls {base : Nat} {xs : List Rl} {v : Value} {w : World} (h : OwnR base xs v w) : ∃ A c, v = .slice A xs.length c ∧ Ruls w A c xs := by
  rcases h.2 with ⟨rfl, h0⟩ | ⟨g, cap, cur, hv, hb, hg, hn, hm, hs, ht⟩
  · exact ⟨none, 0, by rw [h0], by omega, fun _ => rfl, fun h => by omega⟩
  · refine ⟨_, cap, hv, hn, (fun h => by cases h), fun _ => ⟨g, 0, rfl, (Array.getElem?_eq_some_iff.1 hg).1, fun i x hx j u hu => ?_⟩⟩
    have k := flatR_get i x hx j u hu
    rw [← ht] at k
    have hlt : i * 3 + j < xs.length * 3 := by
      have := (List.getElem?_eq_some_iff.1 k).1
      rw [List.length_take] at this
      omega
    rw [List.getElem?_take, if_pos hlt] at k
    rw [Nat.zero_add, cell_row hg]
    simpa using k
def rulZero : Value := .agg (rlc ⟨⟨#[]⟩, 0, 0⟩)
theorem infoRz : (Tryz.prog.info? 48).map (fun i => (i.zero, i.size, i.bytes)) = some (some rulZero, 3, 32) := by kernel_rfl
theorem rlc_ones (r : Rl) : ∀ u ∈ (rlc r).toList, u.oneCell' = true := by
  intro v hv
  simp only [List.mem_cons, List.mem_nil_iff, or_false] at hv
  rcases hv with rfl | rfl | rfl <;> rfl
/-- append(m, x), x laid in a block of its own. -/
theorem wpList_append_rul {w : World} {ops : Array Oper} {rest : List Oper} {o : Oper} {a : Act} {Q : Exit → Act → World → Prop} (hgd : o.guard = none) (s y : Operand)
    (ho : o.op = .call { callee := .builtin .append, args := #[s, y], argTypes := #[22, 22] }) (base : Nat) (v : Value) (xs : List Rl) (x : Rl) (hs : a.eval s = v) (hown : OwnR base xs v w)
    (g : Nat) (hy : a.eval y = .slice (some ⟨g, 0, none⟩) 1 1) (hg : w.heap[g]? = some (.cells (rlc x) 48 (0, 0))) (h63 : xs.length ≤ 100000) (hbase : base ≤ w.heap.size)
    (h : ∀ v' w', OwnR base (xs ++ [x]) v' w' → w.grownBy w' v.ownBlock → wpList Tryz.prog ops Q rest (a.put o.dst v') w') : wpList Tryz.prog ops Q (o :: rest) a w := by
  obtain ⟨i0, hi0, hz00, hz10, hz20⟩ := info_parts infoRz
  refine wpList_append_own_at _ hgd s y 22 ho base 48 i0 rulZero 3 32 Tryz.underlying22 hi0 hz00 hz10 hz20 rfl (by decide) v xs.length (flatR xs) hs hown ⟨g, 0, none⟩ 1 1 (rlc x).toList hy rfl
    (fun j u hu => by rw [Addr.add_mid, Nat.zero_add, cell_row hg]; simpa using hu) (rlc_ones _) (by unfold maxLen; omega) (by omega) hbase ?_
  intro v' w' hown' hgrow _ _
  refine h v' w' ?_ hgrow
  unfold OwnR
  rw [flatR_app, List.length_append]
  exact hown'
/-- copied's two blocks: the rule, and what it returns. -/
structure Cp (g1 : Nat) (r : Rl) (w wx : World) : Prop where
  box : wx.heap[g1]? = some (.cells (rlc r) 48 (0, 0))
  row : ∃ x : Rl, wx.heap[g1 + 1]? = some (.cells (rlc x) 48 (0, 0))
  low : Below g1 w wx
theorem Cp.later {g1 : Nat} {r : Rl} {w wx wy : World} (h : Cp g1 r w wx) (hb : Below wx.heap.size wx wy) : Cp g1 r w wy := by
  obtain ⟨x, hx⟩ := h.row
  have h1 := (Array.getElem?_eq_some_iff.1 h.box).1
  have h2 := (Array.getElem?_eq_some_iff.1 hx).1
  exact ⟨(hb.block _ h1).trans h.box, ⟨x, (hb.block _ h2).trans hx⟩, h.low.trans (hb.mono (by omega))⟩
theorem Cp.put {g1 : Nat} {r : Rl} {w wx : World} (h : Cp g1 r w wx) (y : Rl) : Cp g1 r w (wx.setRow (g1 + 1) (rlc y)) := by
  obtain ⟨x, hx⟩ := h.row
  exact ⟨by rw [setRow_ne (by omega)]; exact h.box, ⟨y, setRow_at hx⟩, Lab.below_setRow h.low (by omega) _⟩
def CpR (g : Nat) (r : Rl) (_ : Value) (wx : World) : Prop := wx.heap[g]? = some (.cells (rlc r) 48 (0, 0))
theorem CpR.later {g : Nat} {r : Rl} {v : Value} {w w' : World} (h : CpR g r v w) (hb : Below w.heap.size w w') : CpR g r v w' := (hb.block _ (Array.getElem?_eq_some_iff.1 h).1).trans h
set_option maxRecDepth 100000 in
set_option maxHeartbeats 2000000 in
theorem copied_any (r : Rl) (w : World) (hr : r.p.size ≤ 1000) : Calls Tryz.prog 36 #[.agg (rlc r)] w fun e w' => e = .returned (.agg (rlc r)) ∧ Below w.heap.size w w' := by
  have h2 := two_new w (.cells (rlc r) 48) (.cells (rlc ⟨⟨#[]⟩, 0, 0⟩) 48)
  have k2 : Below w.heap.size w ((w.alloc (.cells (rlc r) 48)).alloc (.cells (rlc ⟨⟨#[]⟩, 0, 0⟩) 48)) := ((Below.refl _ _).alloc (Nat.le_refl _) _).alloc (by rw [World.size_alloc]; omega) _
  obtain ⟨W2, hW2⟩ : ∃ W2, W2 = (w.alloc (.cells (rlc r) 48)).alloc (.cells (rlc ⟨⟨#[]⟩, 0, 0⟩) 48) := ⟨_, rfl⟩
  rw [← hW2] at h2 k2
  have HW2 : Hid ((w.alloc (.cells (rlc r) 48)).alloc (.cells #[.string ⟨#[]⟩, .int .i64 0, .int .u64 0] 48) = W2) := by show _ = _; rw [hW2]; rfl
  have HC : Hid (Cp w.heap.size r w W2) := ⟨h2.1, ⟨_, h2.2⟩, k2⟩
  clear h2 k2 hW2
  go_enter Tryz.func36, Tryz.ntmps36
  go_upto_region 1 with fail
  rw [HW2.out]
  clear HW2
  generalize hg1 : w.heap.size = g1 at *
  have Hg1 := Lib.hid hg1
  clear hg1
  have apx : apartB [3, 4, 5, 6, 7, 8, 1006] = true := by decide
  refine wp_region_any (by kernel_rfl) ?_
  change wpAny _ _ _ _ _ _ _ (World.drew _)
  refine wpAny_inv (fun ll aa wx => Hid (ll.size = 7 ∧ Cp g1 r w wx) ∧ ∃ (z : Nat → Value), Hid (aa = ⟨#[.agg (rlc r), .pointer (some ⟨g1, 0, none⟩), .pointer (some ⟨g1 + 1, 0, none⟩), z 3, z 4, z 5, z 6, z 7, z 8], []⟩) ∧ Holding [3, 4, 5, 6, 7, 8, 1006] [some (.pointer (some ⟨g1, 0, none⟩)), some (.string r.p), some (.string r.p), some (.pointer (some ⟨g1, 1, none⟩)), some (.agg (lab r.a r.c)), some (.agg (rlc r)), none] ll z ∧ Whn ll 6 (CpR (g1 + 1) r) (z 1006) wx) ?_ (by kernel_rfl) ?_ ?_ _ _ _ _ (unlisted_none _) ?_
  · rintro ll aa wx ⟨hI, _⟩
    exact hI.out.1
  · rintro ll aa wx ⟨hI, z, ha, hz, hp6⟩ hall
    have hx := Lib.hid hI.out.2
    have e0 : z 3 = .pointer (some ⟨g1, 0, none⟩) := hz 0 _ (hall 0 (by decide)) rfl
    have e1 : z 4 = .string r.p := hz 1 _ (hall 1 (by decide)) rfl
    have e2 : z 5 = .string r.p := hz 2 _ (hall 2 (by decide)) rfl
    have e3 : z 6 = .pointer (some ⟨g1, 1, none⟩) := hz 3 _ (hall 3 (by decide)) rfl
    have e4 : z 7 = .agg (lab r.a r.c) := hz 4 _ (hall 4 (by decide)) rfl
    have e5 : z 8 = .agg (rlc r) := hz 5 _ (hall 5 (by decide)) rfl
    have p6 := hp6.get (hall 6 (by decide))
    clear hall hz hI hp6
    obtain rfl := ha.out
    clear ha
    clear apx
    have P6 := Lib.hid p6
    have HX := Lib.hid hx.out.low
    clear e0 e1 e2 e3 e4 e5 hx p6
    go_wp2
    exact bodyPost_ret (v := .agg (rlc r)) (results_cell_row rfl _ _ (g1 + 1) 48 _ (0, 0) _ rfl P6.out Tryz.underlying48 rfl infoR) rfl ⟨rfl, by rw [Hg1.out]; exact HX.out⟩
  · rintro ll aa wx i ⟨hI, z, ha, hz, hp6⟩ hi hu hw
    obtain rfl := ha.out
    have hsz := Lib.hid hI.out.1
    have hx := Lib.hid hI.out.2
    clear ha hI
    have hin : i < 7 := hi
    obtain rfl | rfl | rfl | rfl | rfl | rfl | rfl : i = 0 ∨ i = 1 ∨ i = 2 ∨ i = 3 ∨ i = 4 ∨ i = 5 ∨ i = 6 := by omega
    · refine wpOp_plain rfl rfl ?_
      go_simp
      exact ⟨⟨by simp [hsz.out], hx.out⟩, upd z 3 (.pointer (some ⟨g1, 0, none⟩)), (by unfold Hid; simp [upd]), hz.next apx hsz.out 0 (by decide) _ (fun _ h => Option.some.inj h), hp6.keep (by decide)⟩
    · have e0 : z 3 = .pointer (some ⟨g1, 0, none⟩) := hz 0 _ (hw 0 (by kernel_rfl)) rfl
      have cl := (rule_row hx.out.box).1
      refine wpOp_plain rfl rfl ?_
      go_simp
      exact ⟨⟨by simp [hsz.out], hx.out⟩, upd z 4 (.string r.p), (by unfold Hid; simp [upd, e0]), hz.next apx hsz.out 1 (by decide) _ (fun _ h => Option.some.inj h), hp6.keep (by decide)⟩
    · have e1 : z 4 = .string r.p := hz 1 _ (hw 1 (by kernel_rfl)) rfl
      refine wpOp_plain rfl rfl ?_
      go_simp
      go_at_call 53
      refine (clone_any r.p wx hr).mono ?_
      rintro e w' ⟨rfl, low⟩
      exact ⟨⟨by simp [hsz.out], hx.out.later low⟩, upd z 5 (.string r.p), (by unfold Hid; simp [upd, e1]), hz.next apx hsz.out 2 (by decide) _ (fun _ h => Option.some.inj h), (hp6.keep (by decide)).map (fun h => h.later low)⟩
    · refine wpOp_plain rfl rfl ?_
      go_simp
      exact ⟨⟨by simp [hsz.out], hx.out⟩, upd z 6 (.pointer (some ⟨g1, 1, none⟩)), (by unfold Hid; simp [upd]), hz.next apx hsz.out 3 (by decide) _ (fun _ h => Option.some.inj h), hp6.keep (by decide)⟩
    · have e3 : z 6 = .pointer (some ⟨g1, 1, none⟩) := hz 3 _ (hw 3 (by kernel_rfl)) rfl
      have rg := (rule_row hx.out.box).2
      refine wpOp_plain rfl rfl (wp_load_mid 34 (.tmp 6) rfl g1 1 e3 (lab r.a r.c).toList _ rg Tryz.underlying34 rfl infoL2 ?_)
      go_simp
      exact ⟨⟨by simp [hsz.out], hx.out⟩, upd z 7 (.agg (lab r.a r.c)), (by unfold Hid; simp [upd, e3]), hz.next apx hsz.out 4 (by decide) _ (fun _ h => Option.some.inj h), hp6.keep (by decide)⟩
    · have e2 : z 5 = .string r.p := hz 2 _ (hw 2 (by kernel_rfl)) rfl
      have e4 : z 7 = .agg (lab r.a r.c) := hz 4 _ (hw 4 (by kernel_rfl)) rfl
      refine wpOp_plain rfl rfl ?_
      go_simp
      exact ⟨⟨by simp [hsz.out], hx.out⟩, upd z 8 (.agg (rlc r)), (by unfold Hid; simp [upd, e2, e4]), hz.next apx hsz.out 5 (by decide) _ (fun _ h => Option.some.inj h), hp6.keep (by decide)⟩
    · have e5 : z 8 = .agg (rlc r) := hz 5 _ (hw 5 (by kernel_rfl)) rfl
      obtain ⟨x, hrow⟩ := hx.out.row
      refine wpOp_plain rfl rfl (wp_store_row 48 (.tmp 2) (.tmp 8) rfl (g1 + 1) (rlc r) rfl (by show z 8 = _; exact e5) 48 (rlc x) hrow infoR rfl (rlc_one _) ?_)
      go_simp
      exact ⟨⟨by simp [hsz.out], hx.out.put r⟩, upd z 1006 (undef), (by unfold Hid; simp [upd, e5]), hz.next apx hsz.out 6 (by decide) _ (fun _ h => by cases h), Whn.done (setRow_at hrow)⟩
  · exact ⟨⟨rfl, HC.out.later (Below.refl _ _).drew⟩, fun xx => (#[.agg (rlc r), .pointer (some ⟨g1, 0, none⟩), .pointer (some ⟨g1 + 1, 0, none⟩), undef, undef, undef, undef, undef, undef] : Array Value).getD xx undef, (by rfl), Holding.start, Whn.none (by decide)⟩
end Go.Proofs.YtmbcojpdigoojaaGreatDoor.Rul
