/- DERIVED. Paths, as plain functions of bytes: parts, paths, what covers what, the order; no program. -/
import Derived.Lib.SplitLaws
import Derived.Lib.Strings
import GoSem.Op.String
namespace Go.Proofs.YtmbcojpdigoojaaGreatDoor.Pth
/-- may a rune stand in a part? -/
def alw (r : Int) : Bool := decide ((97 ≤ r ∧ r ≤ 122) ∨ (65 ≤ r ∧ r ≤ 90) ∨ (48 ≤ r ∧ r ≤ 57) ∨ r = 95 ∨ r = 45 ∨ r = 46)
/-- a part's bytes, gone through; d: dots alone until here. -/
def partG : Bool → List UInt8 → Bool
  | d, [] => !d
  | d, c :: l => alw (c.toNat : Int) && partG (d && ((c.toNat : Int) == 46)) l
def partL (l : List UInt8) : Bool := partG true l
/-- what stands between the slashes. -/
def pcs : List UInt8 → List (List UInt8)
  | [] => [[]]
  | c :: l => if c = 47 then [] :: pcs l else match pcs l with
    | [] => [[c]]
    | h :: t => (c :: h) :: t
theorem pcs_cons_eq (l : List UInt8) : pcs (47 :: l) = [] :: pcs l := by simp [pcs]
theorem pcs_ne : ∀ l, pcs l ≠ []
  | [] => by simp [pcs]
  | c :: l => by
    unfold pcs
    split
    · simp
    · split <;> simp
theorem pcs_cons (c : UInt8) (l : List UInt8) (h : c ≠ 47) : ∃ x t, pcs l = x :: t ∧ pcs (c :: l) = (c :: x) :: t := by
  cases e : pcs l with
  | nil => exact absurd e (pcs_ne l)
  | cons x t => exact ⟨x, t, rfl, by simp [pcs, h, e]⟩
theorem pcs_len : ∀ l, (pcs l).length = l.count 47 + 1
  | [] => rfl
  | c :: l => by
    by_cases h : c = 47
    · subst h; rw [pcs_cons_eq, List.length_cons, pcs_len l]; simp
    · obtain ⟨x, t, e1, e2⟩ := pcs_cons c l h
      have := pcs_len l
      rw [e1] at this
      rw [e2, List.count_cons_of_ne (by simpa using h), ← this]
      simp
theorem pcs_app : ∀ p r, pcs (p ++ 47 :: r) = pcs p ++ pcs r
  | [], r => by simp [pcs]
  | c :: p, r => by
    by_cases h : c = 47
    · subst h; rw [List.cons_append, pcs_cons_eq, pcs_cons_eq, pcs_app p r]; rfl
    · obtain ⟨x, t, e1, e2⟩ := pcs_cons c p h
      obtain ⟨x', t', e1', e2'⟩ := pcs_cons c (p ++ 47 :: r) h
      rw [List.cons_append, e2', e2]
      rw [pcs_app p r, e1] at e1'
      simp at e1'
      obtain ⟨rfl, rfl⟩ := e1'
      simp
def joinS : List (List UInt8) → List UInt8
  | [] => []
  | x :: t => match t with
    | [] => x
    | _ :: _ => x ++ 47 :: joinS t
theorem joinS_one (x : List UInt8) : joinS [x] = x := rfl
theorem joinS_cons (x : List UInt8) (t : List (List UInt8)) (h : t ≠ []) : joinS (x :: t) = x ++ 47 :: joinS t := by
  cases t with
  | nil => exact absurd rfl h
  | cons y t => rfl
theorem joinS_pcs : ∀ l, joinS (pcs l) = l
  | [] => rfl
  | c :: l => by
    have ih := joinS_pcs l
    by_cases h : c = 47
    · subst h; rw [pcs_cons_eq, joinS_cons _ _ (pcs_ne l), ih]; rfl
    · obtain ⟨x, t, e1, e2⟩ := pcs_cons c l h
      rw [e2]
      rw [e1] at ih
      cases t with
      | nil => rw [joinS_one] at ih ⊢; rw [ih]
      | cons y t => rw [joinS_cons _ _ (by simp)] at ih ⊢; rw [← ih]; rfl
theorem joinS_snoc : ∀ (t : List (List UInt8)) (x : List UInt8), t ≠ [] → joinS (t ++ [x]) = joinS t ++ 47 :: x
  | [], _, h => absurd rfl h
  | [y], x, _ => rfl
  | y :: z :: t, x, _ => by
    have ih := joinS_snoc (z :: t) x (by simp)
    rw [List.cons_append, joinS_cons _ _ (by simp), ih, joinS_cons y (z :: t) (by simp)]
    simp
/-- the pieces by the library's word. -/
theorem split_pcs : ∀ l, Lib.split l [47] = pcs l
  | [] => by simp [Lib.split, Lib.count_one, Lib.splitK, pcs]
  | c :: l => by
    have ih := split_pcs l
    unfold Lib.split at ih ⊢
    rw [Lib.count_one] at ih ⊢
    by_cases h : c = 47
    · subst h
      rw [List.count_cons_self, pcs_cons_eq, ← ih]
      have e : Lib.index (47 :: l) [47] = 0 := by rw [Lib.index]; simp [List.isPrefixOf]
      simp [Lib.splitK, e]
    · obtain ⟨x, t, e1, e2⟩ := pcs_cons c l h
      rw [List.count_cons_of_ne (by simpa using h), e2]
      rw [e1] at ih
      cases hk : List.count 47 l with
      | zero =>
        rw [hk] at ih
        simp only [Lib.splitK, List.cons.injEq] at ih ⊢
        obtain ⟨rfl, rfl⟩ := ih
        simp
      | succ k =>
        rw [hk] at ih
        have hm : Lib.index l [47] ≠ -1 := by
          intro e
          have := Lib.count_miss (s := l) (sub := [47]) e
          rw [Lib.count_one, hk] at this
          omega
        have hge := Lib.index_ge l [47]
        obtain ⟨j, hj⟩ : ∃ j : Nat, Lib.index l [47] = j := ⟨(Lib.index l [47]).toNat, by omega⟩
        have hp : ([47] : List UInt8).isPrefixOf (c :: l) = false := by simp [List.isPrefixOf, Ne.symm h]
        have hi : Lib.index (c :: l) [47] = ((j + 1 : Nat) : Int) := by
          rw [Lib.index, hp]
          simp [hj]
        have a1 : ¬ ((Lib.index l [47] == -1) = true) := by simpa using hm
        have a2 : ¬ ((Lib.index (c :: l) [47] == -1) = true) := by rw [hi]; simp; omega
        unfold Lib.splitK at ih ⊢
        rw [if_neg a1, hj] at ih
        rw [if_neg a2, hi]
        simp only [Int.toNat_natCast, List.cons.injEq, Nat.add_zero, List.length_singleton] at ih ⊢
        obtain ⟨rfl, rfl⟩ := ih
        exact ⟨by simp, by simp [List.drop_succ_cons]⟩
/-- is it a path? -/
def isP (l : List UInt8) : Bool := decide (l.length ≤ 60) && (decide ((pcs l).length ≤ 8) && (pcs l).all partL)
/-- does the one cover the other? -/
def und (p l : List UInt8) : Bool := isP l && (p == [] || (p == l || Lib.hasPrefix l (p ++ [47])))
theorem isP_parts {l : List UInt8} (h : isP l = true) : l.length ≤ 60 ∧ (pcs l).length ≤ 8 ∧ ∀ x ∈ pcs l, partL x = true := by
  simp only [isP, Bool.and_eq_true, decide_eq_true_eq, List.all_eq_true] at h
  exact ⟨h.1, h.2.1, h.2.2⟩
theorem isP_mk {l : List UInt8} (h1 : l.length ≤ 60) (h2 : (pcs l).length ≤ 8) (h3 : ∀ x ∈ pcs l, partL x = true) : isP l = true := by
  simp only [isP, Bool.and_eq_true, decide_eq_true_eq, List.all_eq_true]
  exact ⟨h1, h2, h3⟩
theorem isP_left {p r : List UInt8} (h : isP (p ++ 47 :: r) = true) : isP p = true := by
  obtain ⟨h1, h2, h3⟩ := isP_parts h
  rw [pcs_app] at h2 h3
  rw [List.length_append] at h1 h2
  exact isP_mk (by omega) (by omega) fun x hx => h3 x (List.mem_append_left _ hx)
theorem isP_ne {l : List UInt8} (h : isP l = true) : l ≠ [] := by
  rintro rfl
  revert h
  decide
/-- a path doesn't begin with a slash. -/
theorem isP_head {l : List UInt8} (h : isP (47 :: l) = true) : False := by
  obtain ⟨_, _, h3⟩ := isP_parts h
  rw [pcs_cons_eq] at h3
  have := h3 [] (List.mem_cons_self ..)
  revert this
  decide
theorem pre_iff (l q : List UInt8) : Lib.hasPrefix l q = true ↔ ∃ r, l = q ++ r := by
  unfold Lib.hasPrefix
  rw [List.isPrefixOf_iff_prefix]
  exact ⟨fun ⟨r, h⟩ => ⟨r, h.symm⟩, fun ⟨r, h⟩ => ⟨r, h.symm⟩⟩
theorem und_iff (p l : List UInt8) : und p l = true ↔ isP l = true ∧ (p = [] ∨ p = l ∨ ∃ r, l = p ++ 47 :: r) := by
  simp only [und, Bool.and_eq_true, Bool.or_eq_true, beq_iff_eq, pre_iff, List.append_assoc, List.singleton_append]
theorem und_prefix {p l : List UInt8} (h : und p l = true) : p = [] ∨ isP p = true := by
  obtain ⟨h1, rfl | rfl | ⟨r, rfl⟩⟩ := (und_iff p l).1 h
  · exact .inl rfl
  · exact .inr h1
  · exact .inr (isP_left h1)
theorem und_trans {a b c : List UInt8} (h : und a b = true) (k : und b c = true) : und a c = true := by
  obtain ⟨h1, h2⟩ := (und_iff a b).1 h
  obtain ⟨k1, k2⟩ := (und_iff b c).1 k
  refine (und_iff a c).2 ⟨k1, ?_⟩
  have hb := isP_ne h1
  rcases h2 with rfl | rfl | ⟨r, rfl⟩
  · exact .inl rfl
  · exact k2
  · rcases k2 with e | rfl | ⟨r', rfl⟩
    · exact absurd e hb
    · exact .inr (.inr ⟨r, rfl⟩)
    · exact .inr (.inr ⟨r ++ 47 :: r', by simp⟩)
theorem und_two {a b c : List UInt8} (h : und a c = true) (k : und b c = true) (ha : a ≠ []) (hb : b ≠ []) : und a b = true ∨ und b a = true := by
  have pa := (und_prefix h).resolve_left ha
  have pb := (und_prefix k).resolve_left hb
  obtain ⟨h1, h2⟩ := (und_iff a c).1 h
  obtain ⟨_, k2⟩ := (und_iff b c).1 k
  rcases h2 with e | rfl | ⟨r, rfl⟩
  · exact absurd e ha
  · exact .inr k
  · rcases k2 with e | rfl | ⟨r', e⟩
    · exact absurd e hb
    · exact .inl h
    · rcases List.append_eq_append_iff.1 e with ⟨m, e1, e2⟩ | ⟨m, e1, e2⟩
      · left
        refine (und_iff a b).2 ⟨pb, ?_⟩
        cases m with
        | nil => exact .inr (.inl (by simpa using e1.symm))
        | cons x m =>
          simp at e2
          exact .inr (.inr ⟨m, by rw [e1, ← e2.1]⟩)
      · right
        refine (und_iff b a).2 ⟨pa, ?_⟩
        cases m with
        | nil => exact .inr (.inl (by simpa using e1.symm))
        | cons x m =>
          simp at e2
          exact .inr (.inr ⟨m, by rw [e1, ← e2.1]⟩)
/-- the order. -/
def ordL : List UInt8 → List UInt8 → Int
  | [], [] => 0
  | [], _ :: _ => -1
  | _ :: _, [] => 1
  | a :: x, b :: y => if a < b then -1 else if b < a then 1 else ordL x y
theorem less_ord : ∀ x y, Op.bytesLess x y = decide (ordL x y = -1)
  | [], [] => by simp [Op.bytesLess, ordL]
  | [], _ :: _ => by simp [Op.bytesLess, ordL]
  | _ :: _, [] => by simp [Op.bytesLess, ordL]
  | a :: x, b :: y => by
    rw [Op.bytesLess, less_ord x y, ordL]
    by_cases h : a < b
    · simp [h]
    · by_cases h' : b < a
      · have : ¬ a = b := by rintro rfl; exact h h'
        simp [h, h', this]
      · have : a = b := by
          have h1 := UInt8.not_lt.1 h
          have h2 := UInt8.not_lt.1 h'
          exact UInt8.le_antisymm h2 h1
        subst this
        simp [h]
theorem ord_eq : ∀ x y, ordL x y = 0 ↔ x = y
  | [], [] => by simp [ordL]
  | [], _ :: _ => by simp [ordL]
  | _ :: _, [] => by simp [ordL]
  | a :: x, b :: y => by
    rw [ordL]
    by_cases h : a < b
    · have : a ≠ b := by rintro rfl; exact absurd h (UInt8.lt_irrefl _)
      simp [h, this]
    · by_cases h' : b < a
      · have : a ≠ b := by rintro rfl; exact h h'
        simp [h, h', this]
      · have : a = b := UInt8.le_antisymm (UInt8.not_lt.1 h') (UInt8.not_lt.1 h)
        subst this
        simp [h, ord_eq x y]
theorem ord_neg : ∀ x y, ordL y x = - ordL x y
  | [], [] => by simp [ordL]
  | [], _ :: _ => by simp [ordL]
  | _ :: _, [] => by simp [ordL]
  | a :: x, b :: y => by
    rw [ordL, ordL]
    by_cases h : a < b
    · have : ¬ b < a := fun h' => UInt8.lt_irrefl _ (UInt8.lt_trans h h')
      simp [h, this]
    · by_cases h' : b < a
      · simp [h, h']
      · simp [h, h', ord_neg x y]
theorem ord_three : ∀ x y, ordL x y = -1 ∨ ordL x y = 0 ∨ ordL x y = 1
  | [], [] => by simp [ordL]
  | [], _ :: _ => by simp [ordL]
  | _ :: _, [] => by simp [ordL]
  | a :: x, b :: y => by
    rw [ordL]
    split
    · exact .inl rfl
    · split
      · exact .inr (.inr rfl)
      · exact ord_three x y
theorem ord_trans : ∀ x y z, ordL x y ≤ 0 → ordL y z ≤ 0 → ordL x z ≤ 0
  | [], _, [] => by intros; simp [ordL]
  | [], _, _ :: _ => by intros; simp [ordL]
  | _ :: _, [], _ => by intro h; simp [ordL] at h
  | _ :: _, _ :: _, [] => by intro _ h; simp [ordL] at h
  | a :: x, b :: y, c :: z => by
    intro h k
    have ih := ord_trans x y z
    rw [ordL] at h k ⊢
    by_cases ab : a < b
    · by_cases bc : b < c
      · simp [UInt8.lt_trans ab bc]
      · by_cases cb : c < b
        · simp [bc, cb] at k
        · have : b = c := UInt8.le_antisymm (UInt8.not_lt.1 cb) (UInt8.not_lt.1 bc)
          subst this; simp [ab]
    · by_cases ba : b < a
      · simp [ab, ba] at h
      · have : a = b := UInt8.le_antisymm (UInt8.not_lt.1 ba) (UInt8.not_lt.1 ab)
        subst this
        by_cases bc : a < c
        · simp [bc]
        · by_cases cb : c < a
          · simp [bc, cb] at k
          · simp only [bc, cb, ab, if_false] at h k ⊢
            exact ih h k
end Go.Proofs.YtmbcojpdigoojaaGreatDoor.Pth
