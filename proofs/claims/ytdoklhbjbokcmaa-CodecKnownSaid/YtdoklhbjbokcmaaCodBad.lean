/- DERIVED. Readers that are none: the contracts of Err, Done, Num, Text, Hash there. -/
import Derived.Test.YtdoklhbjbokcmaaCodOnceMath
namespace Go.Proofs.Ytdoklhbjbokcmaa.Cod
open Go.RowKit Str
theorem err_nil (w : World) : Calls Try.prog 17 #[.pointer none] w fun e w' => e = .returned (.int .i64 1) ∧ w = w' := by
  go_enter Try.func17, Try.ntmps17
  go_wp2
  go_ret
  exact ⟨rfl, rfl⟩
theorem run_neq_none (a : Addr) (w : World) : (binOp .neq 36 (.pointer none) (.pointer (some a))).run Try.prog w = .ok (.bool true) w := by
  have hp := Try.underlying36
  have h : ∀ d : Nat, (Op.equalIn (d + 1) 36 (.pointer none) (.pointer (some a))).run Try.prog w = .ok false w := fun d => by
    simp [Op.equalIn, run_underlying hp]
  simp only [binOp]
  simp [Op.equal, Op.maxDepth, h 9999]
theorem err_zero {rb : Nat} {w : World} (h : w.heap[rb]? = some (.cells #[.pointer none, .slice none 0 0, .int .i64 0] 63 (0, 0))) :
    Calls Try.prog 17 #[.pointer (some ⟨rb, 0, none⟩)] w fun e w' => e = .returned (.int .i64 1) ∧ w = w' := by
  have c0 := cell_row h 0
  have c2 := cell_row h 2
  simp only [List.getElem?_toArray, List.getElem?_cons_zero, List.getElem?_cons_succ] at c0 c2
  have hne := run_neq_none ⟨rb, 0, none⟩
  clear h
  go_enter Try.func17, Try.ntmps17
  go_wp2
  go_ret
  exact ⟨rfl, rfl⟩
/-- no reader, whatever comes. -/
def BadR (p : Value) (w : World) : Prop := ∀ W, Below w.heap.size w W → Calls Try.prog 17 #[p] W fun e w' => e = .returned (.int .i64 1) ∧ W = w'
theorem bad_nil (w : World) : BadR (.pointer none) w := fun W _ => err_nil W
theorem bad_zero {rb : Nat} {w : World} (h : w.heap[rb]? = some (.cells #[.pointer none, .slice none 0 0, .int .i64 0] 63 (0, 0))) : BadR (.pointer (some ⟨rb, 0, none⟩)) w := fun _ hb =>
  err_zero ((hb.block _ (Array.getElem?_eq_some_iff.1 h).1).trans h)
theorem done_bad {p : Value} {w : World} (h : BadR p w) : Calls Try.prog 14 #[p] w fun e w' => e = .returned (.int .i64 1) ∧ w = w' := by
  have H := Lib.hid (h w (Below.refl _ _))
  clear h
  go_enter Try.func14, Try.ntmps14
  go_wp2_with (go_at_call 17; refine H.out.mono ?_; rintro e w' ⟨rfl, rfl⟩)
  go_ret
  exact ⟨rfl, rfl⟩
theorem read_bad {p : Value} {w W : World} (h : BadR p w) (hb : Below w.heap.size w W) (F : Value) : Calls Try.prog 42 #[p, F] W fun e w' => e = .returned (.tuple #[]) ∧ W = w' := by
  have H := Lib.hid (h W hb)
  clear h hb
  go_enter Try.func42, Try.ntmps42
  go_wp2_with (go_at_call 17; refine H.out.mono ?_; rintro e w' ⟨rfl, rfl⟩)
  exact bodyPost_ret (results_none rfl _ _ _) rfl ⟨rfl, rfl⟩
set_option maxHeartbeats 1000000 in
theorem num_bad {p : Value} {w : World} (h : BadR p w) (m : Int) : Calls Try.prog 19 #[p, .int .u64 m] w fun e w' => e = .returned (.int .u64 0) ∧ Below w.heap.size w w' := by
  obtain ⟨w2, hw2⟩ : ∃ w2, w2 = (w.alloc (.cells #[.int .u64 m] 28)).alloc (.cells #[.int .u64 0] 28) := ⟨_, rfl⟩
  have h2 := two_new w (.cells #[.int .u64 m] 28) (.cells #[.int .u64 0] 28)
  have k2 : Below w.heap.size w ((w.alloc (.cells #[.int .u64 m] 28)).alloc (.cells #[.int .u64 0] 28)) := ((Below.refl _ _).alloc (Nat.le_refl _) _).alloc (by simp) _
  rw [← hw2] at h2 k2
  have HW2 := Lib.hid hw2
  clear hw2
  have Hrd := Lib.hid (fun F => read_bad h k2 F)
  have dn := cell_row h2.2 0
  simp only [List.getElem?_toArray, List.getElem?_cons_zero] at dn
  have Hk2 := Lib.hid k2
  clear h h2 k2
  go_enter Try.func19, Try.ntmps19
  go_wp2_with (go_at_call 42; rw [← HW2.out]; refine (Hrd.out _).mono ?_; rintro e w3 ⟨rfl, rfl⟩)
  go_ret
  exact ⟨rfl, Hk2.out⟩
set_option maxHeartbeats 1000000 in
theorem text_bad {p : Value} {w : World} (h : BadR p w) (m : Int) : Calls Try.prog 21 #[p, .int .i64 m] w fun e w' => e = .returned (.string ⟨#[]⟩) ∧ Below w.heap.size w w' := by
  obtain ⟨w2, hw2⟩ : ∃ w2, w2 = (w.alloc (.cells #[.int .i64 m] 3)).alloc (.cells #[.string ⟨#[]⟩] 9) := ⟨_, rfl⟩
  have h2 := two_new w (.cells #[.int .i64 m] 3) (.cells #[.string ⟨#[]⟩] 9)
  have k2 : Below w.heap.size w ((w.alloc (.cells #[.int .i64 m] 3)).alloc (.cells #[.string ⟨#[]⟩] 9)) := ((Below.refl _ _).alloc (Nat.le_refl _) _).alloc (by simp) _
  rw [← hw2] at h2 k2
  have HW2 := Lib.hid hw2
  clear hw2
  have Hrd := Lib.hid (fun F => read_bad h k2 F)
  have dn := cell_row h2.2 0
  simp only [List.getElem?_toArray, List.getElem?_cons_zero] at dn
  have Hk2 := Lib.hid k2
  clear h h2 k2
  go_enter Try.func21, Try.ntmps21
  go_wp2_with (go_at_call 42; rw [← HW2.out]; refine (Hrd.out _).mono ?_; rintro e w3 ⟨rfl, rfl⟩)
  go_ret
  exact ⟨rfl, Hk2.out⟩
set_option maxRecDepth 100000 in
set_option maxHeartbeats 2000000 in
theorem hash_bad {p : Value} {w : World} (h : BadR p w) : Calls Try.prog 23 #[p] w fun e w' => e = .returned (.agg (u8s z32)) ∧ Below w.heap.size w w' := by
  obtain ⟨w2, hw2⟩ : ∃ w2, w2 = (w.alloc (.cells #[.int .u8 0, .int .u8 0, .int .u8 0, .int .u8 0, .int .u8 0, .int .u8 0, .int .u8 0, .int .u8 0, .int .u8 0, .int .u8 0, .int .u8 0, .int .u8 0, .int .u8 0, .int .u8 0, .int .u8 0, .int .u8 0, .int .u8 0, .int .u8 0, .int .u8 0, .int .u8 0, .int .u8 0, .int .u8 0, .int .u8 0, .int .u8 0, .int .u8 0, .int .u8 0, .int .u8 0, .int .u8 0, .int .u8 0, .int .u8 0, .int .u8 0, .int .u8 0] 30)).alloc (.cells #[.int .u8 0, .int .u8 0, .int .u8 0, .int .u8 0, .int .u8 0, .int .u8 0, .int .u8 0, .int .u8 0, .int .u8 0, .int .u8 0, .int .u8 0, .int .u8 0, .int .u8 0, .int .u8 0, .int .u8 0, .int .u8 0, .int .u8 0, .int .u8 0, .int .u8 0, .int .u8 0, .int .u8 0, .int .u8 0, .int .u8 0, .int .u8 0, .int .u8 0, .int .u8 0, .int .u8 0, .int .u8 0, .int .u8 0, .int .u8 0, .int .u8 0, .int .u8 0] 30) := ⟨_, rfl⟩
  have h2 := two_new w (.cells #[.int .u8 0, .int .u8 0, .int .u8 0, .int .u8 0, .int .u8 0, .int .u8 0, .int .u8 0, .int .u8 0, .int .u8 0, .int .u8 0, .int .u8 0, .int .u8 0, .int .u8 0, .int .u8 0, .int .u8 0, .int .u8 0, .int .u8 0, .int .u8 0, .int .u8 0, .int .u8 0, .int .u8 0, .int .u8 0, .int .u8 0, .int .u8 0, .int .u8 0, .int .u8 0, .int .u8 0, .int .u8 0, .int .u8 0, .int .u8 0, .int .u8 0, .int .u8 0] 30) (.cells #[.int .u8 0, .int .u8 0, .int .u8 0, .int .u8 0, .int .u8 0, .int .u8 0, .int .u8 0, .int .u8 0, .int .u8 0, .int .u8 0, .int .u8 0, .int .u8 0, .int .u8 0, .int .u8 0, .int .u8 0, .int .u8 0, .int .u8 0, .int .u8 0, .int .u8 0, .int .u8 0, .int .u8 0, .int .u8 0, .int .u8 0, .int .u8 0, .int .u8 0, .int .u8 0, .int .u8 0, .int .u8 0, .int .u8 0, .int .u8 0, .int .u8 0, .int .u8 0] 30)
  have k2 : Below w.heap.size w ((w.alloc (.cells #[.int .u8 0, .int .u8 0, .int .u8 0, .int .u8 0, .int .u8 0, .int .u8 0, .int .u8 0, .int .u8 0, .int .u8 0, .int .u8 0, .int .u8 0, .int .u8 0, .int .u8 0, .int .u8 0, .int .u8 0, .int .u8 0, .int .u8 0, .int .u8 0, .int .u8 0, .int .u8 0, .int .u8 0, .int .u8 0, .int .u8 0, .int .u8 0, .int .u8 0, .int .u8 0, .int .u8 0, .int .u8 0, .int .u8 0, .int .u8 0, .int .u8 0, .int .u8 0] 30)).alloc (.cells #[.int .u8 0, .int .u8 0, .int .u8 0, .int .u8 0, .int .u8 0, .int .u8 0, .int .u8 0, .int .u8 0, .int .u8 0, .int .u8 0, .int .u8 0, .int .u8 0, .int .u8 0, .int .u8 0, .int .u8 0, .int .u8 0, .int .u8 0, .int .u8 0, .int .u8 0, .int .u8 0, .int .u8 0, .int .u8 0, .int .u8 0, .int .u8 0, .int .u8 0, .int .u8 0, .int .u8 0, .int .u8 0, .int .u8 0, .int .u8 0, .int .u8 0, .int .u8 0] 30)) := ((Below.refl _ _).alloc (Nat.le_refl _) _).alloc (by simp) _
  rw [← hw2] at h2 k2
  have HW2 := Lib.hid hw2
  clear hw2
  have Hrd := Lib.hid (fun F => read_bad h k2 F)
  have Hh2 := Lib.hid h2
  have Hk2 := Lib.hid k2
  have Hsz : Hid ((Try.prog.info? 30).map (·.size) = some (#[.int .u8 0, .int .u8 0, .int .u8 0, .int .u8 0, .int .u8 0, .int .u8 0, .int .u8 0, .int .u8 0, .int .u8 0, .int .u8 0, .int .u8 0, .int .u8 0, .int .u8 0, .int .u8 0, .int .u8 0, .int .u8 0, .int .u8 0, .int .u8 0, .int .u8 0, .int .u8 0, .int .u8 0, .int .u8 0, .int .u8 0, .int .u8 0, .int .u8 0, .int .u8 0, .int .u8 0, .int .u8 0, .int .u8 0, .int .u8 0, .int .u8 0, .int .u8 0] : Array Value).size) := infoH32
  have Hone : Hid ((#[.int .u8 0, .int .u8 0, .int .u8 0, .int .u8 0, .int .u8 0, .int .u8 0, .int .u8 0, .int .u8 0, .int .u8 0, .int .u8 0, .int .u8 0, .int .u8 0, .int .u8 0, .int .u8 0, .int .u8 0, .int .u8 0, .int .u8 0, .int .u8 0, .int .u8 0, .int .u8 0, .int .u8 0, .int .u8 0, .int .u8 0, .int .u8 0, .int .u8 0, .int .u8 0, .int .u8 0, .int .u8 0, .int .u8 0, .int .u8 0, .int .u8 0, .int .u8 0] : Array Value).all (·.oneCell') = true) := u8s_one z32
  clear h h2 k2
  go_enter Try.func23, Try.ntmps23
  go_wp2_with (first
    | (go_at_call 42; rw [← HW2.out]; refine (Hrd.out _).mono ?_; rintro e w3 ⟨rfl, hw3⟩; subst hw3)
    | (with_reducible refine wpList_load_row rfl 30 (.tmp 3) rfl (w.heap.size + 1) rfl 30 #[.int .u8 0, .int .u8 0, .int .u8 0, .int .u8 0, .int .u8 0, .int .u8 0, .int .u8 0, .int .u8 0, .int .u8 0, .int .u8 0, .int .u8 0, .int .u8 0, .int .u8 0, .int .u8 0, .int .u8 0, .int .u8 0, .int .u8 0, .int .u8 0, .int .u8 0, .int .u8 0, .int .u8 0, .int .u8 0, .int .u8 0, .int .u8 0, .int .u8 0, .int .u8 0, .int .u8 0, .int .u8 0, .int .u8 0, .int .u8 0, .int .u8 0, .int .u8 0] (0, 0) _ Hh2.out.2 Try.underlying30 rfl Hsz.out ?_)
    | (with_reducible refine wpList_store_row rfl 30 (.tmp 2) (.tmp 7) rfl w.heap.size #[.int .u8 0, .int .u8 0, .int .u8 0, .int .u8 0, .int .u8 0, .int .u8 0, .int .u8 0, .int .u8 0, .int .u8 0, .int .u8 0, .int .u8 0, .int .u8 0, .int .u8 0, .int .u8 0, .int .u8 0, .int .u8 0, .int .u8 0, .int .u8 0, .int .u8 0, .int .u8 0, .int .u8 0, .int .u8 0, .int .u8 0, .int .u8 0, .int .u8 0, .int .u8 0, .int .u8 0, .int .u8 0, .int .u8 0, .int .u8 0, .int .u8 0, .int .u8 0] rfl rfl 30 _ Hh2.out.1 Hsz.out rfl Hone.out ?_))
  have hrow := setRow_heap w2 _ _ #[.int .u8 0, .int .u8 0, .int .u8 0, .int .u8 0, .int .u8 0, .int .u8 0, .int .u8 0, .int .u8 0, .int .u8 0, .int .u8 0, .int .u8 0, .int .u8 0, .int .u8 0, .int .u8 0, .int .u8 0, .int .u8 0, .int .u8 0, .int .u8 0, .int .u8 0, .int .u8 0, .int .u8 0, .int .u8 0, .int .u8 0, .int .u8 0, .int .u8 0, .int .u8 0, .int .u8 0, .int .u8 0, .int .u8 0, .int .u8 0, .int .u8 0, .int .u8 0] _ _ Hh2.out.1
  refine bodyPost_ret (v := .agg #[.int .u8 0, .int .u8 0, .int .u8 0, .int .u8 0, .int .u8 0, .int .u8 0, .int .u8 0, .int .u8 0, .int .u8 0, .int .u8 0, .int .u8 0, .int .u8 0, .int .u8 0, .int .u8 0, .int .u8 0, .int .u8 0, .int .u8 0, .int .u8 0, .int .u8 0, .int .u8 0, .int .u8 0, .int .u8 0, .int .u8 0, .int .u8 0, .int .u8 0, .int .u8 0, .int .u8 0, .int .u8 0, .int .u8 0, .int .u8 0, .int .u8 0, .int .u8 0]) (results_cell_row rfl _ _ w.heap.size 30 _ (0, 0) _ rfl hrow Try.underlying30 rfl Hsz.out) rfl ⟨rfl, below_setRow Hk2.out (Nat.le_refl _) _⟩
/-- a reader stays while another one reads. -/
theorem rdr_chg {rb rb2 : Nat} {L L2 : List Int} {e e2 : Int} {w w' : World} (h : Rdr rb L e w) (h2 : Rdr rb2 L2 e2 w) (hne : rb ≠ rb2) (hc : Chg [rb2] w w') : Rdr rb L e w' := by
  obtain ⟨v, r, s⟩ := h
  obtain ⟨v2, r2, s2⟩ := h2
  exact ⟨v, hc.at r (by simpa using hne), slb_chg s hc (by intro k hk; obtain rfl := List.mem_singleton.1 hk; exact rdr_no8 r2 s2)⟩
end Go.Proofs.Ytdoklhbjbokcmaa.Cod
