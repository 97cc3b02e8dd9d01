/- DERIVED. Slices of rules: what they read as; a prefix that covers a text. -/
import Derived.Test.YtmbcojpdigoojaaGreatDoorRulSpec
import Derived.Test.YtmbcojpdigoojaaGreatDoorPthUnder
import Derived.Test.YtmbcojpdigoojaaGreatDoorLabBoth
import Derived.Deep.MidRow
namespace Go.Proofs.YtmbcojpdigoojaaGreatDoor.Rul
open Go.RowKit Lab
abbrev rlc (r : Rl) : Array Value := #[.string r.p, .int .i64 r.a, .int .u64 (r.c : Nat)]
theorem rlc_one (r : Rl) : (rlc r).all (·.oneCell') = true := by
  rw [Array.all_eq_true_iff_forall_mem]
  intro v hv
  simp only [List.mem_toArray, List.mem_cons, List.mem_nil_iff, or_false] at hv
  rcases hv with rfl | rfl | rfl <;> rfl
theorem infoR : (Tryz.prog.info? 48).map (·.size) = some 3 := by kernel_rfl
theorem infoR2 : ∀ {r : Rl}, (Tryz.prog.info? 48).map (·.size) = some (rlc r).toList.length := fun {_} => infoR
/-- the slice (A, rs.length, c) reads as the rules rs. -/
def Ruls (w : World) (A : Option Addr) (c : Nat) (rs : List Rl) : Prop :=
  rs.length ≤ c ∧ (A = none → c = 0) ∧ (0 < rs.length → ∃ b off, A = some ⟨b, off, none⟩ ∧ b < w.heap.size ∧ ∀ i x, rs[i]? = some x → w.rangeAt b (off + i * 3) (rlc x).toList)
theorem Ruls.below {w w' : World} {B c : Nat} {A : Option Addr} {rs : List Rl} (h : Ruls w A c rs) (hb : Below B w w') (hB : w.heap.size ≤ B) : Ruls w' A c rs :=
  ⟨h.1, h.2.1, fun hl => by
    obtain ⟨b, off, hA, hg, hc⟩ := h.2.2 hl
    exact ⟨b, off, hA, Nat.lt_of_lt_of_le hg hb.size, fun i x hx j v hv => (hb.cell (p := ⟨b, off + i * 3 + j, none⟩) (Nat.lt_of_lt_of_le hg hB)).trans (hc i x hx j v hv)⟩⟩
theorem Ruls.at {w : World} {A : Option Addr} {c k : Nat} {rs : List Rl} {r : Rl} (h : Ruls w A c rs) (hk : rs[k]? = some r) : ∃ b off, A = some ⟨b, off, none⟩ ∧ b < w.heap.size ∧ w.rangeAt b (off + k * 3) (rlc r).toList := by
  have hi := (List.getElem?_eq_some_iff.1 hk).1
  obtain ⟨b, off, hA, hg, hc⟩ := h.2.2 (by omega)
  exact ⟨b, off, hA, hg, hc k r hk⟩
/-- a table. -/
abbrev tabV (v : Int) (A : Option Addr) (n c : Nat) : Array Value := #[.int .i64 v, .slice A n c]
theorem infoT : (Tryz.prog.info? 24).map (·.size) = some 2 := by kernel_rfl
theorem tab_one (v : Int) (A : Option Addr) (n c : Nat) : (tabV v A n c).all (·.oneCell') = true := by
  rw [Array.all_eq_true_iff_forall_mem]
  intro x hx
  simp only [List.mem_toArray, List.mem_cons, List.mem_nil_iff, or_false] at hx
  rcases hx with rfl | rfl <;> rfl
set_option maxHeartbeats 1000000 in
theorem covers_any (p s : ByteArray) (w : World) (hL : Pth.Laid w) (hp : p.size ≤ 1000) (hs : s.size ≤ 1000) :
    Calls Tryz.prog 25 #[.string p, .string s] w fun e w' => e = .returned (.bool (cov p s)) ∧ Below w.heap.size w w' := by
  by_cases he : p = s
  · subst he
    have hr : cov p p = true := cov_refl p
    rw [hr]
    clear hr
    go_enter Tryz.func25, Tryz.ntmps25
    go_wp2
    go_ret
    exact ⟨rfl, Below.refl _ _⟩
  · have hne := Pth.ne_lists (a := p) (b := s) (fun h => he (bl_inj h))
    have hr : cov p s = Pth.und (bl p) (bl s) := by unfold cov; rw [decide_eq_false (fun h => he (bl_inj h)), Bool.false_or]
    rw [hr]
    have HU := Lib.hid (Pth.under_any p s w hL hp hs)
    have HR : Hid (Pth.und (bl p) (bl s) = Pth.und p.data.toList s.data.toList) := rfl
    clear hr he hL
    go_enter Tryz.func25, Tryz.ntmps25
    go_wp2_with (go_at_call 42; refine HU.out.mono ?_; rintro e w' ⟨rfl, hb⟩)
    go_ret
    exact ⟨rfl, hb⟩
end Go.Proofs.YtmbcojpdigoojaaGreatDoor.Rul
