/- DERIVED. A disk and counters of it, in the law's own memory. -/
import Derived.Test.YtlofnpebknfmkaaEpoWorks
import Derived.Test.YtlofnpebknfmkaaStr
namespace Go.Proofs.Ytlofnpebknfmkaa.Epo
open Go.RowKit Dsk
structure EL (w0 w : World) (K : DK) (D : DS) (L : List (Nat × CV)) : Prop where
  ed : ED w0 w K D
  ct : ∀ p ∈ L, Ct w K p.1 p.2 ∧ p.1 ∉ K.bl ∧ w0.heap.size ≤ p.1
  nd : (L.map Prod.fst).Nodup
theorem EL.later {w0 w w' : World} {K : DK} {D : DS} {L : List (Nat × CV)} (h : EL w0 w K D L) (hb : Below w.heap.size w w') : EL w0 w' K D L :=
  ⟨h.ed.later hb, fun p hp => ⟨(h.ct p hp).1.later hb, (h.ct p hp).2⟩, h.nd⟩
theorem EL.chg {w0 w w' : World} {K : DK} {D D' : DS} {L : List (Nat × CV)} (h : EL w0 w K D L) (hd : Dsk w' K D') (hch : Chg K.bl w w') : EL w0 w' K D' L :=
  ⟨h.ed.chg hd hch, fun p hp => ⟨(h.ct p hp).1.chg hch (h.ct p hp).2.1, (h.ct p hp).2⟩, h.nd⟩
theorem el_new (n : Nat) (w : World) (h1 : 1 ≤ n) (h2 : n ≤ 16384) : Calls Try.prog 8 #[.int .i64 n] w fun e w' => ∃ K : DK, e = .returned (.tuple #[.pointer (some ⟨K.g, 0, none⟩), .int .i64 0]) ∧ EL w w' K (newD n) [] :=
  (ed_new n w h1 h2).mono fun _ _ ⟨K, e, h⟩ => ⟨K, e, h, (fun _ hp => by cases hp), List.nodup_nil⟩
theorem el_open {w0 w : World} {K : DK} {D : DS} {L : List (Nat × CV)} (h : EL w0 w K D L) (f n v : Nat) (h1 : 1 ≤ n) (hk : f + n ≤ D.secs) (ho : D.off = false) (ht : Cnt (regL D f (n * 128)) v) : Calls Try.prog 11 #[.pointer (some ⟨K.g, 0, none⟩), .int .i64 f, .int .i64 n] w fun e w' => ∃ g, e = .returned (.tuple #[.pointer (some ⟨g, 0, none⟩), .int .i64 0]) ∧ EL w0 w' K D ((g, ⟨f, n * 128, v⟩) :: L) ∧ w.heap.size ≤ g ∧ Below w.heap.size w w' := by
  refine (ed_open h.ed f n v h1 hk ho ht).mono ?_
  rintro e w' ⟨g, rfl, hc, hg, hb⟩
  refine ⟨g, rfl, ⟨hc.ed, fun p hp => ?_, ?_⟩, hg, hb⟩
  · rcases List.mem_cons.1 hp with rfl | hp
    · exact ⟨hc.ct, hc.ng, hc.gg⟩
    · exact ⟨(h.ct p hp).1.later hb, (h.ct p hp).2⟩
  · rw [List.map_cons, List.nodup_cons]
    refine ⟨fun hm => ?_, h.nd⟩
    obtain ⟨p, hp, e⟩ := List.mem_map.1 hm
    have := (h.ct p hp).1.lt
    simp only at e
    omega
theorem EL.ec {w0 w : World} {K : DK} {D : DS} {L : List (Nat × CV)} (h : EL w0 w K D L) {g : Nat} {C : CV} (hm : (g, C) ∈ L) : EC w0 w K D g C :=
  ⟨h.ed.dsk, (h.ct _ hm).1, (h.ct _ hm).2.1, h.ed.low, h.ed.kg, h.ed.kh, (h.ct _ hm).2.2⟩
theorem el_value {w0 w : World} {K : DK} {D : DS} {L : List (Nat × CV)} (h : EL w0 w K D L) {g : Nat} {C : CV} (hm : (g, C) ∈ L) (n : Nat) (hn : C.v = n) : Calls Try.prog 14 #[.pointer (some ⟨g, 0, none⟩)] w fun e w' => e = .returned (.int .i64 (n : Nat)) ∧ w = w' := wk_value (h.ec hm) n hn
theorem el_next {w0 w : World} {K : DK} {D : DS} {L1 L2 : List (Nat × CV)} {g : Nat} {C : CV} (h : EL w0 w K D (L1 ++ (g, C) :: L2)) (c : CanN D C) (ho : D.off = false) : Calls Try.prog 16 #[.pointer (some ⟨g, 0, none⟩)] w fun e w' => e = .returned (.int .i64 (nextD D C.f C.v).2) ∧ EL w0 w' K (nextD D C.f C.v).1 (L1 ++ (g, C.step (nextD D C.f C.v).2) :: L2) := by
  have hm : (g, C) ∈ L1 ++ (g, C) :: L2 := by simp
  have hc := h.ec hm
  refine (next_on hc.dsk hc.ct hc.ng c.lt c.fit ho c.wr).mono ?_
  rintro e w' ⟨rfl, hd, hct, hch⟩
  have h' := hc.chg hd hct hch
  have hnd := h.nd
  rw [List.map_append, List.map_cons, List.nodup_append, List.nodup_cons] at hnd
  refine ⟨rfl, h'.ed, fun p hp => ?_, ?_⟩
  · rcases List.mem_append.1 hp with hp | hp
    · have hq := h.ct p (List.mem_append.2 (.inl hp))
      refine ⟨hq.1.chg hch fun hx => ?_, hq.2⟩
      rcases List.mem_cons.1 hx with hx | hx
      · exact hnd.2.2 p.1 (List.mem_map.2 ⟨p, hp, rfl⟩) g (List.mem_cons_self ..) hx
      · exact hq.2.1 hx
    · rcases List.mem_cons.1 hp with rfl | hp
      · exact ⟨h'.ct, h'.ng, h'.gg⟩
      · have hq := h.ct p (List.mem_append.2 (.inr (List.mem_cons_of_mem _ hp)))
        refine ⟨hq.1.chg hch fun hx => ?_, hq.2⟩
        rcases List.mem_cons.1 hx with hx | hx
        · exact hnd.2.1.1 (hx ▸ List.mem_map.2 ⟨p, hp, rfl⟩)
        · exact hq.2.1 hx
  · rw [List.map_append, List.map_cons]
    have := h.nd
    rw [List.map_append, List.map_cons] at this
    exact this
theorem el_next_off {w0 w : World} {K : DK} {D : DS} {L : List (Nat × CV)} (h : EL w0 w K D L) {g : Nat} {C : CV} (hm : (g, C) ∈ L) (hlt : C.v < C.bd) (hfit : C.f * 128 + C.bd ≤ D.data.length) (ho : D.off = true) : Calls Try.prog 16 #[.pointer (some ⟨g, 0, none⟩)] w fun e w' => e = .returned (.int .i64 12) ∧ EL w0 w' K D L :=
  (next_off h.ed.dsk (h.ct _ hm).1 hlt hfit ho).mono fun _ _ ⟨e, hb⟩ => ⟨e, h.later hb⟩
theorem el_next_full {w0 w : World} {K : DK} {D : DS} {L : List (Nat × CV)} (h : EL w0 w K D L) {g : Nat} {C : CV} (hm : (g, C) ∈ L) (hv : C.v = C.bd) : Calls Try.prog 16 #[.pointer (some ⟨g, 0, none⟩)] w fun e w' => e = .returned (.int .i64 13) ∧ EL w0 w' K D L :=
  (next_full (h.ct _ hm).1 hv).mono fun _ _ ⟨e, hb⟩ => ⟨e, h.later hb⟩
theorem el_put {w0 w : World} {K : DK} {D : DS} {L : List (Nat × CV)} (h : EL w0 w K D L) (k m : Nat) (hk : k + m ≤ D.data.length) (A : Option Addr) (c : Nat) (b : List Int) (hl : b.length = m) (hi : InB b) (hB : Byt w A c b) : Calls Try.prog 9 #[.pointer (some ⟨K.g, 0, none⟩), .int .i64 k, .slice A m c] w fun e w' => e = .returned (.int .i64 0) ∧ EL w0 w' K { D with data := splice D.data k b } L ∧ Chg K.bl w w' :=
  (put_ok h.ed.dsk k m hk A c b hl hi hB).mono fun _ _ ⟨e, hd, hc⟩ => ⟨e, h.chg hd hc, hc⟩
end Go.Proofs.Ytlofnpebknfmkaa.Epo
