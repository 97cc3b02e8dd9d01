/- DERIVED. Texts of ours, merged: XSltAwake XSltPlay XSltBad. -/
import Derived.Test.YtpeioogkbcejmaaMplays16
import Derived.Test.YtpeioogkbcejmaaMplays8
import Derived.Lib.SlBytesConst
import Derived.Deep.CutRange
import Derived.Test.YtpeioogkbcejmaaMplays18
/- DERIVED. The contract of layer 9's awake. -/
namespace Go.Proofs.Ytpeioogkbcejmaa.Slt
open Go.RowKit Dsk
def abL : List Int := [97, 98]
def D3a : DS := (appD (newD 3) (newS 3) abL).1
def S3a : LS := { newS 3 with used := 1, texts := [abL] }
theorem app3_s : (appD (newD 3) (newS 3) abL).2.1 = S3a := by kernel_rfl
theorem app3_e : (appD (newD 3) (newS 3) abL).2.2 = 0 := by kernel_rfl
theorem D3a_len : D3a.data.length = 384 := by kernel_rfl
theorem D3a_8 : D3a.data.take 8 = [1, 0, 0, 0, 2, 97, 98, 0] := by kernel_rfl
theorem room3 : roomI (S3a.secs - S3a.used) = 251 := by kernel_rfl
theorem ab_in : InB abL := inb_cons (by decide) (inb_cons (by decide) inb_nil)
theorem app_ab {w0 w : World} {K : DK} {J : LK} {c : Nat} {ad : Addr} (h : St w0 w K J (newD 3) (newS 3)) (hB : Byt w (some ad) c abL) (hk : ad.block ∉ K.bl) :
    Calls Try.prog 15 #[.pointer (some ⟨J.g, 0, none⟩), .slice (some ad) 2 c] w fun e w' => ∃ J', e = .returned (.int .i64 0) ∧ J'.g = J.g ∧ St w0 w' K J' D3a S3a := by
  refine (append_any h.dsk h.lg (some ad) 2 c abL rfl hB (fun _ a ha => by cases ha; exact hk) ab_in (by rw [newD_secs]; decide) (by decide)).mono ?_
  rintro e w' ⟨J', rfl, q⟩
  rw [app3_s] at q
  exact ⟨J', by rw [app3_e], q.g, h.app q⟩
theorem bytes_3a {w0 w : World} {K : DK} {J : LK} {S : LS} (h : St w0 w K J D3a S) : Calls Try.prog 11 #[.pointer (some ⟨K.g, 0, none⟩)] w fun e w' => ∃ g c, e = .returned (.slice (some ⟨g, 0, none⟩) 384 c) ∧ (Byt w' (some ⟨g, 0, none⟩) c D3a.data ∧ 384 ≤ c) ∧ St w0 w' K J D3a S := by
  refine (bytes_any h.dsk).mono ?_
  rintro e w' ⟨v, rfl, ho, hb⟩
  rw [D3a_len] at ho
  obtain ⟨g, sp, rfl, hg, hh⟩ := own_shape ho D3a_len (by decide)
  exact ⟨g, _, rfl, ⟨⟨by rw [D3a_len]; omega, (fun h => by cases h), fun _ => ⟨g, 0, rfl, (Array.getElem?_eq_some_iff.1 hh).1, fun j hj => by rw [Nat.zero_add]; exact body_cell (K := ⟨0, g, sp⟩) hh j hj⟩⟩, by omega⟩, h.later hb⟩
theorem room_3a {w0 w : World} {K : DK} {J : LK} {D : DS} {g : Nat} (h : St w0 w K J D S3a) (hg : J.g = g) : Calls Try.prog 16 #[.pointer (some ⟨g, 0, none⟩)] w fun e w' => e = .returned (.int .i64 251) ∧ St w0 w' K J D S3a := by
  subst hg
  refine (room_any h.lg).mono ?_
  rintro e w' ⟨rfl, hb⟩
  rw [room3]
  exact ⟨rfl, h.later hb⟩
theorem used_st {w0 w : World} {K : DK} {J : LK} {D : DS} {S : LS} {g : Nat} (h : St w0 w K J D S) (hg : J.g = g) : Calls Try.prog 22 #[.pointer (some ⟨g, 0, none⟩)] w fun e w' => e = .returned (.int .i64 S.used) ∧ w = w' := by
  subst hg
  exact used_any h.lg
theorem used_1 {w0 w : World} {K : DK} {J : LK} {D : DS} {g : Nat} (h : St w0 w K J D S3a) (hg : J.g = g) : Calls Try.prog 22 #[.pointer (some ⟨g, 0, none⟩)] w fun e w' => e = .returned (.int .i64 1) ∧ w = w' := used_st h hg
theorem str8 {w : World} {g c : Nat} (h : Byt w (some ⟨g, 0, none⟩) c D3a.data) : (convert 33 9 (.slice (some ⟨g, 0, none⟩) 8 c)).run Try.prog w = .ok (.string { data := #[1, 0, 0, 0, 2, 97, 98, 0] }) w := by
  have h1 := Str.conv_any (n := 8) (Str.byt_take h 8) (by rw [D3a_8]; rfl)
  rw [D3a_8] at h1
  exact h1
theorem given_3 (w : World) : Calls Try.prog 14 #[.int .i64 3] w fun e w' => ∃ K J, e = .returned (.tuple #[.pointer (some ⟨K.g, 0, none⟩), .pointer (some ⟨J.g, 0, none⟩)]) ∧ St w w' K J (newD 3) (newS 3) := given_any w 3 (by decide) (by decide)
theorem const_byt (w : World) (L : List Int) (n : Nat) (hn : L.length = n) (fr : Nat × Nat) : Byt (w.alloc (.cells (u8s L) 5 fr)) (some ⟨w.heap.size, 0, none⟩) n L :=
  Str.byt_rowT (Go.heap_alloc_new w _) hn
theorem st_new {w0 w : World} {K : DK} {J : LK} {D : DS} {S : LS} (h : St w0 w K J D S) : w.heap.size ∉ K.bl := fun hm => by
  simp [DK.bl] at hm
  have h1 := h.dsk.glt
  have h2 := h.dsk.hlt
  omega
set_option maxRecDepth 100000 in
set_option maxHeartbeats 1000000 in
theorem awake_any (w : World) : Calls Try.prog 7 #[] w fun e w' => e = .returned (.bool true) ∧ Below w.heap.size w w' := by
  have hp := pne
  have kconst := fun (w : World) (C : Array Value) (n c : Nat) => Lib.run_convert_bytes_const (P := Try.prog) w 33 5 C n c Try.underlying33 Try.underlying5
  go_enter Try.func7, Try.ntmps7
  go_upto_region 5 with (first
    | (go_at_call 14; refine (given_3 w).mono ?_; rintro e w1 ⟨K, J, rfl, hq1⟩; have Q1 := Lib.hid hq1; clear hq1)
    | (go_at_call 15; refine (app_ab (Q1.out.later ((Below.refl _ _).alloc (Nat.le_refl _) _)) (const_byt w1 abL 2 rfl _) (st_new Q1.out)).mono ?_; rintro e w2 ⟨J2, rfl, hg2, hq2⟩; have Q2 := Lib.hid hq2; have G2 := Lib.hid hg2; clear hq2 hg2)
    | (go_at_call 11; refine (bytes_3a Q2.out).mono ?_; rintro e w3 ⟨g3, c3, rfl, hb3, hq3⟩; have Q3 := Lib.hid hq3; have B3 := Lib.hid hb3; clear hq3 hb3))
  have k1 := str8 B3.out.1
  have h8 : 8 ≤ c3 := by have := B3.out.2; omega
  have h8I : (8 : Int) ≤ (c3 : Int) := by omega
  go_wp2_with (first
    | (go_at_call 16; refine (room_3a Q3.out G2.out).mono ?_; rintro e w4 ⟨rfl, hq4⟩; have Q4 := Lib.hid hq4; clear hq4)
    | (go_at_call 22; refine (used_1 Q4.out G2.out).mono ?_; rintro e w5 ⟨rfl, rfl⟩))
  go_ret
  exact ⟨rfl, Q4.out.low⟩
end Go.Proofs.Ytpeioogkbcejmaa.Slt
/- DERIVED. What the walk of SlotsWhole keeps: the log, and the list of the texts that are wanted. -/
namespace Go.Proofs.Ytpeioogkbcejmaa.Slt
open Go.RowKit Dsk
structure WC (w wr : World) (K : DK) (J : LK) (D : DS) (S : LS) (v : Value) (qs : List Tp) : Prop where
  st : St w wr K J D S
  own : wr.ownsRow w.heap.size 33 1 v qs.length (qs.map Tp.val)
  ok : ∀ q ∈ qs, Byt w q.A q.c q.M ∧ InB q.M
  vap : ∀ g, v.ownBlock = some g → g ∉ K.bl ∧ g ∉ J.bl ∧ g ∉ J.tx
section
variable {w wr w' : World} {K : DK} {J J' : LK} {D D' : DS} {S S' : LS} {v v' : Value} {qs : List Tp}
theorem WC.later (h : WC w wr K J D S v qs) (hb : Below wr.heap.size wr w') : WC w w' K J D S v qs :=
  ⟨h.st.later hb, own_chg (S := []) h.own (Chg.of_below hb) (fun _ _ => by simp), h.ok, h.vap⟩
theorem WC.disk (h : WC w wr K J D S v qs) (hc : Chg K.bl wr w') (hd : Dsk w' K D') : WC w w' K J D' S v qs where
  st := ⟨hd, h.st.lg.disk hc, hc.below h.st.low h.st.low.size (fun k hk => h.st.kn k hk), h.st.kn, h.st.jn, h.st.tn⟩
  own := own_chg h.own hc (fun q hq => (h.vap q hq).1)
  ok := h.ok
  vap := h.vap
theorem WC.app (h : WC w wr K J D S v qs) (q : AppQ wr w' K J J' D' S') : WC w w' K J' D' S' v qs where
  st := h.st.app q
  own := own_chg h.own q.chg (fun g hg hm => by
    rcases List.mem_append.1 hm with hm | hm
    · exact (h.vap g hg).1 hm
    · exact (h.vap g hg).2.1 hm)
  ok := h.ok
  vap g hg := by
    have hlt := (h.own.lt g hg).2
    obtain ⟨h1, h2, h3⟩ := h.vap g hg
    refine ⟨h1, fun hm => ?_, fun hm => ?_⟩
    · rcases q.bl g hm with hm | hm
      · exact h2 hm
      · omega
    · rcases q.tx g hm with hm | hm
      · exact h3 hm
      · omega
theorem WC.open (h : WC w wr K J D S v qs) (hb : Below wr.heap.size wr w') (hl : Lg w' K J' S') (hj : ∀ q ∈ J'.bl, wr.heap.size ≤ q) (ht : ∀ q ∈ J'.tx, wr.heap.size ≤ q) : WC w w' K J' D S' v qs where
  st := ⟨h.st.dsk.later hb, hl, h.st.low.trans (hb.mono h.st.low.size), h.st.kn, fun q hq => Nat.le_trans h.st.low.size (hj q hq), fun q hq => Nat.le_trans h.st.low.size (ht q hq)⟩
  own := own_chg (S := []) h.own (Chg.of_below hb) (fun _ _ => by simp)
  ok := h.ok
  vap g hg := by
    have hlt := (h.own.lt g hg).2
    exact ⟨(h.vap g hg).1, fun hm => by have := hj g hm; omega, fun hm => by have := ht g hm; omega⟩
theorem WC.more (h : WC w wr K J D S v qs) (t : Tp) (ht : Byt w t.A t.c t.M ∧ InB t.M) (hown : w'.ownsRow w.heap.size 33 1 v' (qs.length + 1) (qs.map Tp.val ++ [t.val])) (hg : wr.grownBy w' v.ownBlock) (ho : v'.ownBlock = v.ownBlock ∨ v'.ownBlock = some wr.heap.size) : WC w w' K J D S v' (qs ++ [t]) where
  st := by
    have hc := chg_grown hg
    have hK := fun q (hq : q ∈ K.bl) (hm : q ∈ v.ownBlock.toList) => (h.vap q (by simpa using hm)).1 hq
    exact ⟨h.st.dsk.chg hc (hK _ (by simp [DK.bl])) (hK _ (by simp [DK.bl])), h.st.lg.chg hc (fun q hq hm => (h.vap q (by simpa using hm)).2.1 hq) (fun q hq hm => (h.vap q (by simpa using hm)).2.2 hq), hc.below h.st.low h.st.low.size (fun k hk => (h.own.lt k (by simpa using hk)).1), h.st.kn, h.st.jn, h.st.tn⟩
  own := by
    rw [List.length_append, List.map_append]
    exact hown
  ok q hq := by
    rcases List.mem_append.1 hq with hq | hq
    · exact h.ok q hq
    · rw [List.mem_singleton] at hq; rw [hq]; exact ht
  vap g hg' := by
    rcases ho with e | e
    · exact h.vap g (by rw [← e]; exact hg')
    · rw [hg'] at e
      cases e
      have h1 := h.st.dsk.glt
      have h2 := h.st.dsk.hlt
      refine ⟨fun hm => by simp [DK.bl] at hm; omega, fun hm => ?_, fun hm => absurd (h.st.lg.tlt _ hm) (Nat.lt_irrefl _)⟩
      obtain ⟨C, t, fr, hx⟩ := h.st.lg.toLg0.cells_of _ hm
      exact absurd (Array.getElem?_eq_some_iff.1 hx).1 (Nat.lt_irrefl _)
theorem WC.tx (h : WC w wr K J D S v qs) : ∃ A c, v = .slice A qs.length c ∧ TxAt wr A (qs.map (·.M)) := by
  obtain ⟨A, c, hv⟩ := own_nilK h.own
  refine ⟨A, c, hv, ⟨fun i hi => ?_⟩⟩
  rw [List.length_map] at hi
  have ho := h.own
  rw [hv] at ho
  obtain ⟨g, hA, _, hg, hc⟩ := own_cellS ho i hi
  obtain ⟨hB, hin⟩ := h.ok qs[i] (List.getElem_mem hi)
  have e2 : (qs.map (·.M)).getD i [] = qs[i].M := by simp [List.getD_eq_getElem?_getD, hi]
  have e3 : (qs.map Tp.val).getD i undef = qs[i].val := by simp [List.getD_eq_getElem?_getD, hi]
  rw [e3] at hc
  exact ⟨g, 0, qs[i].A, qs[i].c, hA, hg, by rw [e2, Nat.zero_add]; exact hc, by rw [e2]; exact hB.below h.st.low (Nat.le_refl _), by rw [e2]; exact hin⟩
end
theorem Rows.tx {B n g : Nat} {L : List (List Int)} {w : World} (h : Rows B L n n g w) (hn : n = L.length) (hi : ∀ t ∈ L, InB t) : TxAt w (some ⟨g, 0, none⟩) L := ⟨fun i hil => by
  obtain ⟨⟨C, h1, h2, h3⟩, _⟩ := h
  obtain ⟨v, a, ⟨A, c, rfl, hB⟩, _⟩ := h3 i (by omega)
  refine ⟨g, 0, A, c, rfl, (Array.getElem?_eq_some_iff.1 h1).1, by rw [Nat.zero_add, cell_row h1]; exact a, hB, hi _ ?_⟩
  rw [List.getD_eq_getElem?_getD, List.getElem?_eq_getElem hil, Option.getD_some]
  exact List.getElem_mem hil⟩
/-- the numbers of a disk and its log between two texts. -/
structure WG (i : Nat) (D : DS) (S : LS) : Prop where
  sh : S.from_ = 0 ∧ S.secs = 120
  lost : S.lost = false
  on : D.off = false
  len : D.data.length = 15360
  log : LogAt (reg D 0 120) S.texts S.used
  used : S.used ≤ 5 * i
  wr : D.writes ≤ 10 * i
theorem WG.cut {i : Nat} {D : DS} {S : LS} (h : WG i D S) (k : Int) (m : List Int) : WG i (cutD D k m) S := by
  have h1 : (cutD D k m).data = D.data := by unfold cutD; split <;> rfl
  have h2 : (cutD D k m).off = D.off := by unfold cutD; split <;> rfl
  have h3 : (cutD D k m).writes = D.writes := by unfold cutD; split <;> rfl
  exact ⟨h.sh, h.lost, by rw [h2]; exact h.on, by rw [h1]; exact h.len, by unfold reg; rw [h1]; exact h.log, h.used, by rw [h3]; exact h.wr⟩
theorem tk600 {n : Nat} (h : n ≤ 600) : tk n ≤ 5 := by unfold tk; omega
theorem WG.app {i : Nat} {D : DS} {S : LS} (h : WG i D S) (hi : i < 20) (t : List Int) (ht : t.length ≤ 600) :
    ((appD D S t).2.2 = 0 ∧ WG (i + 1) (appD D S t).1 (appD D S t).2.1 ∧ (appD D S t).2.1.texts = S.texts ++ [t]) ∨
    ((appD D S t).2.2 = 12 ∧ (appD D S t).1.data.length = 15360 ∧ (appD D S t).1.writes ≤ 10 * (i + 1) ∧ ∃ ts u, (ts = S.texts ∨ ts = S.texts ++ [t]) ∧ u ≤ 5 * (i + 1) ∧ LogAt (reg (appD D S t).1 0 120) ts u) := by
  have h5 := tk600 ht
  have hu := h.used
  have hq := app_log (D := D) (S := S) (t := t) (by rw [h.sh.1, h.sh.2]; exact h.log) h.lost h.on (by rw [h.sh.1, h.sh.2, h.len]; decide) (by omega) (by rw [h.sh.2]; omega)
  have hw := hq.wr
  have hw0 := h.wr
  have hl := hq.len.trans h.len
  rcases hq.get with ⟨e, ho, hs, hlog⟩ | ⟨e, ho, hs, hlog⟩
  · left
    rw [h.sh.1, h.sh.2] at hlog
    refine ⟨e, ⟨by rw [hs]; exact h.sh, by rw [hs]; exact h.lost, ho, hl, by rw [hs]; exact hlog, by rw [hs]; simp only; omega, by omega⟩, by rw [hs]⟩
  · right
    rw [h.sh.1, h.sh.2] at hlog
    refine ⟨e, hl, by omega, ?_⟩
    rcases hlog with hlog | hlog
    · exact ⟨_, _, .inl rfl, by omega, hlog⟩
    · exact ⟨_, _, .inr rfl, by omega, hlog⟩
/-- and behind a power that went, and came again. -/
theorem WG.again {i : Nat} {D : DS} {ts : List (List Int)} {u : Nat} (hl : D.data.length = 15360) (hw : D.writes ≤ 10 * i) (hu : u ≤ 5 * i) (hlog : LogAt (reg D 0 120) ts u) : WG i (restD D) ⟨0, 120, u, ts, false⟩ :=
  ⟨⟨rfl, rfl⟩, rfl, rfl, hl, hlog, hu, hw⟩
section
variable {w wr : World} {K : DK} {J : LK} {D : DS} {S : LS} {v : Value} {qs : List Tp}
theorem w_cut (h : WC w wr K J D S v qs) {i : Nat} (hg : WG i D S) (k : Int) (m : List Int) (hk : k ≤ 9223372036854775807) (hm : m.length = 16) (hb : InB m) :
    Calls Try.prog 19 #[.pointer (some ⟨K.g, 0, none⟩), .int .i64 k, .agg (vals m).toArray] wr fun e w' => (∃ E, e = .returned (.int .i64 E)) ∧ ∃ D', WC w w' K J D' S v qs ∧ WG i D' S := by
  refine (cut_any h.st.dsk k m hk hm hb).mono ?_
  rintro e w' ⟨rfl, hd, hc⟩
  exact ⟨⟨_, rfl⟩, _, h.disk hc hd, hg.cut k m⟩
theorem w_restart (h : WC w wr K J D S v qs) :
    Calls Try.prog 20 #[.pointer (some ⟨K.g, 0, none⟩)] wr fun e w' => e = .returned (.int .i64 0) ∧ WC w w' K J (restD D) S v qs := by
  refine (restart_any h.st.dsk).mono ?_
  rintro e w' ⟨rfl, hd, hc⟩
  exact ⟨rfl, h.disk hc hd⟩
theorem w_append (h : WC w wr K J D S v qs) {i : Nat} (hg : WG i D S) (hi : i < 20) (t : Tp) (hB : Byt w t.A t.c t.M) (hin : InB t.M) (n : Nat) (hn : t.M.length = n) :
    Calls Try.prog 15 #[.pointer (some ⟨J.g, 0, none⟩), .slice t.A n t.c] wr fun e w' => ∃ J', e = .returned (.int .i64 (appD D S t.M).2.2) ∧ J'.g = J.g ∧ WC w w' K J' (appD D S t.M).1 (appD D S t.M).2.1 v qs := by
  have hw := hg.wr
  have hs : D.secs = 120 := by simp [DS.secs, hg.len]
  refine (append_any h.st.dsk h.st.lg t.A n t.c t.M hn (hB.below h.st.low (Nat.le_refl _)) (fun h0 a ha hm => ?_) hin (by rw [hg.sh.1, hg.sh.2, hs]; decide) (by omega)).mono ?_
  · obtain ⟨g, off, e, hlt, _⟩ := hB.2.2 h0
    rw [e] at ha
    cases ha
    have := h.st.kn _ hm
    simp only at this
    omega
  · rintro e w' ⟨J', rfl, q⟩
    exact ⟨J', rfl, q.g, h.app q⟩
/-- the log that is opened of a disk, as its bytes are read. -/
theorem w_open (h : WC w wr K J D S v qs) (hl : D.data.length = 15360) (ho : D.off = false) {ts : List (List Int)} {u : Nat} (hlog : LogAt (reg D 0 120) ts u) :
    Calls Try.prog 18 #[.pointer (some ⟨K.g, 0, none⟩), .int .i64 0, .int .i64 120] wr fun e w' => ∃ J', e = .returned (.tuple #[.pointer (some ⟨J'.g, 0, none⟩), .int .i64 0]) ∧ WC w w' K J' D ⟨0, 120, u, ts, false⟩ v qs ∧ Below wr.heap.size wr w' := by
  obtain ⟨cs, R, e, hr⟩ := reads_all _ (reg D 0 120) (Nat.le_refl _)
  obtain ⟨rfl, ht, hu⟩ := log_reads hlog hr
  have hs : D.secs = 120 := by simp [DS.secs, hl]
  refine (open_walk h.st.dsk 0 120 (by omega) (by decide) ho rfl hr).mono ?_
  rintro e w' ⟨hq, hb⟩
  rcases hq with ⟨h0, _⟩ | ⟨_, J', rfl, hlg, hj, hx⟩
  · cases h0
  · rw [ht, hu] at hlg
    exact ⟨J', rfl, h.open hb hlg hj hx, hb⟩
theorem w_all (h : WC w wr K J D S v qs) {g : Nat} (hg : J.g = g) : Calls Try.prog 13 #[.pointer (some ⟨g, 0, none⟩)] wr fun e w' => ∃ g2, e = .returned (.slice (some ⟨g2, 0, none⟩) S.texts.length S.texts.length) ∧ Rows wr.heap.size S.texts S.texts.length S.texts.length g2 w' ∧ WC w w' K J D S v qs ∧ Below wr.heap.size wr w' := by
  subst hg
  refine (all_any h.st.lg).mono ?_
  rintro e w' ⟨g2, rfl, hr, hb⟩
  exact ⟨g2, rfl, hr, h.later hb, hb⟩
theorem w_same (h : WC w wr K J D S v qs) (A A2 : Option Addr) (n m c c2 : Nat) (L M : List (List Int)) (hn : L.length = n) (hm : M.length = m) (h1 : TxAt wr A L) (h2 : TxAt wr A2 M) (hn1 : n ≤ 1000) (hm1 : m ≤ 1000) (e : L = M) :
    Calls Try.prog 23 #[.slice A n c, .slice A2 m c2] wr fun e w' => e = .returned (.bool true) ∧ WC w w' K J D S v qs ∧ Below wr.heap.size wr w' := by
  refine (same_any A A2 n m c c2 L M hn hm h1 h2 (by omega) (by omega)).mono ?_
  rintro e w' ⟨rfl, hb⟩
  rw [decide_eq_true e]
  exact ⟨rfl, h.later hb, hb⟩
end
/-- append(want, t), t laid in a block of its own. -/
theorem wpList_app_tp {w wr : World} {K : DK} {J : LK} {D : DS} {S : LS} {v : Value} {qs : List Tp} {ops : Array Oper} {rest : List Oper} {o : Oper} {a : Act} {Q : Exit → Act → World → Prop} (hgd : o.guard = none) (s y : Operand)
    (ho : o.op = .call { callee := .builtin .append, args := #[s, y], argTypes := #[46, 46] }) (hw : WC w wr K J D S v qs) (t : Tp) (ht : Byt w t.A t.c t.M ∧ InB t.M) (m : Nat) (hm : t.M.length = m) (hs : a.eval s = v)
    (hy : a.eval y = .slice (some ⟨wr.heap.size, 0, none⟩) 1 1) (h63 : qs.length ≤ 1000)
    (h : ∀ v' w', WC w w' K J D S v' (qs ++ [t]) → Chg v.ownBlock.toList wr w' → wpList Try.prog ops Q rest (a.put o.dst v') w') : wpList Try.prog ops Q (o :: rest) a (wr.alloc (.cells #[.slice t.A m t.c] 33)) := by
  obtain ⟨i0, hi0, hz00, hz10, hz20⟩ := info_parts info_slz
  have hb : Below wr.heap.size wr (wr.alloc (.cells #[.slice t.A m t.c] 33)) := (Below.refl _ _).alloc (Nat.le_refl _) _
  have h2 := hw.later hb
  have hv : (Value.slice t.A m t.c) = t.val := by rw [Tp.val, hm]
  refine wpList_append_own_at _ hgd s y 46 ho w.heap.size 33 i0 (.slice none 0 0) 1 24 Try.underlying46 hi0 hz00 hz10 hz20 rfl (by decide) v qs.length (qs.map Tp.val) hs h2.own ⟨wr.heap.size, 0, none⟩ 1 1 [.slice t.A m t.c] hy rfl
    (fun j u hu => ?_) (fun u hu => ?_) (by unfold maxLen; omega) (by omega) h2.st.low.size ?_
  · have hg : (wr.alloc (.cells #[.slice t.A m t.c] 33)).heap[wr.heap.size]? = some (.cells #[.slice t.A m t.c] 33 (0, 0)) := heap_alloc_new _ _
    rw [Addr.add_mid, Nat.zero_add, cell_row hg]
    simpa using hu
  · simp only [List.mem_cons, List.mem_nil_iff, or_false] at hu
    subst hu; rfl
  · intro v' w' hown' hgrow _ hblk
    rw [hv] at hown'
    exact h v' w' (h2.more t ht hown' hgrow hblk) ((Chg.of_below hb).trans (chg_grown hgrow))
end Go.Proofs.Ytpeioogkbcejmaa.Slt
/- DERIVED. The contracts of slots' methods at logs that are none; layer 9's is, where it says yes. -/
namespace Go.Proofs.Ytpeioogkbcejmaa.Slt
open Go.RowKit Dsk
def zeroL : Array Value := #[.pointer none, .pointer none, .int .i64 0, .int .i64 0, .int .i64 0, .slice none 0 0, .bool false]
/-- nil, or a zero log. -/
def BadL (v : Value) (w : World) : Prop := v = .pointer none ∨ ∃ g, v = .pointer (some ⟨g, 0, none⟩) ∧ w.heap[g]? = some (.cells zeroL 61 (0, 0))
theorem BadL.later {v : Value} {w w' : World} (h : BadL v w) (hb : Below w.heap.size w w') : BadL v w' := by
  rcases h with h | ⟨g, h, hg⟩
  · exact .inl h
  · exact .inr ⟨g, h, (hb.block _ (Array.getElem?_eq_some_iff.1 hg).1).trans hg⟩
theorem leq_nil (a : Addr) (w : World) : (binOp .eql 37 (.pointer none) (.pointer (some a))).run Try.prog w = .ok (.bool false) w := by
  obtain ⟨j, hj⟩ : ∃ j, Try.prog.info? 61 = some j := Option.isSome_iff_exists.1 (by kernel_rfl)
  have h : ∀ d : Nat, (Op.equalIn (d + 1) 37 (.pointer none) (.pointer (some a))).run Try.prog w = .ok false w := fun d => by
    simp [Op.equalIn, run_underlying Try.underlying37]
  simp only [binOp]
  simp [Op.equal, Op.maxDepth, h 9999]
theorem badl_made {v : Value} {w : World} (h : BadL v w) : Calls Try.prog 29 #[v] w fun e w' => e = .returned (.bool false) ∧ w = w' := by
  rcases h with rfl | ⟨g, rfl, hg⟩
  · go_enter Try.func29, Try.ntmps29
    go_wp2
    go_ret
    exact ⟨rfl, rfl⟩
  · have c0 := cell_row hg 0
    rw [show zeroL[0]? = some (.pointer none) by rfl] at c0
    have he := leq_nil ⟨g, 0, none⟩
    clear hg
    go_enter Try.func29, Try.ntmps29
    go_wp2
    go_ret
    exact ⟨rfl, rfl⟩
theorem badl_append {v : Value} {w : World} (h : BadL v w) (x : Value) : Calls Try.prog 15 #[v, x] w fun e w' => e = .returned (.int .i64 1) ∧ w = w' := by
  have Hm := Lib.hid (badl_made h)
  clear h
  go_enter Try.func15, Try.ntmps15
  go_wp2_with (go_at_call 29; refine Hm.out.mono ?_; rintro e w' ⟨rfl, rfl⟩)
  go_ret
  exact ⟨rfl, rfl⟩
theorem badl_all {v : Value} {w : World} (h : BadL v w) : Calls Try.prog 13 #[v] w fun e w' => e = .returned (.slice none 0 0) ∧ w = w' := by
  have Hm := Lib.hid (badl_made h)
  clear h
  go_enter Try.func13, Try.ntmps13
  go_wp2_with (go_at_call 29; refine Hm.out.mono ?_; rintro e w' ⟨rfl, rfl⟩)
  go_ret
  exact ⟨rfl, rfl⟩
theorem badl_room {v : Value} {w : World} (h : BadL v w) : Calls Try.prog 16 #[v] w fun e w' => e = .returned (.int .i64 0) ∧ w = w' := by
  have Hm := Lib.hid (badl_made h)
  clear h
  go_enter Try.func16, Try.ntmps16
  go_wp2_with (go_at_call 29; refine Hm.out.mono ?_; rintro e w' ⟨rfl, rfl⟩)
  go_ret
  exact ⟨rfl, rfl⟩
theorem badl_used {v : Value} {w : World} (h : BadL v w) : Calls Try.prog 22 #[v] w fun e w' => e = .returned (.int .i64 0) ∧ w = w' := by
  have Hm := Lib.hid (badl_made h)
  clear h
  go_enter Try.func22, Try.ntmps22
  go_wp2_with (go_at_call 29; refine Hm.out.mono ?_; rintro e w' ⟨rfl, rfl⟩)
  go_ret
  exact ⟨rfl, rfl⟩
/-- a slice of strings, the texts' own. -/
def StrsAt (w : World) (A : Option Addr) (L : List (List Int)) : Prop := ∀ i, i < L.length → ∃ g off, A = some ⟨g, off, none⟩ ∧ g < w.heap.size ∧ w.cell? ⟨g, off + i, none⟩ = some (.string (strOfNums (L.getD i [])))
set_option maxHeartbeats 1000000 in
theorem is_yes {w : World} {K : DK} {J : LK} {S : LS} (h : Lg w K J S) (A : Option Addr) (n c : Nat) (hn : S.texts.length = n) (hs : StrsAt w A S.texts) :
    Calls Try.prog 21 #[.pointer (some ⟨J.g, 0, none⟩), .slice A n c] w fun e w' => e = .returned (.bool true) ∧ Below w.heap.size w w' := by
  have hn1 : n ≤ 16384 := by have := h.cnt; have := h.fit; have := h.end_; omega
  have Hall : Hid (Calls Try.prog 13 #[.pointer (some ⟨J.g, 0, none⟩)] w fun e w' => ∃ g, e = .returned (.slice (some ⟨g, 0, none⟩) n n) ∧ TxAt w' (some ⟨g, 0, none⟩) S.texts ∧ Below w.heap.size w w') := (all_any h).mono (by
    rintro e w' ⟨g, rfl, hr, hb⟩
    exact ⟨g, by rw [hn], hr.tx rfl (fun t ht => (h.inb t ht).1), hb⟩)
  have Hs := Lib.hid hs
  have Hn := Lib.hid hn
  clear h hs hn
  go_enter Try.func21, Try.ntmps21
  go_wp2_with (go_at_call 13; refine Hall.out.mono ?_; rintro e w1 ⟨g1, rfl, ht1, hb1⟩; have T1 := Lib.hid ht1; have B1 := Lib.hid hb1; clear ht1 hb1)
  go_loopw [6] (fun v wr => ∃ i : Nat, i ≤ n ∧ v = .int .i64 i ∧ Hid (Below w1.heap.size w1 wr)) (fun v _ => n - (intOf v).toNat)
  case atStart => exact ⟨0, Nat.zero_le _, rfl, Below.refl _ _⟩
  case round =>
    obtain ⟨i, hi, rfl, hr⟩ := hrel
    by_cases hlt : i < n
    · have hltI : (i : Int) < (n : Int) := by omega
      obtain ⟨g, off, B, cb, e1, hg, hc, hB, _⟩ := T1.out.at_ i (by rw [Hn.out]; exact hlt)
      cases e1
      obtain ⟨g2, off2, rfl, hg2, hc2⟩ := Hs.out i (by rw [Hn.out]; exact hlt)
      have hcr := (hr.out.cell (p := ⟨g1, 0 + i, none⟩) hg).trans hc
      rw [Nat.zero_add] at hcr
      have hcr2 := ((B1.out.trans (hr.out.mono B1.out.size)).cell (p := ⟨g2, off2 + i, none⟩) hg2).trans hc2
      have k1 := fun a => Str.conv_any (w := wr.drewN a) ((hB.below hr.out (Nat.le_refl _)).below (Below.drewN (Below.refl _ _) a) (Nat.le_refl _)) rfl
      obtain ⟨T, hT⟩ : ∃ T, T = strOfNums (S.texts.getD i []) := ⟨_, rfl⟩
      obtain ⟨l1, hl1⟩ : ∃ l, l = (S.texts.getD i []).length := ⟨_, rfl⟩
      rw [← hT, ← hl1] at k1
      rw [← hl1] at hcr
      rw [← hT] at hcr2
      clear hc hc2 hB hT hl1
      go_upto_region 7 with (fail)
      go_quiet (fail)
      go_wp2
      exact ⟨⟨i + 1, by omega, by go_num, Below.drewN hr.out _⟩, by simp [intOf]; omega⟩
    · have hltI : ¬ (i : Int) < (n : Int) := by omega
      obtain rfl : i = n := by omega
      go_wp2
      go_ret
      exact ⟨rfl, B1.out.trans (hr.out.mono B1.out.size)⟩
end Go.Proofs.Ytpeioogkbcejmaa.Slt
