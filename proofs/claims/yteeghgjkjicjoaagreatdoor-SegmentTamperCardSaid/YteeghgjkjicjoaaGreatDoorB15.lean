/- Texts of ours, merged. -/
import Derived.Test.YteeghgjkjicjoaaGreatDoorB14
import Derived.Laws.Cover3
namespace Go.Proofs.YteeghgjkjicjoaaGreatDoor.Slt
open Go.RowKit Dsk
def appD (D:DS) (S:LS) (t:List Int):DS × LS × Int :=
 if S.lost = true ∨ D.off = true then (D,S,12)
 else if 262144 < t.length then (D,S,3)
 else if S.secs - S.used < tk t.length then (D,S,7)
 else if (writD D (S.from_ + S.used) t (firstK t.length (S.secs - S.used))).2 = 0 then
  ((writD D (S.from_ + S.used) t (firstK t.length (S.secs - S.used))).1,{ S with used:=S.used + tk t.length,texts:=S.texts ++ [t] },0)
 else ((writD D (S.from_ + S.used) t (firstK t.length (S.secs - S.used))).1,{ S with lost:=true },(writD D (S.from_ + S.used) t (firstK t.length (S.secs - S.used))).2)
structure AppQ (w w':World) (K:DK) (J J':LK) (D:DS) (S:LS):Prop where
 dsk:Dsk w' K D
 lg:Lg w' K J' S
 g:J'.g = J.g
 chg:Chg (K.bl ++ J.bl) w w'
 bl:∀ q ∈ J'.bl,q ∈ J.bl ∨ w.heap.size ≤ q
 tx:∀ q ∈ J'.tx,q ∈ J.tx ∨ w.heap.size ≤ q
theorem AppQ.same {w w':World} {K:DK} {J:LK} {D:DS} {S:LS} (hd:Dsk w K D) (h:Lg w K J S) (hb:Below w.heap.size w w'):AppQ w w' K J J D S :=
 ⟨hd.later hb,h.later hb,rfl,Chg.of_below hb,fun _ h => .inl h,fun _ h => .inl h⟩
theorem rowL_lost {K:DK} {J:LK} {S:LS}:(rowL K J S).setIfInBounds 6 (.bool true) = rowL K J { S with lost:=true }:=rfl
theorem Lg.lose {w w':World} {K:DK} {J:LK} {S:LS} (h:Lg w K J S) (hc:Chg [J.g] w w') (hr:w'.heap[J.g]? = some (.cells (rowL K J { S with lost:=true }) 125 (0,0))):Lg w' K J { S with lost:=true } where
 row:=hr
 own:=own_chg h.own hc (fun q hq => by simp; exact h.gv q hq)
 gv:=h.gv
 txt i hi:=(h.txt i hi).chg hc (fun q hq => by
  simp
  rintro rfl
  refine (h.tap J.g ?_).2 (by simp [LK.bl])
  unfold LK.tx
  rw [List.mem_flatMap]
  have hl:i < J.ts.length:=by rw [h.len]; exact hi
  refine ⟨J.ts.getD i undef,?_,by simpa using hq⟩
  rw [List.getD_eq_getElem?_getD,List.getElem?_eq_getElem hl,Option.getD_some]
  exact List.getElem_mem hl)
 tlt q hq:=Nat.lt_of_lt_of_le (h.tlt q hq) hc.size
 tap:=h.tap
 kap:=h.kap
 inb:=h.inb
 fit:=h.fit
 end_:=h.end_
 cnt:=h.cnt
theorem byt_chg {w w':World} {A:Option Addr} {c:Nat} {L:List Int} {T:List Nat} (h:Byt w A c L) (hc:Chg T w w') (hA:0 < L.length → ∀ a,A = some a → a.block ∉ T):Byt w' A c L:=by
 by_cases h0:0 < L.length
 · exact h.chg hc (hA h0)
 · exact ⟨h.1,h.2.1,fun hl => absurd hl h0⟩
section
variable {w:World} {K:DK} {D:DS} {J:LK} {S:LS}
theorem append_off (hd:Dsk w K D) (h:Lg w K J S) (v:Value) (hl:S.lost = true ∨ D.off = true) :
 Calls Tryz.prog 59 #[J.ptr,v] w fun e w' => e = .returned (.int .i64 12) ∧ w = w':=by
 have Hm:=Lib.hid (lmade_any h)
 have Ho:=Lib.hid (off_any hd)
 obtain ⟨_,c1,_,_,_,_,c6⟩:=h.cells
 unfold LK.ptr DK.ptr at *
 cases el:S.lost
 · have eo:D.off = true:=by rcases hl with e | e; rw [el] at e; cases e; exact e
   rw [el] at c6
   rw [eo] at Ho
   clear hd h hl
   go_enter Tryz.func59,Tryz.ntmps59
   go_wp2_with (first
    | (go_at_call 91; refine Hm.out.mono ?_; rintro e w' ⟨rfl,rfl⟩)
    | (go_at_call 26; refine Ho.out.mono ?_; rintro e w' ⟨rfl,rfl⟩))
   go_ret
   exact ⟨rfl,rfl⟩
 · rw [el] at c6
   clear hd h hl
   go_enter Tryz.func59,Tryz.ntmps59
   go_wp2_with (first
    | (go_at_call 91; refine Hm.out.mono ?_; rintro e w' ⟨rfl,rfl⟩)
    | (go_at_call 26; refine Ho.out.mono ?_; rintro e w' ⟨rfl,rfl⟩))
   go_ret
   exact ⟨rfl,rfl⟩
theorem append_long (hd:Dsk w K D) (h:Lg w K J S) (A:Option Addr) (n c:Nat) (hl:S.lost = false) (ho:D.off = false) (hn:262144 < n) :
 Calls Tryz.prog 59 #[J.ptr,.slice A n c] w fun e w' => e = .returned (.int .i64 3) ∧ w = w':=by
 have Hm:=Lib.hid (lmade_any h)
 have Ho:=Lib.hid (off_any hd)
 obtain ⟨_,c1,_,_,_,_,c6⟩:=h.cells
 unfold LK.ptr DK.ptr at *
 rw [hl] at c6
 rw [ho] at Ho
 have hnI:(262144:Int) < (n:Int):=by omega
 clear hd h hl ho
 go_enter Tryz.func59,Tryz.ntmps59
 go_wp2_with (first
  | (go_at_call 91; refine Hm.out.mono ?_; rintro e w' ⟨rfl,rfl⟩)
  | (go_at_call 26; refine Ho.out.mono ?_; rintro e w' ⟨rfl,rfl⟩))
 go_ret
 exact ⟨rfl,rfl⟩
theorem append_full (hd:Dsk w K D) (h:Lg w K J S) (A:Option Addr) (n c:Nat) (hl:S.lost = false) (ho:D.off = false) (hn:n ≤ 262144) (hf:S.secs - S.used < tk n) :
 Calls Tryz.prog 59 #[J.ptr,.slice A n c] w fun e w' => e = .returned (.int .i64 7) ∧ Below w.heap.size w w':=by
 have Hm:=Lib.hid (lmade_any h)
 have Ho:=Lib.hid (off_any hd)
 have Hf:=Lib.hid (free_any h)
 have Hs:=Lib.hid (sectorsOf_any n (by omega))
 obtain ⟨_,c1,_,_,_,_,c6⟩:=h.cells
 unfold LK.ptr DK.ptr at *
 rw [hl] at c6
 rw [ho] at Ho
 have hnI:(n:Int) ≤ 262144:=by omega
 obtain ⟨F,hF⟩:∃ F,F = S.secs - S.used:=⟨_,rfl⟩
 obtain ⟨k,hk⟩:∃ k,k = tk n:=⟨_,rfl⟩
 rw [← hF] at Hf hf
 rw [← hk] at Hs hf
 have hfI:(F:Int) < (k:Int):=by omega
 clear hd h hl ho hF hk
 go_enter Tryz.func59,Tryz.ntmps59
 go_wp2_with (first
  | (go_at_call 91; refine Hm.out.mono ?_; rintro e w' ⟨rfl,rfl⟩)
  | (go_at_call 26; refine Ho.out.mono ?_; rintro e w' ⟨rfl,rfl⟩)
  | (go_at_call 92; refine (Hs.out _).mono ?_; rintro e w' ⟨rfl,rfl⟩)
  | (go_at_call 93; refine Hf.out.mono ?_; rintro e w1 ⟨rfl,hb1⟩; have Hb1:=Lib.hid hb1; clear hb1))
 go_ret
 exact ⟨rfl,Hb1.out⟩
set_option maxHeartbeats 1000000 in
theorem append_goes (hd:Dsk w K D) (h:Lg w K J S) (A:Option Addr) (n c:Nat) (t:List Int) (htl:t.length = n) (hB:Byt w A c t) (hA:0 < t.length → ∀ a,A = some a → a.block ∉ K.bl) (ht:InB t) (hl:S.lost = false) (ho:D.off = false) (hn:n ≤ 262144) (hf:tk n ≤ S.secs - S.used) (hend:S.from_ + S.secs ≤ D.secs) (hw:D.writes ≤ 576460752303423488) :
 Calls Tryz.prog 59 #[J.ptr,.slice A n c] w fun e w' => ∃ J',e = .returned (.int .i64 (appD D S t).2.2) ∧ AppQ w w' K J J' (appD D S t).1 (appD D S t).2.1:=by
 have hgK:∀ q ∈ K.bl,q < w.heap.size:=by
  intro q hq; simp [DK.bl] at hq
  rcases hq with rfl | rfl
  · exact hd.glt
  · exact hd.hlt
 have Hm:=Lib.hid (lmade_any h)
 have Ho:=Lib.hid (off_any hd)
 have Hf:=Lib.hid (free_any h)
 have Hs:=Lib.hid (sectorsOf_any n (by omega))
 have hfu:=h.fit
 have hF:S.used + tk n ≤ S.secs:=by omega
 have Hw:=Lib.hid (fun (w1:World) (hb:Below w.heap.size w w1) => lwrite_any (w:=w1) (hd.later hb) (h.later hb) A n c t htl hn (hB.below hb (Nat.le_refl _)) ht hF hend ho hw)
 obtain ⟨R,hR⟩:∃ R,R = writD D (S.from_ + S.used) t (firstK n (S.secs - S.used)):=⟨_,rfl⟩
 have happ:appD D S t = if R.2 = 0 then (R.1,{ S with used:=S.used + tk n,texts:=S.texts ++ [t] },0) else (R.1,{ S with lost:=true },R.2):=by
  unfold appD
  rw [if_neg (by rw [hl,ho]; simp),htl,if_neg (by omega),if_neg (by omega),← hR]
 rw [happ]
 rw [← hR] at Hw
 obtain ⟨_,c1,_,_,_,_,c6⟩:=h.cells
 rw [hl] at c6
 rw [ho] at Ho
 have H:=Lib.hid h
 have HB:=Lib.hid hB
 have HA:=Lib.hid hA
 have Ht:=Lib.hid ht
 have Htl:=Lib.hid htl
 have HgK:=Lib.hid hgK
 have HF:=Lib.hid hF
 have Hn:=Lib.hid hn
 have hnI:(n:Int) ≤ 262144:=by omega
 obtain ⟨F,hFe⟩:∃ F,F = S.secs - S.used:=⟨_,rfl⟩
 obtain ⟨k,hk⟩:∃ k,k = tk n:=⟨_,rfl⟩
 rw [← hFe] at Hf hf
 rw [← hk] at Hs hf
 have hfI:(k:Int) ≤ (F:Int):=by omega
 have hk':((tk n:Nat):Int) = (k:Int):=by rw [hk]
 clear hd h hB hA ht htl ho hR happ hgK hF hFe hk hfu hw hl hend hk'
 by_cases e0:R.2 = 0
 · rw [if_pos e0]
   rw [e0] at Hw
   have Hkeep:=Lib.hid (fun (w1:World) (hc:Chg K.bl w w1) => keep_any (w:=w1) (H.out.disk hc) (fun q hq => Nat.lt_of_lt_of_le (HgK.out q hq) hc.size) (t:=t) (v:=.slice A n c) ⟨A,c,by rw [Htl.out],byt_chg HB.out hc HA.out⟩ Ht.out (by rw [Htl.out]; exact Hn.out) (by rw [Htl.out]; exact HF.out))
   unfold LK.ptr DK.ptr at *
   clear e0
   go_enter Tryz.func59,Tryz.ntmps59
   go_wp2_with (first
    | (go_at_call 91; refine Hm.out.mono ?_; rintro e w' ⟨rfl,rfl⟩)
    | (go_at_call 26; refine Ho.out.mono ?_; rintro e w' ⟨rfl,rfl⟩)
    | (go_at_call 92; refine (Hs.out _).mono ?_; rintro e w' ⟨rfl,rfl⟩)
    | (go_at_call 93; refine Hf.out.mono ?_; rintro e w1 ⟨rfl,hb1⟩; have Hb1:=Lib.hid hb1; clear hb1)
    | (go_at_call 94; refine (Hw.out _ Hb1.out).mono ?_; rintro e w2 ⟨rfl,hd2,hc2⟩; have Hd2:=Lib.hid hd2; have Hc2:=Lib.hid ((Chg.of_below Hb1.out).trans hc2); clear hd2 hc2)
    | (go_at_call 77; refine (Hkeep.out _ Hc2.out).mono ?_; rintro e w3 ⟨rfl,J',hq⟩; have Hq:=Lib.hid hq; clear hq))
   go_ret
   have q:=Hq.out
   rw [← Htl.out]
   exact ⟨J',rfl,Hd2.out.chg q.chg (fun hm => H.out.kap _ hm (by simp [DK.bl])) (fun hm => H.out.kap _ hm (by simp [DK.bl])),q.lg,q.g,(Hc2.out.mono (fun x hx => .inl (List.mem_append_left _ hx))).trans (q.chg.mono (fun x hx => .inl (List.mem_append_right _ hx))),fun x hx => (q.bl x hx).imp id (fun y => Nat.le_trans Hc2.out.size y),fun x hx => (q.tx x hx).imp id (fun y => Nat.le_trans Hc2.out.size y)⟩
 · rw [if_neg e0]
   obtain ⟨er,her⟩:∃ er,er = R.2:=⟨_,rfl⟩
   rw [← her] at Hw e0 ⊢
   clear her
   unfold LK.ptr DK.ptr at *
   go_enter Tryz.func59,Tryz.ntmps59
   go_wp2_with (first
    | (go_at_call 91; refine Hm.out.mono ?_; rintro e w' ⟨rfl,rfl⟩)
    | (go_at_call 26; refine Ho.out.mono ?_; rintro e w' ⟨rfl,rfl⟩)
    | (go_at_call 92; refine (Hs.out _).mono ?_; rintro e w' ⟨rfl,rfl⟩)
    | (go_at_call 93; refine Hf.out.mono ?_; rintro e w1 ⟨rfl,hb1⟩; have Hb1:=Lib.hid hb1; clear hb1)
    | (go_at_call 94; refine (Hw.out _ Hb1.out).mono ?_; rintro e w2 ⟨rfl,hd2,hc2⟩; have hc:=(Chg.of_below Hb1.out).trans hc2; have h2:=H.out.disk hc; have c62:=h2.cells.2.2.2.2.2.2; have f62:=free_row h2.row 6; have Hd2:=Lib.hid hd2; have Hc2:=Lib.hid hc; have H2:=Lib.hid h2; clear hd2 hc2 hc h2))
   go_ret
   have hc3:Chg [J.g] w2 (w2.setCell ⟨J.g,6,none⟩ (.bool true)):=(Chg.refl _ _).setCell (by simp) _
   have hjk:J.g ∉ K.bl:=H.out.kap _ (by simp [LK.bl])
   refine ⟨J,rfl,Hd2.out.chg hc3 (fun hm => hjk (by simp at hm; simp [DK.bl,hm])) (fun hm => hjk (by simp at hm; simp [DK.bl,hm])),H2.out.lose hc3 (by rw [heap_setCell_same _ _ _ _ _ _ H2.out.row,rowL_lost]),rfl,(Hc2.out.mono (fun x hx => .inl (List.mem_append_left _ hx))).trans (hc3.mono (fun x hx => .inl (List.mem_append_right _ (by simp at hx; subst hx; simp [LK.bl])))),fun x hx => .inl hx,fun x hx => .inl hx⟩
theorem append_any (hd:Dsk w K D) (h:Lg w K J S) (A:Option Addr) (n c:Nat) (t:List Int) (htl:t.length = n) (hB:Byt w A c t) (hA:0 < t.length → ∀ a,A = some a → a.block ∉ K.bl) (ht:InB t) (hend:S.from_ + S.secs ≤ D.secs) (hw:D.writes ≤ 576460752303423488) :
 Calls Tryz.prog 59 #[J.ptr,.slice A n c] w fun e w' => ∃ J',e = .returned (.int .i64 (appD D S t).2.2) ∧ AppQ w w' K J J' (appD D S t).1 (appD D S t).2.1:=by
 by_cases h1:S.lost = true ∨ D.off = true
 · have e:appD D S t = (D,S,12):=by unfold appD; rw [if_pos h1]
   rw [e]
   refine (append_off hd h _ h1).mono ?_
   rintro e w' ⟨rfl,rfl⟩
   exact ⟨J,rfl,.same hd h (Below.refl _ _)⟩
 · have hl:S.lost = false:=by cases e:S.lost; rfl; exact absurd (.inl e) h1
   have ho:D.off = false:=by cases e:D.off; rfl; exact absurd (.inr e) h1
   by_cases h2:262144 < n
   · have e:appD D S t = (D,S,3):=by unfold appD; rw [if_neg h1,htl,if_pos h2]
     rw [e]
     refine (append_long hd h A n c hl ho h2).mono ?_
     rintro e w' ⟨rfl,rfl⟩
     exact ⟨J,rfl,.same hd h (Below.refl _ _)⟩
   · by_cases h3:S.secs - S.used < tk n
     · have e:appD D S t = (D,S,7):=by unfold appD; rw [if_neg h1,htl,if_neg h2,if_pos h3]
       rw [e]
       refine (append_full hd h A n c hl ho (by omega) h3).mono ?_
       rintro e w' ⟨rfl,hb⟩
       exact ⟨J,rfl,.same hd h hb⟩
     · exact append_goes hd h A n c t htl hB hA ht hl ho (by omega) (by omega) hend hw
end
end Go.Proofs.YteeghgjkjicjoaaGreatDoor.Slt
namespace Go.Proofs.YteeghgjkjicjoaaGreatDoor.Slt
open Go.RowKit Dsk
def goodB (L:List Int):Prop:=L.getD 0 0 = 1 ∧ lenB L ≤ 262144 ∧ tk (lenB L) * 128 ≤ L.length
def restV (g off n cap k:Nat):Value:=.slice (if cap = k then some ⟨g,off,none⟩ else some ⟨g,off + k,none⟩) (n - k) (cap - k)
theorem vals_range {w:World} {g off c:Nat} {L:List Int} (hB:Byt w (some ⟨g,off,none⟩) c L) (h:5 ≤ L.length):w.rangeAt g off (vals (L.take 5)):=fun j v hv => by
 obtain ⟨hj,rfl⟩:=vals_get hv
 obtain ⟨g',off',e,_,hc⟩:=hB.2.2 (by omega)
 cases e
 rw [List.length_take] at hj
 rw [hc j (by omega),getD_take' (by omega)]
theorem head_is {L:List Int} (h:5 ≤ L.length):∃ a b c d e,L.take 5 = [a,b,c,d,e] ∧ a = L.getD 0 0:=by
 match L,h with
 | a :: b :: c :: d :: e :: r,_ => exact ⟨a,b,c,d,e,rfl,rfl⟩
def hd5 (a b c d e:Int):Array Value:=#[.int .u8 a,.int .u8 b,.int .u8 c,.int .u8 d,.int .u8 e]
theorem hd5_cells {w:World} {g:Nat} {a b c d e:Int} {T:TypeId} {fr:Nat × Nat} (h:w.heap[g]? = some (.cells (hd5 a b c d e) T fr)):w.cell? ⟨g,0,none⟩ = some (.int .u8 a) ∧ w.cell? ⟨g,1,none⟩ = some (.int .u8 b) ∧ w.cell? ⟨g,2,none⟩ = some (.int .u8 c) ∧ w.cell? ⟨g,3,none⟩ = some (.int .u8 d) ∧ w.cell? ⟨g,4,none⟩ = some (.int .u8 e) :=
 ⟨cell_row h 0,cell_row h 1,cell_row h 2,cell_row h 3,cell_row h 4⟩
set_option maxRecDepth 100000 in
set_option maxHeartbeats 2000000 in
theorem cut_yes {w:World} {g off n cap:Nat} {L:List Int} (hn:L.length = n) (h128:128 ≤ n) (hsm:n ≤ 4194304) (hi:InB L) (hB:Byt w (some ⟨g,off,none⟩) cap L) (hg:goodB L) :
 Calls Tryz.prog 105 #[.slice (some ⟨g,off,none⟩) n cap] w fun e w' => e = .returned (.tuple #[.slice (some ⟨g,off + 5,none⟩) (lenB L) (cap - 5),restV g off n cap (tk (lenB L) * 128),.int .i64 0]) ∧ Below w.heap.size w w':=by
 obtain ⟨h0,h1,h2⟩:=hg
 have hcap:n ≤ cap:=by rw [← hn]; exact hB.1
 have Hrg:=Lib.hid (vals_range hB (by omega))
 have hl5:(L.take 5).length = 5:=by rw [List.length_take]; omega
 have hlen:=length_any (L.take 5) hl5 (hi.take 5)
 rw [lenB_take (by omega)] at hlen
 obtain ⟨a0,a1,a2,a3,a4,h5,ha0⟩:=head_is (L:=L) (by omega)
 rw [h0] at ha0
 subst ha0
 rw [h5] at hlen
 have Hlen:Hid (∀ w:World,Calls Tryz.prog 122 #[.agg #[.int .u8 1,.int .u8 a1,.int .u8 a2,.int .u8 a3,.int .u8 a4]] w fun e w' => e = .returned (.int .u32 (lenB L:Nat)) ∧ Below w.heap.size w w'):=hlen
 obtain ⟨m,hm⟩:∃ m,m = lenB L:=⟨_,rfl⟩
 rw [← hm] at h1 h2 Hlen ⊢
 have Hsec:=Lib.hid (sectorsOf_any m (by omega))
 obtain ⟨T,hT⟩:∃ T,T = tk m:=⟨_,rfl⟩
 have hTm:m + 5 ≤ T * 128:=by rw [hT]; exact tk_fit m
 have hT3:T ≤ 3000:=by rw [hT]; unfold tk; omega
 rw [← hT] at h2 Hsec ⊢
 have Hsz:Hid ((Tryz.prog.info? 164).map (·.size) = some (hd5 1 a1 a2 a3 a4).size):=info_head
 have Hsz2:Hid ((Tryz.prog.info? 164).map (·.size) = some (vals (L.take 5)).length):=by show _ = _; rw [vals_length,hl5]; exact info_head
 have Hone:Hid ((hd5 1 a1 a2 a3 a4).all (·.oneCell') = true):=u8s_one [1,a1,a2,a3,a4]
 have Hv5:Hid ((vals (L.take 5)).toArray = hd5 1 a1 a2 a3 a4):=by show _ = _; rw [h5]; rfl
 rw [hn] at h2
 have hmI:(m:Int) ≤ 262144:=by omega
 have h2I:(T:Int) * 128 ≤ (n:Int):=by omega
 have hat:=fun (w:World) => run_arrayAt (P:=Tryz.prog) (w:=w) 164 5 5 (some ⟨g,off,none⟩) n cap Tryz.underlying164 (by omega)
 clear hB hm hT hl5 hi h0 hlen h5
 go_enter Tryz.func105,Tryz.ntmps105
 go_upto_region 2 with (first
  | (refine wpList_load_mid rfl 164 (.tmp 9) rfl g off (by rfl) (vals (L.take 5)) _ Hrg.out Tryz.underlying164 rfl Hsz2.out ?_; rw [Hv5.out])
  | (refine wpList_store_row rfl 164 (.tmp 5) (.tmp 10) rfl w.heap.size (hd5 1 a1 a2 a3 a4) rfl rfl 164 _ (Go.heap_alloc_new w _) Hsz.out (by rfl) Hone.out ?_; rw [World.setRow_alloc_new]))
 have hrow:=Go.heap_alloc_new w (.cells (hd5 1 a1 a2 a3 a4) 164)
 have hlow:Below w.heap.size w (w.alloc (.cells (hd5 1 a1 a2 a3 a4) 164)):=(Below.refl _ _).alloc (Nat.le_refl _) _
 have hlt:w.heap.size < (w.alloc (.cells (hd5 1 a1 a2 a3 a4) 164)).heap.size:=by rw [World.size_alloc]; omega
 obtain ⟨w1,hw1⟩:∃ w1,w1 = w.alloc (.cells (hd5 1 a1 a2 a3 a4) 164):=⟨_,rfl⟩
 rw [← hw1] at hrow hlow hlt ⊢
 obtain ⟨c0,c1,c2,c3,c4⟩:=hd5_cells hrow
 have Hrow:=Lib.hid hrow
 have Hlow:=Lib.hid hlow
 have Hlt:=Lib.hid hlt
 clear hrow hlow hlt hw1 hat
 go_upto_region 8 with (first
  | (go_at_call 122; refine (Hlen.out w2).mono ?_; rintro e w3 ⟨rfl,hb3⟩; have Hb3:=Lib.hid (Hb2.out.trans (hb3.mono Hb2.out.size)); clear hb3)
  | (go_at_call 122; refine (Hlen.out w1).mono ?_; rintro e w2 ⟨rfl,hb2⟩; obtain ⟨d0,d1,d2,d3,d4⟩:=hd5_cells ((hb2.block _ Hlt.out).trans Hrow.out); have Hb2:=Lib.hid (Hlow.out.trans (hb2.mono Hlow.out.size)); clear hb2)
  | (go_at_call 92; refine (Hsec.out _).mono ?_; rintro e w' ⟨rfl,rfl⟩))
 clear c0 c1 c2 c3 c4 d0 d1 d2 d3 d4
 have hTc:T * 128 ≤ cap:=by omega
 have hmc:5 + m ≤ cap:=by omega
 have h5c:¬ cap = 5:=by omega
 by_cases hc:cap = T * 128
 · have HR:Hid (restV g off n cap (T * 128) = .slice (some ⟨g,off,none⟩) (n - T * 128) (cap - T * 128)):=by show _ = _; unfold restV; rw [if_pos hc]
   go_quiet (fail)
   go_wp2
   refine bodyPost_ret (results_tmp3 rfl _ _ _) rfl ?_
   refine ⟨?_,Below.drewN Hb3.out _⟩
   rw [HR.out]
   show Ending.returned (.tuple #[.slice (some ⟨g,off + 5,none⟩) (5 + m - 5) (T * 128 - 5),.slice (some ⟨g,off,none⟩) (n - T * 128) (T * 128 - T * 128),.int .i64 0]) = _
   rw [hc,Nat.add_sub_cancel_left]
 · have HR:Hid (restV g off n cap (T * 128) = .slice (some ⟨g,off + T * 128,none⟩) (n - T * 128) (cap - T * 128)):=by show _ = _; unfold restV; rw [if_neg hc]
   go_quiet (fail)
   go_wp2
   refine bodyPost_ret (results_tmp3 rfl _ _ _) rfl ?_
   refine ⟨?_,Below.drewN Hb3.out _⟩
   rw [HR.out]
   show Ending.returned (.tuple #[.slice (some ⟨g,off + 5,none⟩) (5 + m - 5) (cap - 5),.slice (some ⟨g,off + T * 128,none⟩) (n - T * 128) (cap - T * 128),.int .i64 0]) = _
   rw [Nat.add_sub_cancel_left]
set_option maxRecDepth 100000 in
set_option maxHeartbeats 2000000 in
theorem cut_no {w:World} {g off n cap:Nat} {L:List Int} (hn:L.length = n) (h128:128 ≤ n) (hi:InB L) (hsm:n ≤ 4194304) (hB:Byt w (some ⟨g,off,none⟩) cap L) (hg:¬ goodB L) :
 Calls Tryz.prog 105 #[.slice (some ⟨g,off,none⟩) n cap] w fun e w' => e = .returned (.tuple #[.slice none 0 0,.slice none 0 0,.int .i64 9]) ∧ Below w.heap.size w w':=by
 have Hrg:=Lib.hid (vals_range hB (by omega))
 have hl5:(L.take 5).length = 5:=by rw [List.length_take]; omega
 have hlen:=length_any (L.take 5) hl5 (hi.take 5)
 rw [lenB_take (by omega)] at hlen
 obtain ⟨a0,a1,a2,a3,a4,h5,ha0⟩:=head_is (L:=L) (by omega)
 have hin0:0 ≤ a0 ∧ a0 < 256:=by rw [ha0]; exact hi 0
 have hlt:lenB L < 4294967296:=by
  have b1:=hi 1
  have b2:=hi 2
  have b3:=hi 3
  have b4:=hi 4
  unfold lenB
  omega
 unfold goodB at hg
 rw [← ha0,hn] at hg
 rw [h5] at hlen
 have Hlen:Hid (∀ w:World,Calls Tryz.prog 122 #[.agg #[.int .u8 a0,.int .u8 a1,.int .u8 a2,.int .u8 a3,.int .u8 a4]] w fun e w' => e = .returned (.int .u32 (lenB L:Nat)) ∧ Below w.heap.size w w'):=hlen
 obtain ⟨m,hm⟩:∃ m,m = lenB L:=⟨_,rfl⟩
 rw [← hm] at hg Hlen hlt
 have Hsec:=Lib.hid (fun hm => sectorsOf_any m hm)
 obtain ⟨T,hT⟩:∃ T,T = tk m:=⟨_,rfl⟩
 have hT3:m ≤ 262144 → T ≤ 3000:=by intro h; rw [hT]; unfold tk; omega
 rw [← hT] at hg Hsec
 have Hsz:Hid ((Tryz.prog.info? 164).map (·.size) = some (hd5 a0 a1 a2 a3 a4).size):=info_head
 have Hsz2:Hid ((Tryz.prog.info? 164).map (·.size) = some (vals (L.take 5)).length):=by show _ = _; rw [vals_length,hl5]; exact info_head
 have Hone:Hid ((hd5 a0 a1 a2 a3 a4).all (·.oneCell') = true):=u8s_one [a0,a1,a2,a3,a4]
 have Hv5:Hid ((vals (L.take 5)).toArray = hd5 a0 a1 a2 a3 a4):=by show _ = _; rw [h5]; rfl
 have hat:=fun (w:World) => run_arrayAt (P:=Tryz.prog) (w:=w) 164 5 5 (some ⟨g,off,none⟩) n cap Tryz.underlying164 (by omega)
 have Hg:=Lib.hid hg
 have HT3:=Lib.hid hT3
 clear hB hm hT hl5 hi hlen h5 hg ha0 hT3
 go_enter Tryz.func105,Tryz.ntmps105
 go_upto_region 2 with (first
  | (refine wpList_load_mid rfl 164 (.tmp 9) rfl g off (by rfl) (vals (L.take 5)) _ Hrg.out Tryz.underlying164 rfl Hsz2.out ?_; rw [Hv5.out])
  | (refine wpList_store_row rfl 164 (.tmp 5) (.tmp 10) rfl w.heap.size (hd5 a0 a1 a2 a3 a4) rfl rfl 164 _ (Go.heap_alloc_new w _) Hsz.out (by rfl) Hone.out ?_; rw [World.setRow_alloc_new]))
 have hrow:=Go.heap_alloc_new w (.cells (hd5 a0 a1 a2 a3 a4) 164)
 have hlow:Below w.heap.size w (w.alloc (.cells (hd5 a0 a1 a2 a3 a4) 164)):=(Below.refl _ _).alloc (Nat.le_refl _) _
 have hlt1:w.heap.size < (w.alloc (.cells (hd5 a0 a1 a2 a3 a4) 164)).heap.size:=by rw [World.size_alloc]; omega
 obtain ⟨w1,hw1⟩:∃ w1,w1 = w.alloc (.cells (hd5 a0 a1 a2 a3 a4) 164):=⟨_,rfl⟩
 rw [← hw1] at hrow hlow hlt1 ⊢
 obtain ⟨c0,c1,c2,c3,c4⟩:=hd5_cells hrow
 have Hrow:=Lib.hid hrow
 have Hlow:=Lib.hid hlow
 have Hlt:=Lib.hid hlt1
 clear hrow hlow hlt1 hw1 hat
 by_cases h0:a0 = 1
 · subst h0
   by_cases h1:m ≤ 262144
   · have h2:¬ T * 128 ≤ n:=fun h => Hg.out ⟨rfl,h1,h⟩
     have hT3:=HT3.out h1
     have Hsec2:=Lib.hid (Hsec.out (by omega))
     have hmI:(m:Int) ≤ 262144:=by omega
     have h2I:(n:Int) < (T:Int) * 128:=by omega
     go_wp2_with (first
      | (go_at_call 122; refine (Hlen.out w2).mono ?_; rintro e w3 ⟨rfl,hb3⟩; have Hb3:=Lib.hid (Hb2.out.trans (hb3.mono Hb2.out.size)); clear hb3)
      | (go_at_call 122; refine (Hlen.out w1).mono ?_; rintro e w2 ⟨rfl,hb2⟩; obtain ⟨d0,d1,d2,d3,d4⟩:=hd5_cells ((hb2.block _ Hlt.out).trans Hrow.out); have Hb2:=Lib.hid (Hlow.out.trans (hb2.mono Hlow.out.size)); clear hb2)
      | (go_at_call 92; refine (Hsec2.out _).mono ?_; rintro e w' ⟨rfl,rfl⟩))
     refine bodyPost_ret (results_tmp3 rfl _ _ _) rfl ?_
     exact ⟨rfl,Hb3.out⟩
   · have hmI:(262144:Int) < (m:Int):=by omega
     have hltI:(m:Int) < 4294967296:=by omega
     go_wp2_with (first
      | (go_at_call 122; refine (Hlen.out w1).mono ?_; rintro e w2 ⟨rfl,hb2⟩; have Hb2:=Lib.hid (Hlow.out.trans (hb2.mono Hlow.out.size)); clear hb2))
     refine bodyPost_ret (results_tmp3 rfl _ _ _) rfl ?_
     exact ⟨rfl,Hb2.out⟩
 · go_wp2
   refine bodyPost_ret (results_tmp3 rfl _ _ _) rfl ?_
   exact ⟨rfl,Hlow.out⟩
theorem posC_zero (cs:List (List Int)):posC cs 0 = 0:=by simp [posC]
theorem posC_next {cs:List (List Int)} {i:Nat} (h:i < cs.length):posC cs (i + 1) = posC cs i + (cs.getD i []).length:=by
 unfold posC
 have e:cs.getD i [] = cs[i]:=by simp [List.getD_eq_getElem?_getD,h]
 rw [e,List.take_succ_eq_append_getElem h,List.flatten_append,List.length_append,List.flatten_cons,List.flatten_nil,List.append_nil]
theorem posC_mod {cs:List (List Int)} (hg:∀ c ∈ cs,Good c) (i:Nat):posC cs i % 128 = 0:=by
 unfold posC
 have:∀ l:List (List Int),(∀ c ∈ l,Good c) → l.flatten.length % 128 = 0:=by
  intro l
  induction l with
  | nil => intro _; rfl
  | cons c l ih =>
    intro h
    have h1:=(h c (by simp)).2.2
    have h2:=ih (fun x hx => h x (by simp [hx]))
    rw [List.flatten_cons,List.length_append]
    omega
 exact this _ (fun c hc => hg c (List.mem_of_mem_take hc))
theorem drop_pos {L R:List Int} {cs:List (List Int)} {e:Bool} (h:Reads L cs R e) {i:Nat} (_hi:i ≤ cs.length):L.drop (posC cs i) = (cs.drop i).flatten ++ R:=by
 rw [h.eq]
 have:cs.flatten = (cs.take i).flatten ++ (cs.drop i).flatten:=by rw [← List.flatten_append,List.take_append_drop]
 rw [this,List.append_assoc]
 unfold posC
 rw [List.drop_left]
theorem drop_cons {L R:List Int} {cs:List (List Int)} {e:Bool} (h:Reads L cs R e) {i:Nat} (hi:i < cs.length):L.drop (posC cs i) = cs.getD i [] ++ ((cs.drop (i + 1)).flatten ++ R):=by
 rw [drop_pos h (Nat.le_of_lt hi),List.drop_eq_getElem_cons hi,List.flatten_cons,List.append_assoc]
 simp [List.getD_eq_getElem?_getD,hi]
theorem getD_mem {cs:List (List Int)} {i:Nat} (hi:i < cs.length):cs.getD i [] ∈ cs:=by
 rw [List.getD_eq_getElem?_getD,List.getElem?_eq_getElem hi,Option.getD_some]; exact List.getElem_mem _
theorem good_at {L R:List Int} {cs:List (List Int)} {e:Bool} (h:Reads L cs R e) {i:Nat} (hi:i < cs.length) :
 (L.drop (posC cs i)).getD 0 0 = 1 ∧ lenB (L.drop (posC cs i)) = lenB (cs.getD i []) ∧ lenB (cs.getD i []) ≤ 262144 ∧ (cs.getD i []).length = tk (lenB (cs.getD i [])) * 128 ∧ posC cs (i + 1) ≤ L.length:=by
 have hg:=h.good _ (getD_mem hi)
 have hl:=hg.len
 refine ⟨?_,?_,hg.2.1,hg.2.2,?_⟩
 · rw [drop_cons h hi,getD_append_lt (by omega)]; exact hg.1
 · rw [drop_cons h hi,lenB_app (by omega)]
 · rw [posC_next hi]
   have:=congrArg List.length (drop_cons h hi)
   rw [List.length_drop,List.length_append] at this
   omega
theorem posC_le {L R:List Int} {cs:List (List Int)} {e:Bool} (h:Reads L cs R e) (i:Nat):posC cs i ≤ L.length:=by
 rw [h.eq,List.length_append]
 unfold posC
 have:cs.flatten = (cs.take i).flatten ++ (cs.drop i).flatten:=by rw [← List.flatten_append,List.take_append_drop]
 rw [this,List.length_append]; omega
theorem range_next (n:Nat):List.range (n + 1) = List.range n ++ [n]:=List.range_succ
end Go.Proofs.YteeghgjkjicjoaaGreatDoor.Slt
namespace Go.Proofs.YteeghgjkjicjoaaGreatDoor.Slt
open Go.RowKit Dsk
attribute [local go_sem] Oper.semAt_some
theorem records_any (A:Option Addr) (n cap:Nat) (w:World) :
 Calls Tryz.prog 76 #[.slice A n cap] w fun e w' => e = .returned (.func (.func 104) #[] #[.pointer (some ⟨w.heap.size,0,none⟩)]) ∧ w' = w.alloc (.cells #[.slice A n cap] 38):=by
 go_enter Tryz.func76,Tryz.ntmps76
 go_wp2
 go_ret
 exact ⟨rfl,rfl⟩
def recV (g off cap:Nat) (cs:List (List Int)) (i:Nat):Value:=if i < cs.length then .slice (some ⟨g,off + posC cs i + 5,none⟩) (lenB (cs.getD i [])) (cap - posC cs i - 5) else .slice none 0 0
def errR (cs:List (List Int)) (i:Nat):Int:=if i < cs.length then 0 else 9
def encR (g off cap:Nat) (cs:List (List Int)) (i:Nat):Array Value:=#[recV g off cap cs i,.int .i64 (errR cs i)]
theorem recV_yes {g off cap:Nat} {cs:List (List Int)} {i:Nat} (h:i < cs.length):recV g off cap cs i = .slice (some ⟨g,off + posC cs i + 5,none⟩) (lenB (cs.getD i [])) (cap - posC cs i - 5):=if_pos h
theorem recV_no {g off cap:Nat} {cs:List (List Int)} {i:Nat} (h:¬ i < cs.length):recV g off cap cs i = .slice none 0 0:=if_neg h
theorem errR_yes {cs:List (List Int)} {i:Nat} (h:i < cs.length):errR cs i = 0:=if_pos h
theorem errR_no {cs:List (List Int)} {i:Nat} (h:¬ i < cs.length):errR cs i = 9:=if_neg h
def KpR (Bb g:Nat) (W W':World):Prop:=W'.heap[Bb]? = W.heap[Bb]? ∧ W'.heap[g]? = W.heap[g]?
theorem KpR.trans {Bb g:Nat} {A B C:World} (h:KpR Bb g A B) (k:KpR Bb g B C):KpR Bb g A C:=⟨k.1.trans h.1,k.2.trans h.2⟩
theorem KpR.below {Bb g:Nat} {A B C:World} (h:KpR Bb g A B) (hb:Below B.heap.size B C) (h1:Bb < B.heap.size) (h2:g < B.heap.size):KpR Bb g A C:=⟨(hb.block _ h1).trans h.1,(hb.block _ h2).trans h.2⟩
theorem byt_same {w w':World} {g off c:Nat} {L:List Int} (h:Byt w (some ⟨g,off,none⟩) c L) (hg:g < w.heap.size → g < w'.heap.size) (e:w'.heap[g]? = w.heap[g]?):Byt w' (some ⟨g,off,none⟩) c L:=by
 refine ⟨h.1,h.2.1,fun hl => ?_⟩
 obtain ⟨g',o',e',hlt,hb⟩:=h.2.2 hl
 cases e'
 exact ⟨g,off,rfl,hg hlt,fun j hj => (World.cell?_of_block (a:=⟨g,off + j,none⟩) e).trans (hb j hj)⟩
theorem byt_drop {w:World} {g off c:Nat} {L:List Int} (h:Byt w (some ⟨g,off,none⟩) c L) (p:Nat) (hp:p ≤ L.length):Byt w (some ⟨g,off + p,none⟩) (c - p) (L.drop p):=by
 refine ⟨by have:=h.1; rw [List.length_drop]; omega,(fun h => by cases h),fun hl => ?_⟩
 rw [List.length_drop] at hl
 obtain ⟨g',o',e',hlt,hb⟩:=h.2.2 (by omega)
 cases e'
 refine ⟨g,off + p,rfl,hlt,fun j hj => ?_⟩
 rw [List.length_drop] at hj
 rw [Nat.add_assoc,hb _ (by omega),getD_drop']
def PreR (cs:List (List Int)) (e:Bool) (pre:List Nat):Prop:=∀ x ∈ pre,x < cs.length ∨ e = true
def lenV:Value → Nat
 | .slice _ n _ => n
 | _ => 0
set_option maxRecDepth 100000 in
set_option maxHeartbeats 4000000 in
theorem records1_in (m l Bb:Nat) (hm:2 ≤ m) (g off n cap:Nat) (L R:List Int) (cs:List (List Int)) (e:Bool) (hn:L.length = n) (hmod:n % 128 = 0) (hsm:n ≤ 4194304) (hi:InB L) (hr:Reads L cs R e) (J Jx:List Nat → World → Prop)
 (hJ:∀ pre W W',J pre W → Below W.heap.size W W' → J pre W')
 (hY:∀ pre x W,J pre W → pre.length < cs.length + 1 → YieldAt Fence.wide (m - 1) Tryz.prog l (encR g off cap cs x) W fun e W' =>
  (e = .returned (.bool true) ∧ J (pre ++ [x]) W' ∧ KpR Bb g W W') ∨ (e = .returned (.bool false) ∧ Jx (pre ++ [x]) W'))
 (W:World) (hb:Boxed W Bb 38 (.slice (some ⟨g,off,none⟩) n cap)) (hB:Byt W (some ⟨g,off,none⟩) cap L) (hgl:g < W.heap.size) (h0:J [] W) :
 CallsIn Fence.wide m Tryz.prog 104 #[.func (.yield l) #[] #[],.pointer (some ⟨Bb,0,none⟩)] W fun e' W' => (∃ v,e' = .returned v) ∧
  ((∃ ys,ys = (if e then List.range (cs.length + 1) else List.range cs.length) ∧ J ys W') ∨ (∃ pre,PreR cs e pre ∧ Jx pre W')):=by
 have hcb:=hb.cell
 have Hb:=Lib.hid hb
 have HB:=Lib.hid hB
 have HJ:=Lib.hid hJ
 have HY:=Lib.hid hY
 have Hr:=Lib.hid hr
 have Hgl:=Lib.hid hgl
 have Hi:=Lib.hid hi
 have Hn:=Lib.hid hn
 have hcap:n ≤ cap:=by rw [← hn]; exact hB.1
 clear hb hJ hY hB hr hgl hi hn
 refine callsIn_of_wp Tryz.func104 rfl trivial ?_ rfl
 simp only [Tryz.ntmps104,List.size_toArray,List.length_cons,List.length_nil,Nat.reduceAdd,Nat.reduceSub,Array.replicate_succ,Array.replicate_zero,List.push_toArray,List.append_toArray,List.nil_append,List.cons_append]
 gi_wp2
 gi_loopw [3] (fun v wr => ∃ i:Nat,i ≤ cs.length ∧ (∃ A,v = .slice A (n - posC cs i) (cap - posC cs i) ∧ Hid (posC cs i < n → A = some ⟨g,off + posC cs i,none⟩)) ∧ Hid (J (List.range i) wr) ∧ Hid (KpR Bb g W wr)) (fun v _ => lenV v)
 case atStart => exact ⟨0,Nat.zero_le _,⟨_,by rw [posC_zero]; rfl,fun _ => by rw [posC_zero]; rfl⟩,h0,rfl,rfl⟩
 case round =>
  obtain ⟨i,hile,⟨A,rfl,hA⟩,hj,hkp⟩:=hrel
  have hBr:Byt wr (some ⟨g,off,none⟩) cap L:=byt_same HB.out (fun _ => (Array.getElem?_eq_some_iff.1 (hkp.out.2.trans (Array.getElem?_eq_getElem Hgl.out))).1) hkp.out.2
  have hpl:=posC_le Hr.out i
  rw [Hn.out] at hpl
  have hpm:=posC_mod Hr.out.good i
  by_cases hlt:i < cs.length
  · obtain ⟨g0,g1,g2,g3,g4⟩:=good_at Hr.out hlt
    rw [Hn.out] at g4
    rw [posC_next hlt] at g4
    have htk:=tk_pos (lenB (cs.getD i []))
    have hpn:posC cs i < n:=by omega
    have hA':=hA.out hpn
    subst hA'
    have hdl:(L.drop (posC cs i)).length = n - posC cs i:=by rw [List.length_drop,Hn.out]
    have hBd:=byt_drop hBr (posC cs i) (by rw [Hn.out]; omega)
    have hgb:goodB (L.drop (posC cs i)):=⟨g0,by rw [g1]; exact g2,by rw [g1,← g3,hdl]; omega⟩
    have hcut:=cut_yes hdl (by omega) (by omega) (Hi.out.drop _) hBd hgb
    have henc:encR g off cap cs i = #[.slice (some ⟨g,off + posC cs i + 5,none⟩) (lenB (cs.getD i [])) (cap - posC cs i - 5),.int .i64 0]:=by unfold encR; rw [recV_yes hlt,errR_yes hlt]
    have c0:wr.cell? ⟨g,off + posC cs i,none⟩ = some (.int .u8 1):=by
     obtain ⟨g',o',e',_,hc⟩:=hBd.2.2 (by rw [hdl]; omega)
     cases e'
     have:=hc 0 (by rw [hdl]; omega)
     rw [g0] at this
     exact this
    rw [g1] at hcut
    obtain ⟨p,hp⟩:∃ p,p = posC cs i:=⟨_,rfl⟩
    obtain ⟨ln,hln⟩:∃ ln,ln = lenB (cs.getD i []):=⟨_,rfl⟩
    obtain ⟨k,hk⟩:∃ k,k = tk ln * 128:=⟨_,rfl⟩
    have hrest:∃ A2,restV g (off + posC cs i) (n - posC cs i) (cap - posC cs i) (tk (lenB (cs.getD i [])) * 128) = .slice A2 (n - posC cs (i + 1)) (cap - posC cs (i + 1)) ∧ (posC cs (i + 1) < n → A2 = some ⟨g,off + posC cs (i + 1),none⟩):=by
     unfold restV
     rw [posC_next hlt,g3]
     refine ⟨_,by rw [Nat.sub_sub,Nat.sub_sub],fun h => ?_⟩
     rw [if_neg (by omega),Nat.add_assoc]
    obtain ⟨A2,hA2,hA2p⟩:=hrest
    rw [hA2] at hcut
    have hmeas:n - posC cs (i + 1) < n - posC cs i:=by rw [posC_next hlt]; omega
    rw [← hln,← hp] at hcut henc
    rw [← hp] at c0 hpn hmeas
    have Hcut:=Lib.hid hcut
    have Henc:=Lib.hid henc
    have HA2p:=Lib.hid hA2p
    have Hmeas:=Lib.hid hmeas
    have Hj:=Lib.hid hj.out
    have HBb:Hid (Bb < wr.heap.size):=(Array.getElem?_eq_some_iff.1 (hkp.out.1.trans (Array.getElem?_eq_getElem Hb.out.lt))).1
    have Hgr:Hid (g < wr.heap.size):=(Array.getElem?_eq_some_iff.1 (hkp.out.2.trans (Array.getElem?_eq_getElem Hgl.out))).1
    obtain ⟨N1,hN1⟩:∃ N1,N1 = n - p:=⟨_,rfl⟩
    have hN10:0 < N1:=by omega
    have hN1I:(0:Int) < (N1:Int):=by omega
    obtain ⟨C1,hC1⟩:∃ C1,C1 = cap - p:=⟨_,rfl⟩
    obtain ⟨N2,hN2⟩:∃ N2,N2 = n - posC cs (i + 1):=⟨_,rfl⟩
    obtain ⟨C2,hC2⟩:∃ C2,C2 = cap - posC cs (i + 1):=⟨_,rfl⟩
    rw [← hp]
    rw [← hN1] at Hcut Hmeas ⊢
    rw [← hC1] at Hcut Henc ⊢
    rw [← hN2] at Hcut Hmeas
    rw [← hC2] at Hcut
    have HN2:=Lib.hid hN2
    have HC2:=Lib.hid hC2
    clear hA hdl hBd hgb hcut henc hp hln hk hA2 hA2p hmeas hj hN1 hC1 hN2 hC2 hBr hpl hpm g0 g1 g2 g3 g4 htk hcb hpn
    gi_wp2_with (refine ⟨trivial,(fun _ => by omega),?_⟩; gi_at_call 105; refine (callsIn_wide.2 Hcut.out).mono ?_; rintro e1 w1 ⟨rfl,hb1⟩; obtain ⟨fn,tmps,assign,body,hy,hR⟩:=HY.out (List.range i) i w1 (HJ.out _ _ _ Hj.out hb1) (by simp; omega); rw [Henc.out] at hy; have HR:=Lib.hid hR; have Hb1:=Lib.hid hb1; clear hb1 hR)
    refine ⟨fun _ => by omega,HR.out.mono ?_⟩
    rintro e2 W3 (⟨rfl,hJ3,hk3⟩ | ⟨rfl,hJx3⟩)
    · have HJ3:=Lib.hid hJ3
      have Hk3:=Lib.hid (((hkp.out.below Hb1.out HBb.out Hgr.out)).trans hk3)
      clear hJ3 hk3 hy HR
      gi_wp2
      go_roundw
      case rel => exact ⟨i + 1,by omega,⟨A2,by rw [HN2.out,HC2.out],HA2p.out⟩,by rw [range_next]; exact HJ3.out,Hk3.out⟩
      case measure => exact Hmeas.out
    · have HJx3:=Lib.hid hJx3
      clear hJx3 hy HR
      gi_wp2
      all_goals
       refine bodyPost_ret (results_none rfl _ _ _) rfl ?_
       exact ⟨⟨_,rfl⟩,.inr ⟨_,fun x hx => .inl (by rw [← range_next] at hx; have:=List.mem_range.1 hx; omega),HJx3.out⟩⟩
  · obtain rfl:i = cs.length:=by omega
    have hdl:(L.drop (posC cs cs.length)).length = n - posC cs cs.length:=by rw [List.length_drop,Hn.out]
    have hdr:L.drop (posC cs cs.length) = R:=by rw [drop_pos Hr.out (Nat.le_refl _)]; simp
    have hBd:=byt_drop hBr (posC cs cs.length) (by rw [Hn.out]; omega)
    rw [hdr] at hdl hBd
    have hRi:InB R:=by rw [← hdr]; exact Hi.out.drop _
    have htail:=Hr.out.tail
    have HBb:Hid (Bb < wr.heap.size):=(Array.getElem?_eq_some_iff.1 (hkp.out.1.trans (Array.getElem?_eq_getElem Hb.out.lt))).1
    have Hgr:Hid (g < wr.heap.size):=(Array.getElem?_eq_some_iff.1 (hkp.out.2.trans (Array.getElem?_eq_getElem Hgl.out))).1
    have henc:encR g off cap cs cs.length = #[.slice none 0 0,.int .i64 9]:=by unfold encR; rw [recV_no (Nat.lt_irrefl _),errR_no (Nat.lt_irrefl _)]
    obtain ⟨p,hp⟩:∃ p,p = posC cs cs.length:=⟨_,rfl⟩
    rw [← hp] at hdl hBd hA hpl hpm ⊢
    obtain ⟨N1,hN1⟩:∃ N1,N1 = n - p:=⟨_,rfl⟩
    obtain ⟨C1,hC1⟩:∃ C1,C1 = cap - p:=⟨_,rfl⟩
    rw [← hN1] at hdl ⊢
    rw [← hC1] at hBd ⊢
    by_cases hz:R = []
    · have he:e = false:=by
       cases e with
       | false => rfl
       | true => exact absurd hz htail.1
      subst he
      have hN0:N1 = 0:=by rw [← hdl,hz]; rfl
      subst hN0
      clear hdl hBd hRi htail hp hN1 hC1 hpl hpm hA hdr hBr hcb
      gi_wp2
      go_end0
      exact ⟨⟨_,rfl⟩,.inl hj.out⟩
    · have hR0:0 < N1:=by rw [← hdl]; exact List.length_pos_iff.2 hz
      have hN1I:(0:Int) < (N1:Int):=by omega
      have hA':=hA.out (by omega)
      subst hA'
      obtain ⟨x,hx⟩:∃ x,x = R.getD 0 0:=⟨_,rfl⟩
      have c0:wr.cell? ⟨g,off + p,none⟩ = some (.int .u8 x):=by
       obtain ⟨g',o',e',_,hc⟩:=hBd.2.2 (by rw [hdl]; exact hR0)
       cases e'
       have:=hc 0 (by rw [hdl]; exact hR0)
       rw [← hx] at this
       exact this
      have hx8:0 ≤ x ∧ x < 256:=by rw [hx]; exact hRi 0
      cases e with
      | false =>
        have hx0:x = 0:=by
         rcases htail with h | h
         · exact absurd h hz
         · rw [hx]; exact h
        subst hx0
        clear hdl hBd hRi htail hp hN1 hC1 hpl hpm hA hdr hBr hcb hx hx8
        gi_wp2
        go_end0
        exact ⟨⟨_,rfl⟩,.inl hj.out⟩
      | true =>
        have hxn:¬ x = 0:=by rw [hx]; exact htail.2.1
        have hcut:=cut_no hdl (by omega) hRi (by omega) hBd htail.2.2
        have Hcut:=Lib.hid hcut
        have Henc:=Lib.hid henc
        have Hj:=Lib.hid hj.out
        clear hdl hBd hRi htail hp hN1 hC1 hpl hpm hA hdr hBr hcb hx hx8 hcut henc hj
        gi_wp2_with (refine ⟨trivial,(fun _ => by omega),?_⟩; gi_at_call 105; refine (callsIn_wide.2 Hcut.out).mono ?_; rintro e1 w1 ⟨rfl,hb1⟩; obtain ⟨fn,tmps,assign,body,hy,hR⟩:=HY.out (List.range cs.length) cs.length w1 (HJ.out _ _ _ Hj.out hb1) (by simp); rw [Henc.out] at hy; have HR:=Lib.hid hR; have Hb1:=Lib.hid hb1; clear hb1 hR)
        refine ⟨fun _ => by omega,HR.out.mono ?_⟩
        rintro e2 W3 (⟨rfl,hJ3,hk3⟩ | ⟨rfl,hJx3⟩)
        · have HJ3:=Lib.hid hJ3
          clear hJ3 hk3 hy HR
          gi_wp2
          refine bodyPost_ret (results_none rfl _ _ _) rfl ?_
          exact ⟨⟨_,rfl⟩,.inl HJ3.out⟩
        · have HJx3:=Lib.hid hJx3
          clear hJx3 hy HR
          gi_wp2
          refine bodyPost_ret (results_none rfl _ _ _) rfl ?_
          exact ⟨⟨_,rfl⟩,.inr ⟨_,fun _ _ => .inr rfl,HJx3.out⟩⟩
end Go.Proofs.YteeghgjkjicjoaaGreatDoor.Slt
namespace Go.Proofs.YteeghgjkjicjoaaGreatDoor.Dsk
open Go.RowKit
end Go.Proofs.YteeghgjkjicjoaaGreatDoor.Dsk
namespace Go.Proofs.YteeghgjkjicjoaaGreatDoor.Slt
open Go.RowKit Dsk
theorem open_results {fn:Func} (h:fn.results = #[.cell 6 86,.cell 7 33]) {tmps:Array Value} {w:World} {a b:Nat} {x:Option Addr} {y:Int} (ha:tmps.getD 6 undef = .pointer (some ⟨a,0,none⟩)) (hb:tmps.getD 7 undef = .pointer (some ⟨b,0,none⟩)) (hx:w.cell? ⟨a,0,none⟩ = some (.pointer x)) (hy:w.cell? ⟨b,0,none⟩ = some (.int .i64 y)) :
 (results fn tmps).run Tryz.prog w = .ok (.tuple #[.pointer x,.int .i64 y]) w:=by
 have ha':tmps[6]?.getD undef = .pointer (some ⟨a,0,none⟩):=by simpa using ha
 have hb':tmps[7]?.getD undef = .pointer (some ⟨b,0,none⟩):=by simpa using hb
 simp [results,h,ha',hb',go_sem,hx,hy]
theorem two_boxes (w:World) (x:Option Addr) (y:Int):((w.alloc (.cells #[.pointer x] 86)).alloc (.cells #[.int .i64 y] 33)).cell? ⟨w.heap.size,0,none⟩ = some (.pointer x) ∧ ((w.alloc (.cells #[.pointer x] 86)).alloc (.cells #[.int .i64 y] 33)).cell? ⟨w.heap.size + 1,0,none⟩ = some (.int .i64 y) ∧ Below w.heap.size w ((w.alloc (.cells #[.pointer x] 86)).alloc (.cells #[.int .i64 y] 33)):=by
 have h:=two_new w (.cells #[.pointer x] 86) (.cells #[.int .i64 y] 33)
 exact ⟨cell_row h.1 0,cell_row h.2 0,((Below.refl w.heap.size w).alloc (Nat.le_refl _) _).alloc (by rw [World.size_alloc]; omega) _⟩
def secR (cs:List (List Int)) (i:Nat):Nat:=tk (lenB (cs.getD i []))
def useR (cs:List (List Int)) (pre:List Nat):Nat:=(pre.map (secR cs)).sum
def txtR (cs:List (List Int)) (pre:List Nat):List (List Int):=pre.map fun i => textC (cs.getD i [])
theorem useR_next (cs:List (List Int)) (pre:List Nat) (x:Nat):useR cs (pre ++ [x]) = useR cs pre + secR cs x:=by
 unfold useR
 rw [List.map_append,List.sum_append,List.map_cons,List.map_nil,List.sum_cons,List.sum_nil,Nat.add_zero]
theorem txtR_next (cs:List (List Int)) (pre:List Nat) (x:Nat):txtR cs (pre ++ [x]) = txtR cs pre ++ [textC (cs.getD x [])]:=by
 unfold txtR
 rw [List.map_append,List.map_cons,List.map_nil]
theorem useR_le {cs:List (List Int)} (hg:∀ c ∈ cs,Good c):∀ pre:List Nat,(∀ x ∈ pre,x < cs.length) → useR cs pre ≤ pre.length * 2100:=by
 intro pre
 induction pre with
 | nil => intro _; exact Nat.zero_le _
 | cons x pre ih =>
   intro h
   have h1:=ih (fun y hy => h y (by simp [hy]))
   have h2:=(hg _ (getD_mem (h x (by simp)))).2.1
   have h3:secR cs x ≤ 2100:=by unfold secR tk; omega
   have h4:useR cs (x :: pre) = secR cs x + useR cs pre:=by unfold useR; rw [List.map_cons,List.sum_cons]
   rw [h4,List.length_cons]
   omega
theorem useR_ge (cs:List (List Int)):∀ pre:List Nat,pre.length ≤ useR cs pre:=by
 intro pre
 induction pre with
 | nil => exact Nat.zero_le _
 | cons x pre ih =>
   have h3:1 ≤ secR cs x:=tk_pos _
   have h4:useR cs (x :: pre) = secR cs x + useR cs pre:=by unfold useR; rw [List.map_cons,List.sum_cons]
   rw [h4,List.length_cons]
   omega
theorem useR_range {cs:List (List Int)} (hg:∀ c ∈ cs,Good c):∀ n,n ≤ cs.length → useR cs (List.range n) * 128 = posC cs n:=by
 intro n
 induction n with
 | zero => intro _; rw [posC_zero]; rfl
 | succ n ih =>
   intro h
   rw [range_next,useR_next,posC_next (by omega),Nat.add_mul,ih (by omega),secR,(hg _ (getD_mem (show n < cs.length by omega))).2.2]
theorem txtR_all (cs:List (List Int)):txtR cs (List.range cs.length) = cs.map textC:=by
 apply List.ext_getElem
 · simp [txtR]
 · intro i h1 h2
   simp only [txtR,List.length_map,List.length_range] at h1
   simp [txtR,List.getD_eq_getElem?_getD,h1]
theorem good_len {cs:List (List Int)} (hg:∀ c ∈ cs,Good c):cs.length * 128 ≤ cs.flatten.length:=by
 induction cs with
 | nil => simp
 | cons c cs ih =>
   have h1:=(hg c (by simp)).len
   have h2:=ih (fun x hx => hg x (by simp [hx]))
   rw [List.flatten_cons,List.length_append,List.length_cons]
   omega
theorem row_stays {W W':World} {row:Option Nat} {k:Nat} {cs:Array Value} {t:TypeId} {fr:Nat × Nat} (h:W.heap[k]? = some (.cells cs t fr)) (hg:W.grownBy W' row) (hrow:∀ r,row = some r → ∃ o:Obj,W.heap[r]? = some o ∧ o.isCells = false):W'.heap[k]? = some (.cells cs t fr) :=
 (hg.block k (Array.getElem?_eq_some_iff.1 h).1 (fun e => by obtain ⟨o,ho,hc⟩:=hrow k e.symm; rw [h] at ho; cases ho; cases hc)).trans h
theorem byt_stays {W W':World} {row:Option Nat} {A:Option Addr} {c:Nat} {L:List Int} (h:Byt W A c L) (hg:W.grownBy W' row) (hrow:∀ r,row = some r → ∃ o:Obj,W.heap[r]? = some o ∧ o.isCells = false):Byt W' A c L:=by
 refine ⟨h.1,h.2.1,fun hl => ?_⟩
 obtain ⟨g,off,hA,hlt,hb⟩:=h.2.2 hl
 exact ⟨g,off,hA,Nat.lt_of_lt_of_le hlt hg.size,fun j hj => cell_kept (hb j hj) hg hrow⟩
theorem own_kept {W W':World} {row:Option Nat} {base s n:Nat} {t:TypeId} {v:Value} {L:List Value} (h:W.ownsRow base t s v n L) (hg:W.grownBy W' row) (hrow:∀ r,row = some r → ∃ o:Obj,W.heap[r]? = some o ∧ o.isCells = false):W'.ownsRow base t s v n L:=by
 obtain ⟨h1,h⟩:=h
 refine ⟨h1,?_⟩
 rcases h with h | ⟨g,cap,cur,h1,h2,h3,h4,h5,h6,h7⟩
 · exact .inl h
 · exact .inr ⟨g,cap,cur,h1,h2,row_stays h3 hg hrow,h4,h5,h6,h7⟩
theorem Lg0.stays {W W':World} {row:Option Nat} {K:DK} {J:LK} {S:LS} (h:Lg0 W K J S) (hg:W.grownBy W' row) (hrow:∀ r,row = some r → ∃ o:Obj,W.heap[r]? = some o ∧ o.isCells = false):Lg0 W' K J S where
 row:=row_stays h.row hg hrow
 own:=own_kept h.own hg hrow
 gv:=h.gv
 txt i hi:=by
  obtain ⟨A,c,e,hB⟩:=h.txt i hi
  exact ⟨A,c,e,byt_stays hB hg hrow⟩
 tlt q hq:=Nat.lt_of_lt_of_le (h.tlt q hq) hg.size
 tap:=h.tap
 kap:=h.kap
 inb:=h.inb
structure OI (w:World) (K:DK) (a b:Nat) (cs:List (List Int)) (L:List Int) (gb cap G:Nat) (pre:List Nat) (W:World):Prop where
 r1:W.heap[w.heap.size]? = some (.cells #[.pointer none] 86 (0,0))
 r2:W.heap[w.heap.size + 1]? = some (.cells #[.int .i64 0] 33 (0,0))
 bl:W.heap[G + 1]? = some (.cells #[.pointer (some ⟨G,0,none⟩)] 86 (0,0))
 bb:W.heap[G + 1 + 1]? = some (.cells #[.slice (some ⟨gb,0,none⟩) (b * 128) cap] 38 (0,0))
 by_:Byt W (some ⟨gb,0,none⟩) cap L
 all:∀ x ∈ pre,x < cs.length
 lg:∃ J,J.g = G ∧ Lg0 W K J ⟨a,b,useR cs pre,txtR cs pre,false⟩ ∧ (∀ q ∈ J.bl,q = G ∨ G + 3 ≤ q) ∧ (∀ q ∈ J.tx,G + 3 ≤ q)
 low:Below w.heap.size w W
theorem OI.own {w:World} {K:DK} {a b:Nat} {cs:List (List Int)} {L:List Int} {gb cap G B:Nat} (hB:w.heap.size ≤ B):OwnFrom B (fun pre W => OI w K a b cs L gb cap G pre W):=by
 intro pre X Y row hs hg hr
 have hr':∀ r,row = some r → ∃ o:Obj,X.heap[r]? = some o ∧ o.isCells = false:=fun r e => (hr r e).2
 obtain ⟨J,e,hJ,h1,h2⟩:=hs.lg
 exact ⟨row_stays hs.r1 hg hr',row_stays hs.r2 hg hr',row_stays hs.bl hg hr',row_stays hs.bb hg hr',byt_stays hs.by_ hg hr',hs.all,⟨J,e,hJ.stays hg hr',h1,h2⟩,(ownFrom_below (β:=Unit) (w₀:=w) (Nat.le_refl _) hB) () X Y row hs.low hg hr⟩
structure OX2 (w:World) (cs:List (List Int)) (c:Code) (pre:List Nat) (W:World):Prop where
 ret:c = .ret
 r1:W.heap[w.heap.size]? = some (.cells #[.pointer none] 86 (0,0))
 r2:W.heap[w.heap.size + 1]? = some (.cells #[.int .i64 9] 33 (0,0))
 bad:∃ x ∈ pre,cs.length ≤ x
 low:Below w.heap.size w W
theorem OX2.own {w:World} {cs:List (List Int)} {c:Code} {B:Nat} (hB:w.heap.size ≤ B):OwnFrom B (fun pre W => OX2 w cs c pre W):=by
 intro pre X Y row hs hg hr
 have hr':∀ r,row = some r → ∃ o:Obj,X.heap[r]? = some o ∧ o.isCells = false:=fun r e => (hr r e).2
 exact ⟨hs.ret,row_stays hs.r1 hg hr',row_stays hs.r2 hg hr',hs.bad,(ownFrom_below (β:=Unit) (w₀:=w) (Nat.le_refl _) hB) () X Y row hs.low hg hr⟩
end Go.Proofs.YteeghgjkjicjoaaGreatDoor.Slt
