/- Texts of ours, merged. -/
import Derived.Test.YteeghgjkjicjoaaGreatDoorB22
namespace Go.Proofs.YteeghgjkjicjoaaGreatDoor.Sgm
open Go.RowKit Dsk Slt
theorem roomA_ge (r:Int):∀ (f b:Nat) (n:Int),n + 4 ≤ b → n ≤ roomA r f b n:=by
 intro f
 induction f with
 | zero => intro b n _; exact Int.le_refl _
 | succ f ih =>
   intro b n h
   show n ≤ (if 36 + (b:Int) ≤ r then roomA r f (2 * b) ((b:Int) - 4) else n)
   split
   · have:=ih (2 * b) ((b:Int) - 4) (by omega)
     omega
   · exact Int.le_refl _
theorem bka_ge (m:Nat):∀ (f b:Nat),b ≤ Seal.bkA m f b:=by
 intro f
 induction f with
 | zero => intro b; exact Nat.le_refl _
 | succ f ih =>
   intro b
   show b ≤ (if b < m + 4 then Seal.bkA m f (2 * b) else b)
   split
   · have:=ih (2 * b); omega
   · exact Nat.le_refl _
theorem roomA_iff (r:Int) (m:Nat):∀ (f b:Nat) (n:Int),n < m → 0 < b → n + 4 ≤ b → m + 4 ≤ b * 2 ^ f → ((m:Int) ≤ roomA r (f + 1) b n ↔ 36 + (Seal.bkA m f b:Int) ≤ r):=by
 intro f
 induction f with
 | zero =>
   intro b n hn hb hnb hm
   rw [Nat.pow_zero,Nat.mul_one] at hm
   show (m:Int) ≤ (if 36 + (b:Int) ≤ r then (b:Int) - 4 else n) ↔ 36 + (b:Int) ≤ r
   split
   · exact ⟨fun _ => by assumption,fun _ => by omega⟩
   · constructor
     · intro h; omega
     · intro h; omega
 | succ f ih =>
   intro b n hn hb hnb hm
   show (m:Int) ≤ (if 36 + (b:Int) ≤ r then roomA r (f + 1) (2 * b) ((b:Int) - 4) else n) ↔ 36 + (((if b < m + 4 then Seal.bkA m f (2 * b) else b:Nat)):Int) ≤ r
   by_cases h1:b < m + 4
   · rw [if_pos h1]
     by_cases h2:36 + (b:Int) ≤ r
     · rw [if_pos h2]
       exact ih (2 * b) ((b:Int) - 4) (by omega) (by omega) (by omega) (by rw [Nat.pow_succ] at hm; rw [Nat.mul_comm 2 b,Nat.mul_assoc,Nat.mul_comm 2]; exact hm)
     · rw [if_neg h2]
       have:=bka_ge m f (2 * b)
       constructor
       · intro h; omega
       · intro h; omega
   · rw [if_neg h1]
     by_cases h2:36 + (b:Int) ≤ r
     · rw [if_pos h2]
       have:=roomA_ge r (f + 1) (2 * b) ((b:Int) - 4) (by omega)
       exact ⟨fun _ => h2,fun _ => by omega⟩
     · rw [if_neg h2]
       constructor
       · intro h; omega
       · intro h; exact absurd h h2
theorem roomL_iff (r:Int) (m:Nat) (hm:m ≤ 131068):(m:Int) ≤ roomL r ↔ 36 + (Seal.bkt m:Int) ≤ r :=
 roomA_iff r m 11 64 (-1) (by omega) (by decide) (by decide) (by omega)
def nxb (j:Nat):Nat:=if 12 ≤ j then 0 else 64 * 2 ^ j
theorem nxb_next (j:Nat) (hj:j < 12):Seal.bktI (((nxb j:Nat):Int) - 4 + 1) = ((nxb (j + 1):Nat):Int):=by
 obtain rfl | rfl | rfl | rfl | rfl | rfl | rfl | rfl | rfl | rfl | rfl | rfl:j = 0 ∨ j = 1 ∨ j = 2 ∨ j = 3 ∨ j = 4 ∨ j = 5 ∨ j = 6 ∨ j = 7 ∨ j = 8 ∨ j = 9 ∨ j = 10 ∨ j = 11:=by omega
 all_goals decide
theorem nxb_le (j:Nat):nxb j ≤ 131072 ∧ (j < 12 → 64 ≤ nxb j ∧ nxb j = 64 * 2 ^ j) ∧ (12 ≤ j → nxb j = 0):=by
 unfold nxb
 refine ⟨?_,fun h => ?_,fun h => by rw [if_pos h]⟩
 · split
   · decide
   · have:2 ^ j ≤ 2 ^ 11:=Nat.pow_le_pow_right (by decide) (by omega)
     omega
 · rw [if_neg (by omega)]
   have:0 < 2 ^ j:=Nat.two_pow_pos j
   omega
theorem roomA_yes {r:Int} {f b:Nat} {n:Int} (h:36 + (b:Int) ≤ r):roomA r (f + 1) b n = roomA r f (2 * b) ((b:Int) - 4):=if_pos h
theorem roomA_no {r:Int} {f b:Nat} {n:Int} (h:¬ 36 + (b:Int) ≤ r):roomA r (f + 1) b n = n:=if_neg h
theorem ret_i64 {a b:Int} (h:a = b):Ending.returned (.int .i64 a) = .returned (.int .i64 b):=by rw [h]
set_option maxRecDepth 100000 in
set_option maxHeartbeats 1000000 in
theorem longest_any (r:Int) (_h1:-1 ≤ r) (_h2:r ≤ 262144) (w:World):Calls Tryz.prog 64 #[.int .i64 r] w fun e w' => e = .returned (.int .i64 (roomL r)) ∧ w = w':=by
 have HB:Hid (∀ n W,Calls Tryz.prog 85 #[.int .i64 n] W fun e w' => e = .returned (.int .i64 (Seal.bktI n)) ∧ W = w'):=fun n W => Seal.bucket_any n W
 have h0:Hid (Calls Tryz.prog 85 #[.int .i64 0] w fun e w' => e = .returned (.int .i64 64) ∧ w = w'):=Seal.bucket_any 0 w
 go_enter Tryz.func64,Tryz.ntmps64
 go_upto_region 3 with (go_at_call 85; refine h0.out.mono ?_; rintro e w2 ⟨rfl,rfl⟩)
 go_loopw [3,4] (fun nv bv wr => ∃ (j:Nat) (n:Int),j ≤ 12 ∧ nv = .int .i64 n ∧ bv = .int .i64 (nxb j:Nat) ∧ Hid (roomL r = roomA r (12 - j) (64 * 2 ^ j) n ∧ (j < 12 → n + 4 < nxb j)) ∧ wr = w) (fun nv _ _ => (200000 - intOf nv).toNat)
 case atStart => exact ⟨0,-1,Nat.zero_le _,rfl,rfl,⟨rfl,fun _ => by decide⟩,rfl⟩
 case round =>
  obtain ⟨j,n,hj,rfl,rfl,hr,rfl⟩:=hrel
  clear h0
  obtain ⟨hr1,hr2⟩:=hr.out
  have hle:=nxb_le j
  obtain ⟨b,hb⟩:∃ b,b = nxb j:=⟨_,rfl⟩
  rw [← hb] at hle hr2 ⊢
  by_cases hj12:j < 12
  · obtain ⟨hb64,hbe⟩:=hle.2.1 hj12
    have hn4:=hr2 hj12
    have hbI:0 < (b:Int):=by omega
    have hbI2:(b:Int) ≤ 131072:=by omega
    obtain ⟨f,hf⟩:∃ f,12 - j = f + 1:=⟨12 - j - 1,by omega⟩
    rw [hf,← hbe] at hr1
    by_cases hfit:36 + (b:Int) ≤ r
    · have hnx:∀ x,x = (b:Int) - 3 → Seal.bktI x = ((nxb (j + 1):Nat):Int):=fun x hx => by
       rw [← nxb_next j hj12,← hb]; congr 1; omega
      have Hnx:=Lib.hid hnx
      have HR:Hid (roomL r = roomA r (12 - (j + 1)) (64 * 2 ^ (j + 1)) ((b:Int) - 4)):=by
       show _ = _
       rw [hr1,roomA_yes hfit,show 12 - (j + 1) = f by omega,hbe,Nat.pow_succ]
       congr 1
       omega
      have HN:Hid (j + 1 < 12 → ((b:Int) - 4) + 4 < nxb (j + 1)):=fun h => by
       have h2:=((nxb_le (j + 1)).2.1 h).2
       rw [Nat.pow_succ] at h2
       omega
      have Hm:Hid (n < (b:Int) - 4):=by show _ < _; omega
      clear hr hr1 hr2 hle hb hbe hnx hn4 hf
      go_wp2_with (go_at_call 85; refine (HB.out _ _).mono ?_; rintro e w2 ⟨rfl,rfl⟩; rw [Hnx.out _ (by omega)])
      exact ⟨⟨j + 1,(b:Int) - 4,by omega,rfl,rfl,⟨HR.out,HN.out⟩,trivial⟩,by have:=Hm.out; simp [intOf]; omega⟩
    · have HR:Hid (n = roomL r):=by show _ = _; rw [hr1,roomA_no hfit]
      clear hr hr1 hr2 hle hb hbe hn4 hf
      go_wp2
      go_ret
      exact ⟨ret_i64 HR.out,rfl⟩
  · obtain rfl:j = 12:=by omega
    have hb0:=hle.2.2 (Nat.le_refl _)
    have HR:Hid (n = roomL r):=hr1.symm
    clear hr hr1 hr2 hle hj12 hb
    subst hb0
    go_wp2
    go_ret
    exact ⟨ret_i64 HR.out,rfl⟩
section
variable {w:World} {K:DK} {J:LK} {G:GK} {S:LS} {V:GV} {D:DS}
theorem roomI_bd (F:Nat):-1 ≤ roomI F ∧ roomI F ≤ 262144:=by
 unfold roomI
 split
 · decide
 · split <;> omega
def roomG (S:LS):Int:=roomL (roomI (S.secs - S.used))
set_option maxHeartbeats 1000000 in
theorem groom_any (h:Sg w K J G S V):Calls Tryz.prog 27 #[G.ptr] w fun e w' => e = .returned (.int .i64 (roomG S)) ∧ Below w.heap.size w w':=by
 have Hm:=Lib.hid (smade_any h)
 obtain ⟨_,_,c2,_⟩:=h.cells
 have Hr:=Lib.hid (room_any h.lg)
 unfold roomG
 obtain ⟨r,hr⟩:∃ r,r = roomI (S.secs - S.used):=⟨_,rfl⟩
 have hb:=roomI_bd (S.secs - S.used)
 rw [← hr] at Hr hb ⊢
 have Hl:=Lib.hid (fun W => longest_any r hb.1 hb.2 W)
 unfold GK.ptr LK.ptr at *
 clear h hr hb
 go_enter Tryz.func27,Tryz.ntmps27
 go_wp2_with (first
  | (go_at_call 48; refine Hm.out.mono ?_; rintro e w' ⟨rfl,rfl⟩)
  | (go_at_call 65; refine Hr.out.mono ?_; rintro e w2 ⟨rfl,hb2⟩; have Hb2:=Lib.hid hb2; clear hb2)
  | (go_at_call 64; refine (Hl.out _).mono ?_; rintro e w' ⟨rfl,rfl⟩))
 go_ret
 exact ⟨rfl,Hb2.out⟩
def refX (D:DS) (S:LS) (V:GV) (m:Nat):Int:=if V.ep = 0 then 13 else if 131068 < m then 3 else if V.lost = true ∨ D.off = true then 12 else if roomG S < m then 7 else 0
set_option maxRecDepth 100000 in
set_option maxHeartbeats 2000000 in
theorem refuses_any (h:Sg w K J G S V) (hd:Dsk w K D) (A:Option Addr) (m c:Nat) (hm:m ≤ 9223372036854775807):Calls Tryz.prog 54 #[G.ptr,.slice A m c] w fun e w' => e = .returned (.int .i64 (refX D S V m)) ∧ Below w.heap.size w w':=by
 have Hm:=Lib.hid (smade_any h)
 obtain ⟨_,c1,_,_,c4,_,c6⟩:=h.cells
 have Hr:=Lib.hid (groom_any h)
 have Ho:=Lib.hid (off_any hd)
 have HM:=Lib.hid (fun W => Seal.most_any W)
 have hep:=h.ep32
 unfold refX
 obtain ⟨r,hr⟩:∃ r,r = roomG S:=⟨_,rfl⟩
 obtain ⟨ep,he⟩:∃ ep,ep = V.ep:=⟨_,rfl⟩
 obtain ⟨lo,hlo⟩:∃ lo,lo = V.lost:=⟨_,rfl⟩
 obtain ⟨of,hof⟩:∃ of,of = D.off:=⟨_,rfl⟩
 rw [← hr] at Hr ⊢
 rw [← he] at c4 ⊢
 rw [← hlo] at c6 ⊢
 rw [← hof] at Ho ⊢
 unfold GK.ptr DK.ptr at *
 clear h hd hr he hlo hof hep
 by_cases h1:ep = 0
 · rw [if_pos h1]
   subst h1
   go_enter Tryz.func54,Tryz.ntmps54
   go_wp2_with (go_at_call 48; refine Hm.out.mono ?_; rintro e w' ⟨rfl,rfl⟩)
   go_ret
   exact ⟨rfl,Below.refl _ _⟩
 have h1I:((ep:Int) == 0) = false:=by simp; omega
 rw [if_neg h1]
 clear h1
 by_cases h2:131068 < m
 · rw [if_pos h2]
   have h2I:(131068:Int) < m:=by omega
   clear h2
   go_enter Tryz.func54,Tryz.ntmps54
   go_wp2_with (first
    | (go_at_call 48; refine Hm.out.mono ?_; rintro e w' ⟨rfl,rfl⟩)
    | (go_at_call 84; refine (HM.out _).mono ?_; rintro e w' ⟨rfl,rfl⟩))
   go_ret
   exact ⟨rfl,Below.refl _ _⟩
 have h2I:¬ (131068:Int) < m:=by omega
 rw [if_neg h2]
 clear h2
 by_cases h3:lo = true ∨ of = true
 · rw [if_pos h3]
   cases lo with
   | true =>
     clear h3
     go_enter Tryz.func54,Tryz.ntmps54
     go_wp2_with (first
      | (go_at_call 48; refine Hm.out.mono ?_; rintro e w' ⟨rfl,rfl⟩)
      | (go_at_call 84; refine (HM.out _).mono ?_; rintro e w' ⟨rfl,rfl⟩))
     go_ret
     exact ⟨rfl,Below.refl _ _⟩
   | false =>
     obtain rfl:of = true:=by simpa using h3
     clear h3
     go_enter Tryz.func54,Tryz.ntmps54
     go_wp2_with (first
      | (go_at_call 48; refine Hm.out.mono ?_; rintro e w' ⟨rfl,rfl⟩)
      | (go_at_call 84; refine (HM.out _).mono ?_; rintro e w' ⟨rfl,rfl⟩)
      | (go_at_call 26; refine Ho.out.mono ?_; rintro e w' ⟨rfl,rfl⟩))
     go_ret
     exact ⟨rfl,Below.refl _ _⟩
 rw [if_neg h3]
 obtain rfl:lo = false:=by cases lo <;> simp_all
 obtain rfl:of = false:=by cases of <;> simp_all
 clear h3
 by_cases h4:r < (m:Int)
 · rw [if_pos h4]
   go_enter Tryz.func54,Tryz.ntmps54
   go_wp2_with (first
    | (go_at_call 48; refine Hm.out.mono ?_; rintro e w' ⟨rfl,rfl⟩)
    | (go_at_call 84; refine (HM.out _).mono ?_; rintro e w' ⟨rfl,rfl⟩)
    | (go_at_call 26; refine Ho.out.mono ?_; rintro e w' ⟨rfl,rfl⟩)
    | (go_at_call 27; refine Hr.out.mono ?_; rintro e w2 ⟨rfl,hb2⟩; have Hb2:=Lib.hid hb2; clear hb2))
   go_ret
   exact ⟨rfl,Hb2.out⟩
 · rw [if_neg h4]
   go_enter Tryz.func54,Tryz.ntmps54
   go_wp2_with (first
    | (go_at_call 48; refine Hm.out.mono ?_; rintro e w' ⟨rfl,rfl⟩)
    | (go_at_call 84; refine (HM.out _).mono ?_; rintro e w' ⟨rfl,rfl⟩)
    | (go_at_call 26; refine Ho.out.mono ?_; rintro e w' ⟨rfl,rfl⟩)
    | (go_at_call 27; refine Hr.out.mono ?_; rintro e w2 ⟨rfl,hb2⟩; have Hb2:=Lib.hid hb2; clear hb2))
   go_ret
   exact ⟨rfl,Hb2.out⟩
end
end Go.Proofs.YteeghgjkjicjoaaGreatDoor.Sgm
namespace Go.Proofs.YteeghgjkjicjoaaGreatDoor.Sgm
open Go.RowKit Dsk Slt
section
variable {w:World} {K:DK} {J:LK} {G:GK} {S:LS} {V:GV} {D:DS} {bs bt be:Nat} {A:Option Addr} {n c:Nat} {t:List Int}
theorem gbl_lt (h:Sg w K J G S V):∀ q ∈ G.bl,q < w.heap.size:=by
 intro q hq
 simp only [GK.bl,List.mem_cons,Option.mem_toList] at hq
 rcases hq with rfl | hq
 · exact h.glt
 · exact (h.tx.own.lt q hq).2
theorem Sg.app {w':World} {J':LK} {D':DS} {S':LS} (h:Sg w K J G S V) (q:AppQ w w' K J J' D' S'):Sg w' K J' G S' V:=by
 have hnot:∀ x,x ∉ K.bl → x ∉ J.bl → x ∉ K.bl ++ J.bl:=fun x h1 h2 hm => by
  rcases List.mem_append.1 hm with hm | hm
  · exact h1 hm
  · exact h2 hm
 have hg:=gbl_lt h
 refine ⟨?_,q.lg,h.tx.chg q.chg (fun x hx => ?_) (fun x hx => ?_),h.gv,h.ctx.chg q.chg (fun a ha => ?_),h.klen,h.kin,h.cin,h.clen,h.ep32,fun x hx => Nat.lt_of_lt_of_le (h.tlt x hx) q.chg.size,fun x hx => ⟨(h.tap x hx).1,fun hm => ?_,(h.tap x hx).2.2⟩,fun x hx => ⟨(h.kap x hx).1,fun hm => ?_,fun hm => ?_⟩,h.inb⟩
 · have hr:=h.row
   rw [← q.g] at hr
   exact q.chg.at hr (hnot _ (h.kap _ (by simp [GK.bl])).1 (h.kap _ (by simp [GK.bl])).2.1)
 · have hm:x ∈ G.bl:=by simp [GK.bl,hx]
   exact hnot _ (h.kap x hm).1 (h.kap x hm).2.1
 · have hm:x ∈ G.tx:=by unfold GK.tx; rw [List.mem_append]; exact .inr hx
   exact hnot _ (h.tap x hm).1 (h.tap x hm).2.1
 · have hm:a.block ∈ G.tx:=by simp [GK.tx,ha]
   exact hnot _ (h.tap _ hm).1 (h.tap _ hm).2.1
 · rcases q.bl x hm with h1 | h1
   · exact (h.tap x hx).2.1 h1
   · have:=h.tlt x hx; omega
 · rcases q.bl x hm with h1 | h1
   · exact (h.kap x hx).2.1 h1
   · have:=hg x hx; omega
 · rcases q.tx x hm with h1 | h1
   · exact (h.kap x hx).2.2 h1
   · have:=hg x hx; omega
theorem Sg.lose (h:Sg w K J G S V) (b:Bool):Sg (w.setCell ⟨G.g,38,none⟩ (.bool b)) K J G S { V with lost:=b }:=by
 have hc:Chg [G.g] w (w.setCell ⟨G.g,38,none⟩ (.bool b)):=(Chg.refl [G.g] w).setCell (by simp) _
 have hm:G.g ∈ G.bl:=by simp [GK.bl]
 refine ⟨?_,h.lg.chg hc (fun x hx => by simp; rintro rfl; exact (h.kap _ hm).2.1 hx) (fun x hx => by simp; rintro rfl; exact (h.kap _ hm).2.2 hx),h.tx.chg hc (fun x hx => by simp; exact h.gv x hx) (fun x hx => ?_),h.gv,h.ctx.chg hc (fun a ha => ?_),h.klen,h.kin,h.cin,h.clen,h.ep32,fun x hx => Nat.lt_of_lt_of_le (h.tlt x hx) hc.size,h.tap,h.kap,h.inb⟩
 · show (w.setCell ⟨G.g,38,none⟩ (.bool b)).heap[G.g]? = _
   rw [heap_setCell_same _ _ _ _ _ _ h.row,rowG_set38 h.klen]
 · have hx':x ∈ G.tx:=by unfold GK.tx; rw [List.mem_append]; exact .inr hx
   simp; rintro rfl; exact (h.tap _ hx').2.2 hm
 · have ha':a.block ∈ G.tx:=by simp [GK.tx,ha]
   simp; intro e; exact (h.tap _ ha').2.2 (by rw [e]; exact hm)
set_option maxHeartbeats 1000000 in
theorem app1_any (h:Sg w K J G S V) (hd:Dsk w K D) (hs:w.heap[bs]? = some (.cells #[.pointer (some ⟨G.g,0,none⟩)] 42 (0,0))) (ht:w.heap[bt]? = some (.cells #[.slice A n c] 38 (0,0))) (hn:n ≤ 9223372036854775807) :
 Calls Tryz.prog 53 #[.pointer (some ⟨bs,0,none⟩),.pointer (some ⟨bt,0,none⟩)] w fun e w' => e = .returned (.int .i64 (refX D S V n)) ∧ Below w.heap.size w w':=by
 have c0:=cell_row hs 0
 have c1:=cell_row ht 0
 have Hr:=Lib.hid (refuses_any h hd A n c hn)
 unfold GK.ptr at Hr
 clear h hd hs ht hn
 go_enter Tryz.func53,Tryz.ntmps53
 go_wp2_with (go_at_call 54; refine Hr.out.mono ?_; rintro e w2 ⟨rfl,hb2⟩; have Hb2:=Lib.hid hb2; clear hb2)
 go_ret
 exact ⟨rfl,Hb2.out⟩
def SeP (B:Nat) (L:List Int) (v:Value) (w:World):Prop:=Seal.OwnB B L v w
theorem SeP.chg {B:Nat} {L:List Int} {v:Value} {w':World} {X:List Nat} (h:SeP B L v w) (hc:Chg X w w') (hX:∀ q ∈ X,q < B):SeP B L v w':=own_chg h hc (fun q hq hm => by have:=(World.ownsRow.lt h q hq).1; have:=hX q hm; omega)
theorem SeP.later {B:Nat} {L:List Int} {v:Value} {w':World} (h:SeP B L v w) (hb:Below w.heap.size w w'):SeP B L v w':=Seal.OwnB.later h hb
def SeT (B:Nat) (L:List Int) (u:Value) (w:World):Prop:=∃ v,u = .tuple #[v,.int .i64 0] ∧ SeP B L v w
theorem SeT.chg {B:Nat} {L:List Int} {v:Value} {w':World} {X:List Nat} (h:SeT B L v w) (hc:Chg X w w') (hX:∀ q ∈ X,q < B):SeT B L v w':=by
 obtain ⟨u,e,h⟩:=h; exact ⟨u,e,h.chg hc hX⟩
theorem SeT.later {B:Nat} {L:List Int} {v:Value} {w':World} (h:SeT B L v w) (hb:Below w.heap.size w w'):SeT B L v w':=by
 obtain ⟨u,e,h⟩:=h; exact ⟨u,e,h.later hb⟩
def SeR (be B:Nat) (L:List Int) (_u:Value) (w:World):Prop:=∃ v,w.heap[be]? = some (.cells #[v] 38 (0,0)) ∧ SeP B L v w
theorem SeR.later {be B:Nat} {L:List Int} {v:Value} {w':World} (h:SeR be B L v w) (hb:Below w.heap.size w w'):SeR be B L v w':=by
 obtain ⟨u,e,h⟩:=h; exact ⟨u,(hb.block _ (Array.getElem?_eq_some_iff.1 e).1).trans e,h.later hb⟩
set_option maxRecDepth 100000 in
set_option maxHeartbeats 4000000 in
theorem app2_any {ev:Value} (h:Sg w K J G S V) (hs:w.heap[bs]? = some (.cells #[.pointer (some ⟨G.g,0,none⟩)] 42 (0,0))) (ht:w.heap[bt]? = some (.cells #[.slice A n c] 38 (0,0))) (he:w.heap[be]? = some (.cells #[ev] 38 (0,0))) (hne:bs ≠ be ∧ bt ≠ be ∧ G.g ≠ be ∧ (∀ a,G.A = some a → a.block ≠ be) ∧ (0 < t.length → ∀ a,A = some a → a.block ≠ be)) (hB:Byt w A c t) (hti:InB t) (htn:t.length = n) (hn:n ≤ 131068) (hN:V.T.length ≤ 16384) (hLd:Seal.SLaid w) (hbt:be ∉ Tab) :
 Calls Tryz.prog 55 #[.pointer (some ⟨bs,0,none⟩),.pointer (some ⟨bt,0,none⟩),.pointer (some ⟨be,0,none⟩)] w fun e w' => e = .returned (.int .i64 0) ∧ Chg [be] w w' ∧ SeR be w.heap.size (Seal.sealL V.key V.C V.T.length V.ep t) undef w':=by
 obtain ⟨_,_,_,c35,c36,c37,_⟩:=h.cells
 obtain ⟨Av,cv,hv⟩:=own_nilK h.tx.own
 rw [hv] at c37
 have ckey:=rowG_key h.row
 have hrow:=h.row
 obtain ⟨R0,hR0⟩:∃ R0,R0 = rowG (some ⟨G.g,0,none⟩) K (some ⟨J.g,0,none⟩) V.key (.slice G.A V.C.length G.c) V.ep G.v V.lost:=⟨_,rfl⟩
 obtain ⟨N,hNe⟩:∃ N,N = V.T.length:=⟨_,rfl⟩
 rw [← hNe] at c37 hN
 obtain ⟨SS,hSS⟩:∃ SS,SS = Seal.sealL V.key V.C N V.ep t:=⟨_,rfl⟩
 have Hse:Hid (∀ W,Chg [be] w W → Calls Tryz.prog 56 #[.agg (vals V.key).toArray,.agg #[.slice G.A V.C.length G.c,.int .u64 (N:Nat),.int .u32 (V.ep:Nat)],.slice A n c] W fun e w' => ∃ v,e = .returned (.tuple #[v,.int .i64 0]) ∧ SeP W.heap.size SS v w' ∧ Below W.heap.size W w'):=fun W hc => by
  rw [hSS]
  exact Seal.seal_ok V.key V.C t N V.ep G.A A V.C.length G.c n c W h.klen h.kin rfl h.cin h.clen htn hti hn ⟨by omega,h.ep32⟩ (h.ctx.chg hc (fun a ha => by simp; exact hne.2.2.2.1 a ha)) (byt_chg hB hc (fun h0 a ha => by simp; exact hne.2.2.2.2 h0 a ha)) (slaid_chg hLd hc (by simp; exact hbt))
 rw [← hNe,← hSS]
 have Hpl:Hid (∀ W,Chg [be] w W → Calls Tryz.prog 57 #[.pointer (some ⟨G.g,0,none⟩),.int .i64 (N:Nat)] W fun e w' => e = .returned (.agg #[.slice G.A V.C.length G.c,.int .u64 (N:Nat),.int .u32 (V.ep:Nat)]) ∧ Below W.heap.size W w'):=fun W hc => by
  have hr:=cell_row (hc.at hrow (by simp; exact hne.2.2.1))
  obtain ⟨_,_,_,q35,q36,_⟩:=rowG_at (self:=some ⟨G.g,0,none⟩) (K:=K) (lg:=some ⟨J.g,0,none⟩) (cx:=.slice G.A V.C.length G.c) (ep:=V.ep) (tv:=G.v) (lost:=V.lost) h.klen
  exact place_any ((hr 35).trans q35) ((hr 36).trans q36) (by omega)
 have Hrow:=Lib.hid hrow
 have Hs:=Lib.hid hs
 have Ht:=Lib.hid ht
 have He:=Lib.hid he
 have Hne:=Lib.hid hne
 have Hlt:Hid (be < w.heap.size):=(Array.getElem?_eq_some_iff.1 he).1
 have Hi32:Hid ((Tryz.prog.info? 24).map (·.size) = some (vals V.key).length):=by show _ = _; rw [vals_length,h.klen]; exact Seal.infoH
 have H37:Hid ((rowG (some ⟨G.g,0,none⟩) K (some ⟨J.g,0,none⟩) V.key (.slice G.A V.C.length G.c) V.ep G.v V.lost)[37]? = some (.slice Av N cv)):=by
  show _ = _
  have h7:=(rowG_at (self:=some ⟨G.g,0,none⟩) (K:=K) (lg:=some ⟨J.g,0,none⟩) (cx:=.slice G.A V.C.length G.c) (ep:=V.ep) (tv:=G.v) (lost:=V.lost) h.klen).2.2.2.2.2.1
  rw [h7,hv,hNe]
 have hnI:(n:Int) ≤ 131068:=by omega
 have hNI:(N:Int) ≤ 16384:=by omega
 clear h hs ht he hne hB hti htn hn hN hLd hbt c35 c36 c37 hv ckey hrow hR0 hNe hSS
 go_enter Tryz.func55,Tryz.ntmps55
 go_upto_region 1 with (fail)
 have apx:apartB [5,6,7,8,9,10,11,12,13,14,15,16,17,4,18,19,1016,3] = true:=by decide
 refine wp_region_any (by kernel_rfl) ?_
 change wpAny _ _ _ _ _ _ _ (World.drew _)
 refine wpAny_inv2 (fun ll aa wx => Hid (ll.size = 18 ∧ RSt 38 be #[ev] 16 [] w ll wx) ∧ ∃ (z:Nat → Value),Hid (aa = ⟨#[.pointer (some ⟨bs,0,none⟩),.pointer (some ⟨bt,0,none⟩),.pointer (some ⟨be,0,none⟩),z 3,z 4,z 5,z 6,z 7,z 8,z 9,z 10,z 11,z 12,z 13,z 14,z 15,z 16,z 17,z 18,z 19,undef],[]⟩) ∧ Holding [5,6,7,8,9,10,11,12,13,14,15,16,17,4,18,19,1016,3] [some (.pointer (some ⟨G.g,0,none⟩)),some (.pointer (some ⟨G.g,0,none⟩)),some (.pointer (some ⟨G.g,3,none⟩)),some (.agg (vals V.key).toArray),some (.pointer (some ⟨G.g,0,none⟩)),some (.pointer (some ⟨G.g,0,none⟩)),some (.pointer (some ⟨G.g,0,none⟩)),some (.pointer (some ⟨G.g,37,none⟩)),some (.slice Av N cv),some (.int .i64 (N:Nat)),some (.agg #[.slice G.A V.C.length G.c,.int .u64 (N:Nat),.int .u32 (V.ep:Nat)]),some (.slice A n c),none,none,none,some (.int .i64 0),none,some (.int .i64 0)] ll z ∧ Whn ll 12 (SeT w.heap.size SS) (z 17) wx ∧ Whn ll 13 (SeT w.heap.size SS) (z 4) wx ∧ Whn ll 14 (SeP w.heap.size SS) (z 18) wx ∧ Whn ll 16 (SeR be w.heap.size SS) (z 1016) wx) ?_ (by kernel_rfl) ?_ ?_ _ rfl _ _ ?_
 · rintro ll aa wx ⟨hI,_⟩
   exact hI.out.1
 · rintro ll aa wx ⟨hI,z,ha,hz,hp12,hp13,hp14,hp16⟩ hall
   have hx:=Lib.hid hI.out.2
   have e0:z 5 = .pointer (some ⟨G.g,0,none⟩):=hz 0 _ (hall 0 (by decide)) rfl
   have e1:z 6 = .pointer (some ⟨G.g,0,none⟩):=hz 1 _ (hall 1 (by decide)) rfl
   have e2:z 7 = .pointer (some ⟨G.g,3,none⟩):=hz 2 _ (hall 2 (by decide)) rfl
   have e3:z 8 = .agg (vals V.key).toArray:=hz 3 _ (hall 3 (by decide)) rfl
   have e4:z 9 = .pointer (some ⟨G.g,0,none⟩):=hz 4 _ (hall 4 (by decide)) rfl
   have e5:z 10 = .pointer (some ⟨G.g,0,none⟩):=hz 5 _ (hall 5 (by decide)) rfl
   have e6:z 11 = .pointer (some ⟨G.g,0,none⟩):=hz 6 _ (hall 6 (by decide)) rfl
   have e7:z 12 = .pointer (some ⟨G.g,37,none⟩):=hz 7 _ (hall 7 (by decide)) rfl
   have e8:z 13 = .slice Av N cv:=hz 8 _ (hall 8 (by decide)) rfl
   have e9:z 14 = .int .i64 (N:Nat):=hz 9 _ (hall 9 (by decide)) rfl
   have e10:z 15 = .agg #[.slice G.A V.C.length G.c,.int .u64 (N:Nat),.int .u32 (V.ep:Nat)]:=hz 10 _ (hall 10 (by decide)) rfl
   have e11:z 16 = .slice A n c:=hz 11 _ (hall 11 (by decide)) rfl
   have e15:z 19 = .int .i64 0:=hz 15 _ (hall 15 (by decide)) rfl
   have e17:z 3 = .int .i64 0:=hz 17 _ (hall 17 (by decide)) rfl
   have p12:=hp12.get (hall 12 (by decide))
   have p13:=hp13.get (hall 13 (by decide))
   have p14:=hp14.get (hall 14 (by decide))
   have p16:=hp16.get (hall 16 (by decide))
   clear hall hz hI hp12 hp13 hp14 hp16
   obtain rfl:=ha.out
   clear ha
   clear apx
   have HX:=Lib.hid hx.out.chg
   have HR:=Lib.hid p16
   simp only [e17]
   clear e0 e1 e2 e3 e4 e5 e6 e7 e8 e9 e10 e11 e15 e17 hx p12 p13 p14 p16
   go_wp2
   go_ret
   obtain ⟨v,h1,h2⟩:=HR.out
   exact ⟨rfl,HX.out,v,h1,h2⟩
 · rintro ll aa wx i ⟨hI,z,ha,hz,hp12,hp13,hp14,hp16⟩ hcl hi hu hw
   obtain rfl:=ha.out
   have hsz:=Lib.hid hI.out.1
   have hx:=Lib.hid hI.out.2
   clear ha hI
   have hin:i < 18:=hi
   obtain rfl | rfl | rfl | rfl | rfl | rfl | rfl | rfl | rfl | rfl | rfl | rfl | rfl | rfl | rfl | rfl | rfl | rfl:i = 0 ∨ i = 1 ∨ i = 2 ∨ i = 3 ∨ i = 4 ∨ i = 5 ∨ i = 6 ∨ i = 7 ∨ i = 8 ∨ i = 9 ∨ i = 10 ∨ i = 11 ∨ i = 12 ∨ i = 13 ∨ i = 14 ∨ i = 15 ∨ i = 16 ∨ i = 17:=by omega
   · have cl:wx.cell? ⟨bs,0,none⟩ = some (.pointer (some ⟨G.g,0,none⟩)):=cell_row (hx.out.chg.at Hs.out (by simp; exact Hne.out.1)) 0
     refine wpOp_plain rfl rfl ?_
     go_simp
     exact ⟨⟨by simp [hsz.out],hx.out.same (by decide)⟩,upd z 5 (.pointer (some ⟨G.g,0,none⟩)),(by unfold Hid; simp [upd]),hz.next apx hsz.out 0 (by decide) _ (fun _ h => Option.some.inj h),hp12.keep (by decide),hp13.keep (by decide),hp14.keep (by decide),hp16.keep (by decide)⟩
   · have e0:z 5 = .pointer (some ⟨G.g,0,none⟩):=hz 0 _ (hw 0 (by kernel_rfl)) rfl
     refine wpOp_plain rfl rfl ?_
     go_simp
     exact ⟨⟨by simp [hsz.out],hx.out.same (by decide)⟩,upd z 6 (.pointer (some ⟨G.g,0,none⟩)),(by unfold Hid; simp [upd,e0]),hz.next apx hsz.out 1 (by decide) _ (fun _ h => Option.some.inj h),hp12.keep (by decide),hp13.keep (by decide),hp14.keep (by decide),hp16.keep (by decide)⟩
   · have e1:z 6 = .pointer (some ⟨G.g,0,none⟩):=hz 1 _ (hw 1 (by kernel_rfl)) rfl
     refine wpOp_plain rfl rfl ?_
     go_simp
     exact ⟨⟨by simp [hsz.out],hx.out.same (by decide)⟩,upd z 7 (.pointer (some ⟨G.g,3,none⟩)),(by unfold Hid; simp [upd,e1]),hz.next apx hsz.out 2 (by decide) _ (fun _ h => Option.some.inj h),hp12.keep (by decide),hp13.keep (by decide),hp14.keep (by decide),hp16.keep (by decide)⟩
   · have e2:z 7 = .pointer (some ⟨G.g,3,none⟩):=hz 2 _ (hw 2 (by kernel_rfl)) rfl
     have hrg:wx.rangeAt G.g 3 (vals V.key):=rowG_key (hx.out.chg.at Hrow.out (by simp; exact Hne.out.2.2.1))
     refine wpOp_plain rfl rfl (wp_load_mid 24 (.tmp 7) rfl G.g 3 e2 (vals V.key) _ hrg Tryz.underlying24 rfl Hi32.out ?_)
     go_simp
     exact ⟨⟨by simp [hsz.out],hx.out.same (by decide)⟩,upd z 8 (.agg (vals V.key).toArray),(by unfold Hid; simp [upd,e2]),hz.next apx hsz.out 3 (by decide) _ (fun _ h => Option.some.inj h),hp12.keep (by decide),hp13.keep (by decide),hp14.keep (by decide),hp16.keep (by decide)⟩
   · have cl:wx.cell? ⟨bs,0,none⟩ = some (.pointer (some ⟨G.g,0,none⟩)):=cell_row (hx.out.chg.at Hs.out (by simp; exact Hne.out.1)) 0
     refine wpOp_plain rfl rfl ?_
     go_simp
     exact ⟨⟨by simp [hsz.out],hx.out.same (by decide)⟩,upd z 9 (.pointer (some ⟨G.g,0,none⟩)),(by unfold Hid; simp [upd]),hz.next apx hsz.out 4 (by decide) _ (fun _ h => Option.some.inj h),hp12.keep (by decide),hp13.keep (by decide),hp14.keep (by decide),hp16.keep (by decide)⟩
   · have cl:wx.cell? ⟨bs,0,none⟩ = some (.pointer (some ⟨G.g,0,none⟩)):=cell_row (hx.out.chg.at Hs.out (by simp; exact Hne.out.1)) 0
     refine wpOp_plain rfl rfl ?_
     go_simp
     exact ⟨⟨by simp [hsz.out],hx.out.same (by decide)⟩,upd z 10 (.pointer (some ⟨G.g,0,none⟩)),(by unfold Hid; simp [upd]),hz.next apx hsz.out 5 (by decide) _ (fun _ h => Option.some.inj h),hp12.keep (by decide),hp13.keep (by decide),hp14.keep (by decide),hp16.keep (by decide)⟩
   · have e5:z 10 = .pointer (some ⟨G.g,0,none⟩):=hz 5 _ (hw 5 (by kernel_rfl)) rfl
     refine wpOp_plain rfl rfl ?_
     go_simp
     exact ⟨⟨by simp [hsz.out],hx.out.same (by decide)⟩,upd z 11 (.pointer (some ⟨G.g,0,none⟩)),(by unfold Hid; simp [upd,e5]),hz.next apx hsz.out 6 (by decide) _ (fun _ h => Option.some.inj h),hp12.keep (by decide),hp13.keep (by decide),hp14.keep (by decide),hp16.keep (by decide)⟩
   · have e6:z 11 = .pointer (some ⟨G.g,0,none⟩):=hz 6 _ (hw 6 (by kernel_rfl)) rfl
     refine wpOp_plain rfl rfl ?_
     go_simp
     exact ⟨⟨by simp [hsz.out],hx.out.same (by decide)⟩,upd z 12 (.pointer (some ⟨G.g,37,none⟩)),(by unfold Hid; simp [upd,e6]),hz.next apx hsz.out 7 (by decide) _ (fun _ h => Option.some.inj h),hp12.keep (by decide),hp13.keep (by decide),hp14.keep (by decide),hp16.keep (by decide)⟩
   · have e7:z 12 = .pointer (some ⟨G.g,37,none⟩):=hz 7 _ (hw 7 (by kernel_rfl)) rfl
     have cl:wx.cell? ⟨G.g,37,none⟩ = some (.slice Av N cv):=(cell_row (hx.out.chg.at Hrow.out (by simp; exact Hne.out.2.2.1)) 37).trans H37.out
     refine wpOp_plain rfl rfl ?_
     go_simp
     exact ⟨⟨by simp [hsz.out],hx.out.same (by decide)⟩,upd z 13 (.slice Av N cv),(by unfold Hid; simp [upd,e7]),hz.next apx hsz.out 8 (by decide) _ (fun _ h => Option.some.inj h),hp12.keep (by decide),hp13.keep (by decide),hp14.keep (by decide),hp16.keep (by decide)⟩
   · have e8:z 13 = .slice Av N cv:=hz 8 _ (hw 8 (by kernel_rfl)) rfl
     refine wpOp_plain rfl rfl ?_
     go_simp
     exact ⟨⟨by simp [hsz.out],hx.out.same (by decide)⟩,upd z 14 (.int .i64 (N:Nat)),(by unfold Hid; simp [upd,e8]),hz.next apx hsz.out 9 (by decide) _ (fun _ h => Option.some.inj h),hp12.keep (by decide),hp13.keep (by decide),hp14.keep (by decide),hp16.keep (by decide)⟩
   · have e4:z 9 = .pointer (some ⟨G.g,0,none⟩):=hz 4 _ (hw 4 (by kernel_rfl)) rfl
     have e9:z 14 = .int .i64 (N:Nat):=hz 9 _ (hw 9 (by kernel_rfl)) rfl
     refine wpOp_plain rfl rfl ?_
     go_simp
     go_at_call 57
     refine (Hpl.out wx hx.out.chg).mono ?_
     rintro e w' ⟨rfl,low⟩
     exact ⟨⟨by simp [hsz.out],hx.out.call Hlt.out (by decide) low⟩,upd z 15 (.agg #[.slice G.A V.C.length G.c,.int .u64 (N:Nat),.int .u32 (V.ep:Nat)]),(by unfold Hid; simp [upd,e4,e9]),hz.next apx hsz.out 10 (by decide) _ (fun _ h => Option.some.inj h),(hp12.keep (by decide)).map (fun h => h.later low),(hp13.keep (by decide)).map (fun h => h.later low),(hp14.keep (by decide)).map (fun h => h.later low),(hp16.keep (by decide)).map (fun h => h.later low)⟩
   · have cl:wx.cell? ⟨bt,0,none⟩ = some (.slice A n c):=cell_row (hx.out.chg.at Ht.out (by simp; exact Hne.out.2.1)) 0
     refine wpOp_plain rfl rfl ?_
     go_simp
     exact ⟨⟨by simp [hsz.out],hx.out.same (by decide)⟩,upd z 16 (.slice A n c),(by unfold Hid; simp [upd]),hz.next apx hsz.out 11 (by decide) _ (fun _ h => Option.some.inj h),hp12.keep (by decide),hp13.keep (by decide),hp14.keep (by decide),hp16.keep (by decide)⟩
   · have e3:z 8 = .agg (vals V.key).toArray:=hz 3 _ (hw 3 (by kernel_rfl)) rfl
     have e10:z 15 = .agg #[.slice G.A V.C.length G.c,.int .u64 (N:Nat),.int .u32 (V.ep:Nat)]:=hz 10 _ (hw 10 (by kernel_rfl)) rfl
     have e11:z 16 = .slice A n c:=hz 11 _ (hw 11 (by kernel_rfl)) rfl
     refine wpOp_plain rfl rfl ?_
     go_simp
     go_at_call 56
     refine (Hse.out wx hx.out.chg).mono ?_
     rintro e w' ⟨v9,rfl,ho,low⟩; obtain ⟨vr,hvr⟩:∃ vr:Value,vr = .tuple #[v9,.int .i64 0]:=⟨_,rfl⟩; rw [← hvr]
     exact ⟨⟨by simp [hsz.out],hx.out.call Hlt.out (by decide) low⟩,upd z 17 (vr),(by unfold Hid; simp [upd,e3,e10,e11]),hz.next apx hsz.out 12 (by decide) _ (fun _ h => by cases h),Whn.done (⟨v9,hvr,Seal.OwnB.base ho hx.out.chg.size⟩),(hp13.keep (by decide)).map (fun h => h.later low),(hp14.keep (by decide)).map (fun h => h.later low),(hp16.keep (by decide)).map (fun h => h.later low)⟩
   · have p12:=hp12.get (hw 12 (by kernel_rfl))
     refine wpOp_plain rfl rfl ?_
     go_simp
     exact ⟨⟨by simp [hsz.out],hx.out.same (by decide)⟩,upd z 4 (z 17),(by unfold Hid; simp [upd]),hz.next apx hsz.out 13 (by decide) _ (fun _ h => by cases h),hp12.keep (by decide),Whn.done (p12),hp14.keep (by decide),hp16.keep (by decide)⟩
   · have p13:=hp13.get (hw 13 (by kernel_rfl))
     obtain ⟨v9,e9,h9⟩:=p13
     refine wpOp_plain rfl rfl ?_
     simp only [e9]
     go_simp
     exact ⟨⟨by simp [hsz.out],hx.out.same (by decide)⟩,upd z 18 (v9),(by unfold Hid; simp [upd,e9]),hz.next apx hsz.out 14 (by decide) _ (fun _ h => by cases h),hp12.keep (by decide),hp13.keep (by decide),Whn.done (h9),hp16.keep (by decide)⟩
   · have p13:=hp13.get (hw 13 (by kernel_rfl))
     obtain ⟨v9,e9,h9⟩:=p13
     refine wpOp_plain rfl rfl ?_
     simp only [e9]
     go_simp
     exact ⟨⟨by simp [hsz.out],hx.out.same (by decide)⟩,upd z 19 (.int .i64 0),(by unfold Hid; simp [upd,e9]),hz.next apx hsz.out 15 (by decide) _ (fun _ h => Option.some.inj h),hp12.keep (by decide),hp13.keep (by decide),hp14.keep (by decide),hp16.keep (by decide)⟩
   · have p14:=hp14.get (hw 14 (by kernel_rfl))
     obtain ⟨A9,c9,e9⟩:=own_nilK p14
     have p14b:=p14
     rw [e9] at p14b
     have crow:=hx.out.row hu
     have cz:=cell_row crow 0
     have fz:=free_row crow 0
     refine wpOp_plain rfl rfl ?_
     simp only [e9]
     go_simp
     exact ⟨⟨by simp [hsz.out],hx.out.store (by rw [hsz.out]; decide)⟩,upd z 1016 (undef),(by unfold Hid; simp [upd,e9]),hz.next apx hsz.out 16 (by decide) _ (fun _ h => by cases h),(hp12.keep (by decide)).map (fun h => h.chg ((Chg.refl [be] _).setCell (by simp) _) (by simp; exact Hlt.out)),(hp13.keep (by decide)).map (fun h => h.chg ((Chg.refl [be] _).setCell (by simp) _) (by simp; exact Hlt.out)),(hp14.keep (by decide)).map (fun h => h.chg ((Chg.refl [be] _).setCell (by simp) _) (by simp; exact Hlt.out)),Whn.done (⟨_,heap_setCell_same _ _ _ _ _ _ crow,SeP.chg p14b ((Chg.refl [be] _).setCell (by simp) _) (by simp; exact Hlt.out)⟩)⟩
   · have e15:z 19 = .int .i64 0:=hz 15 _ (hw 15 (by kernel_rfl)) rfl
     refine wpOp_plain rfl rfl ?_
     go_simp
     exact ⟨⟨by simp [hsz.out],hx.out.same (by decide)⟩,upd z 3 (.int .i64 0),(by unfold Hid; simp [upd,e15]),hz.next apx hsz.out 17 (by decide) _ (fun _ h => Option.some.inj h),hp12.keep (by decide),hp13.keep (by decide),hp14.keep (by decide),hp16.keep (by decide)⟩
 · exact ⟨⟨rfl,RSt.start He.out⟩,fun xx => (#[.pointer (some ⟨bs,0,none⟩),.pointer (some ⟨bt,0,none⟩),.pointer (some ⟨be,0,none⟩),.int .i64 0,undef,undef,undef,undef,undef,undef,undef,undef,undef,undef,undef,undef,undef,undef,undef,undef,undef]:Array Value).getD xx undef,rfl,Holding.start,Whn.none (by decide),Whn.none (by decide),Whn.none (by decide),Whn.none (by decide)⟩
end
end Go.Proofs.YteeghgjkjicjoaaGreatDoor.Sgm
