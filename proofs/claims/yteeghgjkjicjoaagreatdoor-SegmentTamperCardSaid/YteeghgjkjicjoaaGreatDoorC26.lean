/- Texts of ours, merged. -/
import Derived.Test.YteeghgjkjicjoaaGreatDoorC25
set_option maxRecDepth 100000
set_option maxHeartbeats 16000000
namespace Go.Proofs.YteeghgjkjicjoaaGreatDoor.Sgm
open Go.RowKit Dsk Slt Epo
theorem key_lit1:Value.agg (u8s kOne) = .agg #[.int .u8 1,.int .u8 0,.int .u8 0,.int .u8 0,.int .u8 0,.int .u8 0,.int .u8 0,.int .u8 0,.int .u8 0,.int .u8 0,.int .u8 0,.int .u8 0,.int .u8 0,.int .u8 0,.int .u8 0,.int .u8 0,.int .u8 0,.int .u8 0,.int .u8 0,.int .u8 0,.int .u8 0,.int .u8 0,.int .u8 0,.int .u8 0,.int .u8 0,.int .u8 0,.int .u8 0,.int .u8 0,.int .u8 0,.int .u8 0,.int .u8 0,.int .u8 0]:=rfl
theorem key_lit2:Value.agg (u8s kTwo) = .agg #[.int .u8 2,.int .u8 0,.int .u8 0,.int .u8 0,.int .u8 0,.int .u8 0,.int .u8 0,.int .u8 0,.int .u8 0,.int .u8 0,.int .u8 0,.int .u8 0,.int .u8 0,.int .u8 0,.int .u8 0,.int .u8 0,.int .u8 0,.int .u8 0,.int .u8 0,.int .u8 0,.int .u8 0,.int .u8 0,.int .u8 0,.int .u8 0,.int .u8 0,.int .u8 0,.int .u8 0,.int .u8 0,.int .u8 0,.int .u8 0,.int .u8 0,.int .u8 0]:=rfl
def V1:GV:=⟨kOne,mainC,1,[],false⟩
def V3:GV:=⟨kOne,mainC,2,[[97,98]],false⟩
def W1 (w0 w:World) (K:DK) (g:Nat):Prop:=∃ D J G S,G.g = g /\ SE w0 w K D J G S V1 /\ SGd D S V1 [] /\ D.laid = false /\ D.writes <= 10 /\ D.secs = 20
def W2 (w0 w:World) (K:DK):Prop:=∃ D,SD w0 w K D /\ DG D kOne mainC 1 [([97,98],1)] /\ D.off = false /\ D.laid = false /\ D.writes <= 3000
def W3 (w0 w:World) (K:DK) (g:Nat):Prop:=∃ D J G S,G.g = g /\ SE w0 w K D J G S V3 /\ SGd D S V3 [([97,98],1)] /\ D.writes <= 4000
theorem abIn:InB [97,98]:=inB_of (by decide)
theorem wk_new (w:World) (hL:Seal.SLaid w):Calls Tryz.prog 8 #[.int .i64 20] w fun e w' => ∃ K:DK,e = .returned (.tuple #[.pointer (some ⟨K.g,0,none⟩),.int .i64 0]) /\ SD w w' K (newD 20):=sd_new 20 w hL (by decide) (by decide)
theorem newD_secsN (n:Nat):(newD n).secs = n:=by simp [newD,DS.secs]
theorem newD_secs12:(newD 20).secs = 20:=newD_secsN 20
theorem opens_none1 {k C:List Int} {most i least:Nat} {s:List Int} {r:List (List Int)} (h:Seal.openL k C i s = none):opensL k C most i least (s :: r) = none:=by
 unfold opensL
 rw [h]
theorem seals_one (k C:List Int) (i e:Nat) (t:List Int):sealsL k C i [(t,e)] = [Seal.sealL k C i e t]:=rfl
theorem wk_open1 {w0 w:World} {K:DK} (h:SD w0 w K (newD 20)):Calls Tryz.prog 17 #[.pointer (some ⟨K.g,0,none⟩),.agg #[.int .u8 1,.int .u8 0,.int .u8 0,.int .u8 0,.int .u8 0,.int .u8 0,.int .u8 0,.int .u8 0,.int .u8 0,.int .u8 0,.int .u8 0,.int .u8 0,.int .u8 0,.int .u8 0,.int .u8 0,.int .u8 0,.int .u8 0,.int .u8 0,.int .u8 0,.int .u8 0,.int .u8 0,.int .u8 0,.int .u8 0,.int .u8 0,.int .u8 0,.int .u8 0,.int .u8 0,.int .u8 0,.int .u8 0,.int .u8 0,.int .u8 0,.int .u8 0],.string { data:=#[109,97,105,110] },.agg #[.int .i64 2,.int .u64 0]] w fun e w' => ∃ g,e = .returned (.tuple #[.pointer (some ⟨g,0,none⟩),.int .i64 0]) /\ W1 w0 w' K g:=by
 have h1:=sd_open h (key:=kOne) rfl kOne_in mainS (by decide) 2 0 (new_good 20 (by decide) _ _) (by decide) rfl rfl (by decide)
 rw [mainC_eq,key_lit1] at h1
 refine Calls.mono h1 ?_
 rintro e w' ⟨J,G,D',S,rfl,h2,h3,h4,h5,h6,_⟩
 exact ⟨G.g,rfl,D',J,G,S,rfl,h2,h3,h4,Int.le_trans h5 (by decide),h6.trans newD_secs12⟩
theorem wk_epoch1 {w0 w:World} {K:DK} {g:Nat} (h:W1 w0 w K g):Calls Tryz.prog 23 #[.pointer (some ⟨g,0,none⟩)] w fun e w' => e = .returned (.int .i64 1) /\ w = w':=by
 obtain ⟨D,J,G,S,rfl,h2,_⟩:=h
 exact se_epoch h2
theorem wk_append {w0 w:World} {K:DK} {g:Nat} (h:W1 w0 w K g) (fr:Nat × Nat):Calls Tryz.prog 24 #[.pointer (some ⟨g,0,none⟩),.slice (some ⟨w.heap.size,0,none⟩) 2 2] (w.alloc (.cells #[.int .u8 97,.int .u8 98] 5 fr)) fun e w' => e = .returned (.int .i64 0) /\ W2 w0 w' K:=by
 obtain ⟨D,J,G,S,rfl,h2,h3,h4,h5,h6⟩:=h
 have hbel:Below w.heap.size w (w.alloc (.cells #[.int .u8 97,.int .u8 98] 5 fr)):=(Below.refl _ _).alloc (Nat.le_refl _) _
 have hB:Byt (w.alloc (.cells #[.int .u8 97,.int .u8 98] 5 fr)) (some ⟨w.heap.size,0,none⟩) 2 [97,98]:=Str.byt_rowT (l:=[97,98]) (Go.heap_alloc_new w _) rfl
 have hJ:=jbl_lt h2.sg.lg
 have hG:=gbl_lt h2.sg
 have hu:S.used = 0:=by
  have hl:=h3.log
  rw [h3.txs] at hl
  obtain ⟨cs,R,hr,ht,hc⟩:=hl
  cases cs with
  | nil => simp at hc; omega
  | cons a b => cases ht
 have hx:refX D S V1 2 = 0:=by
  have hroom:roomG S = roomL 1531:=by
   unfold roomG
   rw [h3.secs,hu,h6]
   rfl
  unfold refX
  rw [if_neg (by decide),if_neg (by decide),if_neg (by rw [h3.off]; decide),if_neg]
  rw [hroom]
  have:=(roomL_iff 1531 2 (by decide)).2 (by decide)
  omega
 obtain ⟨a1,a2⟩:=app_good_calm (t:=[97,98]) h3 h4 hx
 obtain ⟨b1,b2,b3⟩:=app_good (t:=[97,98]) h3 abIn (by decide) (by decide)
 refine (se_append (h2.later hbel) (some ⟨w.heap.size,0,none⟩) 2 2 [97,98] rfl hB (fun _ a ha => ?_) abIn (by decide) (by decide) (by rw [h3.from_,h3.secs,h6]; decide) (by omega)).mono ?_
 . cases ha
   exact ⟨fun hm => by have:=h2.sd.kl _ hm; exact Nat.lt_irrefl _ this,fun hm => Nat.lt_irrefl _ (hJ _ hm),fun hm => Nat.lt_irrefl _ (hG _ hm)⟩
 . rintro e w' ⟨rfl,J',G',_,hs,_⟩
   rw [a1] at b3 ⊢
   rcases b3 with ⟨hc,_⟩ | ⟨_,hg,hv⟩ | ⟨hc,_⟩
   . cases hc
   . refine ⟨rfl,_,hs.sd,?_,hg.off,a2,by omega⟩
     have:=hg.dg
     rw [hv] at this
     exact this
   . cases hc
theorem wk_open2 {w0 w:World} {K:DK} (h:W2 w0 w K):Calls Tryz.prog 17 #[.pointer (some ⟨K.g,0,none⟩),.agg #[.int .u8 1,.int .u8 0,.int .u8 0,.int .u8 0,.int .u8 0,.int .u8 0,.int .u8 0,.int .u8 0,.int .u8 0,.int .u8 0,.int .u8 0,.int .u8 0,.int .u8 0,.int .u8 0,.int .u8 0,.int .u8 0,.int .u8 0,.int .u8 0,.int .u8 0,.int .u8 0,.int .u8 0,.int .u8 0,.int .u8 0,.int .u8 0,.int .u8 0,.int .u8 0,.int .u8 0,.int .u8 0,.int .u8 0,.int .u8 0,.int .u8 0,.int .u8 0],.string { data:=#[109,97,105,110] },.agg #[.int .i64 2,.int .u64 0]] w fun e w' => ∃ g,e = .returned (.tuple #[.pointer (some ⟨g,0,none⟩),.int .i64 0]) /\ W3 w0 w' K g:=by
 obtain ⟨D,h1,h2,h3,h4,h5⟩:=h
 have h6:=sd_open h1 (key:=kOne) rfl kOne_in mainS (by decide) 2 0 (v:=1) (R:=[([97,98],1)]) (by rw [mainC_eq]; exact h2) (by decide) h3 h4 (by omega)
 rw [mainC_eq,key_lit1] at h6
 refine Calls.mono h6 ?_
 rintro e w' ⟨J,G,D',S,rfl,h7,h8,_,h9,_⟩
 exact ⟨G.g,rfl,D',J,G,S,rfl,h7,h8,by omega⟩
theorem wk_other {w0 w:World} {K:DK} {g:Nat} (h:W3 w0 w K g):Calls Tryz.prog 17 #[.pointer (some ⟨K.g,0,none⟩),.agg #[.int .u8 2,.int .u8 0,.int .u8 0,.int .u8 0,.int .u8 0,.int .u8 0,.int .u8 0,.int .u8 0,.int .u8 0,.int .u8 0,.int .u8 0,.int .u8 0,.int .u8 0,.int .u8 0,.int .u8 0,.int .u8 0,.int .u8 0,.int .u8 0,.int .u8 0,.int .u8 0,.int .u8 0,.int .u8 0,.int .u8 0,.int .u8 0,.int .u8 0,.int .u8 0,.int .u8 0,.int .u8 0,.int .u8 0,.int .u8 0,.int .u8 0,.int .u8 0],.string { data:=#[109,97,105,110] },.agg #[.int .i64 2,.int .u64 0]] w fun e w' => e = .returned (.tuple #[.pointer none,.int .i64 9]) /\ W3 w0 w' K g:=by
 obtain ⟨D,J,G,S,hg,h2,h3,h4⟩:=h
 have hn:opensL kTwo mainC 2 0 1 (sealsL kOne mainC 0 [([97,98],1)]) = none:=by
  rw [seals_one]
  exact opens_none1 other_none
 have h6:=se_other h2 (key:=kTwo) rfl kTwo_in mainS (by decide) 2 0 mainC_eq h3.dg hn h3.off (by omega)
 rw [key_lit2] at h6
 refine Calls.mono h6 ?_
 rintro e w' ⟨rfl,h7⟩
 exact ⟨rfl,D,J,G,S,hg,h7,h3,h4⟩
theorem wk_texts {w0 w:World} {K:DK} {g:Nat} (h:W3 w0 w K g):Calls Tryz.prog 19 #[.pointer (some ⟨g,0,none⟩)] w fun e w' => ∃ gt A c,e = .returned (.slice (some ⟨gt,0,none⟩) 1 1) /\ w'.cell? ⟨gt,0,none⟩ = some (.slice A 2 c) /\ (convert 38 9 (.slice A 2 c)).run Tryz.prog w' = .ok (.string { data:=#[97,98] }) w' /\ W3 w0 w' K g:=by
 obtain ⟨D,J,G,S,rfl,h2,h3,h4⟩:=h
 refine (se_texts h2 (by decide)).mono ?_
 rintro e w' ⟨gt,rfl,hr,h5,_⟩
 obtain ⟨gg,off,B,c,e1,_,e3,e4,_⟩:=(rows_tx (L:=[[97,98]]) hr (by intro t ht; rcases List.mem_singleton.1 ht with rfl; exact abIn)).at_ 0 (by decide)
 cases e1
 exact ⟨gt,B,c,rfl,e3,Str.conv_any (n:=2) e4 rfl,D,J,G,S,rfl,h5,h3,h4⟩
theorem wk_epoch2 {w0 w:World} {K:DK} {g:Nat} (h:W3 w0 w K g):Calls Tryz.prog 23 #[.pointer (some ⟨g,0,none⟩)] w fun e w' => e = .returned (.int .i64 2) /\ w = w':=by
 obtain ⟨D,J,G,S,rfl,h2,_⟩:=h
 exact se_epoch h2
theorem W3.low {w0 w:World} {K:DK} {g:Nat} (h:W3 w0 w K g):Below w0.heap.size w0 w:=by
 obtain ⟨D,J,G,S,_,h2,_⟩:=h
 exact h2.sd.low
theorem works_any (w:World) (hL:Seal.SLaid w):Calls Tryz.prog 7 #[] w fun e w' => e = .returned (.bool true) /\ Below w.heap.size w w':=by
 have kconst:=fun (w:World) (C:Array Value) (n c:Nat) => Lib.run_convert_bytes_const (P:=Tryz.prog) w 38 5 C n c Tryz.underlying38 Tryz.underlying5
 have HL:=lhd hL
 clear hL
 go_enter Tryz.func7,Tryz.ntmps7
 go_upto_region 7 with (first
  | (go_at_call 8; with_reducible refine (wk_new w HL.out).mono ?_; rintro e w1 ⟨K,rfl,hq1⟩; have Q1:=lhd hq1; clear hq1)
  | (go_at_call 17; with_reducible refine (wk_open1 Q1.out).mono ?_; rintro e w2 ⟨g2,rfl,hq2⟩; have Q2:=lhd hq2; clear hq2)
  | (go_at_call 23; with_reducible refine (wk_epoch1 Q2.out).mono ?_; rintro e w' ⟨rfl,rfl⟩)
  | (go_at_call 24; refine (wk_append Q2.out _).mono ?_; rintro e w3 ⟨rfl,hq3⟩; have Q3:=lhd hq3; clear hq3))
 go_upto_region 9 with (first
  | (go_at_call 17; with_reducible refine (wk_other Q4.out).mono ?_; rintro e w5 ⟨rfl,hq5⟩; have Q5:=lhd hq5; clear hq5)
  | (go_at_call 17; with_reducible refine (wk_open2 Q3.out).mono ?_; rintro e w4 ⟨g4,rfl,hq4⟩; have Q4:=lhd hq4; clear hq4))
 go_wp2_with (first
  | (go_at_call 19; with_reducible refine (wk_texts Q5.out).mono ?_; rintro e w6 ⟨gt,A6,c6,rfl,k6,k7,hq6⟩; have Q6:=lhd hq6; clear hq6)
  | (go_at_call 23; with_reducible refine (wk_epoch2 Q6.out).mono ?_; rintro e w' ⟨rfl,rfl⟩))
 go_ret
 exact ⟨rfl,Q6.out.low⟩
end Go.Proofs.YteeghgjkjicjoaaGreatDoor.Sgm
namespace Go.Proofs.YteeghgjkjicjoaaGreatDoor.Sgm
open Go.RowKit Dsk Slt Epo
noncomputable def loadH (v:Value):Sem Value:=Instr.loadAt 24 v
theorem loadAtH (v:Value):Instr.loadAt 24 v = loadH v:=rfl
theorem loadH_eq {w:World} {b:Nat} {key:List Int} (hk:key.length = 32) (h:w.rangeAt b 0 (vals key)):(loadH (.pointer (some ⟨b,0,none⟩))).run Tryz.prog w = .ok (.agg (u8s key)) w:=by
 unfold loadH
 exact run_loadAt_mid (P:=Tryz.prog) w b 0 24 (vals key) _ h Tryz.underlying24 rfl (by rw [vals_length,hk]; exact Seal.infoH)
noncomputable def loadB (v:Value):Sem Value:=Instr.loadAt 27 v
theorem loadAtB (v:Value):Instr.loadAt 27 v = loadB v:=rfl
theorem loadB_eq {w:World} {b:Nat} {x y:Value} (h:w.rangeAt b 1 [x,y]):(loadB (.pointer (some ⟨b,1,none⟩))).run Tryz.prog w = .ok (.agg #[x,y]) w:=by
 unfold loadB
 exact run_loadAt_mid (P:=Tryz.prog) w b 1 27 [x,y] _ h Tryz.underlying27 rfl (by kernel_rfl)
noncomputable def loadW (v:Value):Sem Value:=Instr.loadAt 29 v
theorem loadAtW (v:Value):Instr.loadAt 29 v = loadW v:=rfl
theorem loadW_eq {w:World} {b:Nat} {x y z u:Value} (h:w.rangeAt b 0 [x,y,z,u]):(loadW (.pointer (some ⟨b,0,none⟩))).run Tryz.prog w = .ok (.agg #[x,y,z,u]) w:=by
 unfold loadW
 exact run_loadAt_mid (P:=Tryz.prog) w b 0 29 [x,y,z,u] _ h Tryz.underlying29 rfl (by kernel_rfl)
attribute [irreducible] loadH loadB loadW
attribute [local go_sem ↓ high] loadAtH loadAtB loadAtW
theorem range_of {w:World} {b o:Nat} {C:Array Value} {T:TypeId} {fr:Nat × Nat} (h:w.heap[b]? = some (.cells C T fr)) {l:List Value} (hl:∀ j v,l[j]? = some v -> C[o + j]? = some v):w.rangeAt b o l:=fun j v hv => by
 rw [cell_row h]
 exact hl j v hv
structure Bx (w:World) (bk bw:Nat) (key:List Int) (s:ByteArray) (lv:Int) (cp sc:Nat):Prop where
 k:w.heap[bk]? = some (.cells (u8s key) 24 (0,0))
 w:w.heap[bw]? = some (.cells #[.string s,.int .i64 lv,.int .u64 (cp:Nat),.int .u8 (sc:Nat)] 29 (0,0))
theorem Bx.facts {w:World} {bk bw:Nat} {key:List Int} {s:ByteArray} {lv:Int} {cp sc:Nat} (h:Bx w bk bw key s lv cp sc) (hk:key.length = 32):(loadH (.pointer (some ⟨bk,0,none⟩))).run Tryz.prog w = .ok (.agg (u8s key)) w /\ w.cell? ⟨bw,0,none⟩ = some (.string s) /\ (loadB (.pointer (some ⟨bw,1,none⟩))).run Tryz.prog w = .ok (.agg #[.int .i64 lv,.int .u64 (cp:Nat)]) w /\ w.cell? ⟨bw,3,none⟩ = some (.int .u8 (sc:Nat)) /\ (loadW (.pointer (some ⟨bw,0,none⟩))).run Tryz.prog w = .ok (.agg #[.string s,.int .i64 lv,.int .u64 (cp:Nat),.int .u8 (sc:Nat)]) w:=by
 refine ⟨loadH_eq hk (range_of h.k fun j v hv => ?_),by rw [cell_row h.w]; rfl,loadB_eq (range_of h.w fun j v hv => ?_),by rw [cell_row h.w]; rfl,loadW_eq (range_of h.w fun j v hv => ?_)⟩
 . rw [Nat.zero_add]
   unfold u8s
   rw [List.getElem?_toArray]
   exact hv
 . match j,hv with
   | 0,hv => exact hv
   | 1,hv => exact hv
   | j + 2,hv => cases hv
 . match j,hv with
   | 0,hv => exact hv
   | 1,hv => exact hv
   | 2,hv => exact hv
   | 3,hv => exact hv
   | j + 4,hv => cases hv
theorem Bx.below {w w':World} {B:Nat} {bk bw:Nat} {key:List Int} {s:ByteArray} {lv:Int} {cp sc:Nat} (h:Bx w bk bw key s lv cp sc) (hb:Below B w w') (h1:bk < B) (h2:bw < B):Bx w' bk bw key s lv cp sc :=
 ⟨(hb.block _ h1).trans h.k,(hb.block _ h2).trans h.w⟩
end Go.Proofs.YteeghgjkjicjoaaGreatDoor.Sgm
