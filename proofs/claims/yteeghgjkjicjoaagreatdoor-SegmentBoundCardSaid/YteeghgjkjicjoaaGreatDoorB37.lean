/- Texts of ours, merged. -/
import Derived.Test.YteeghgjkjicjoaaGreatDoorB36
import Derived.Laws.StructEq
namespace Go.Proofs.YteeghgjkjicjoaaGreatDoor.Sgm
open Go.RowKit Dsk Slt Epo Seal
attribute [local go_sem ↓ high] loadAtH loadAtB loadAtW
theorem fieldsLb:(Tryz.prog.fieldsOf 27).toList.map (fun f => (f.name == "_",f.type,f.offset)) = [(false, 3,0),(false, 25,1)]:=by kernel_rfl
theorem eql_lb (a b:Int) (c d:Nat) (w:World):(binOp .eql 27 (.agg #[.int .i64 a,.int .u64 (c:Nat)]) (.agg #[.int .i64 b,.int .u64 (d:Nat)])).run Tryz.prog w = .ok (.bool (decide (a = b ∧ c = d))) w:=by
 rw [run_eql_struct,run_equalIn_agg w 9999 27 _ _ (by kernel_rfl) (by kernel_rfl)]
 have hf:=fieldsLb
 generalize (Tryz.prog.fieldsOf 27).toList = fs at hf
 have hl:fs.length = 2:=by have:=congrArg List.length hf; simpa using this
 obtain ⟨f0,f1,rfl⟩:∃ f0 f1,fs = [f0,f1]:=by
  match fs,hl with
  | [p,q],_ => exact ⟨p,q,rfl⟩
 simp only [List.map_cons,List.map_nil,List.cons.injEq,Prod.mk.injEq,and_true] at hf
 obtain ⟨⟨n0,t0,o0⟩,n1,t1,o1⟩:=hf
 have m0:¬ f0.name = "_" := by simpa using n0
 have m1:¬ f1.name = "_" := by simpa using n1
 simp [Op.eqFields,m0,m1,t0,t1,o0,o1,go_sem]
 by_cases hab:a = b <;> by_cases hcd:c = d <;> simp [hab,hcd]
 · omega
theorem eql_key (key:List Int) (hk:key.length = 32) (W:World):(binOp .eql 24 (.agg (u8s key)) (.agg #[.int .u8 7,.int .u8 0,.int .u8 0,.int .u8 0,.int .u8 0,.int .u8 0,.int .u8 0,.int .u8 0,.int .u8 0,.int .u8 0,.int .u8 0,.int .u8 0,.int .u8 0,.int .u8 0,.int .u8 0,.int .u8 0,.int .u8 0,.int .u8 0,.int .u8 0,.int .u8 0,.int .u8 0,.int .u8 0,.int .u8 0,.int .u8 0,.int .u8 0,.int .u8 0,.int .u8 0,.int .u8 0,.int .u8 0,.int .u8 0,.int .u8 0,.int .u8 0])).run Tryz.prog W = .ok (.bool (decide (key = kSeven))) W:=by
 have h:=Arr.eql_arr (k:=.u8) Tryz.underlying5 (by kernel_rfl) (fun _ => by kernel_rfl) (T := 24) (n:=32) (by kernel_rfl) (by kernel_rfl) key kSeven hk rfl W
 exact h
def BSl (L:List Int) (v:Value) (w:World):Prop:=∃ g c,v = .slice (some ⟨g,0,none⟩) L.length c ∧ Byt w (some ⟨g,0,none⟩) c L
theorem BSl.later {L:List Int} {v:Value} {w w':World} (h:BSl L v w) (hb:Below w.heap.size w w'):BSl L v w':=by
 obtain ⟨g,c,e,hB⟩:=h
 exact ⟨g,c,e,hB.below hb (Nat.le_refl _)⟩
theorem bytes_bsl {w:World} {K:DK} {D:DS} (h:Dsk w K D) (h0:0 < D.data.length):Calls Tryz.prog 15 #[.pointer (some ⟨K.g,0,none⟩)] w fun e w' => ∃ v,e = .returned v ∧ BSl D.data v w' ∧ Below w.heap.size w w':=by
 refine (bytes_any h).mono ?_
 rintro e w' ⟨v,rfl,ho,hb⟩
 obtain ⟨g,c,hv,hc,_,hr⟩:=own_rowK ho rfl h0
 exact ⟨v,rfl,⟨g,c,hv,by omega,(fun h => by cases h),fun _ => ⟨g,0,rfl,hr.1,fun j hj => by rw [Nat.zero_add]; exact hr.2 j hj⟩⟩,hb⟩
def TxS (T:List (List Int)) (v:Value) (w:World):Prop:=∃ A c,v = .slice A T.length c ∧ TxAt w A T
theorem TxS.later {T:List (List Int)} {v:Value} {w w':World} (h:TxS T v w) (hb:Below w.heap.size w w'):TxS T v w':=by
 obtain ⟨A,c,e,hx⟩:=h
 exact ⟨A,c,e,hx.later hb⟩
theorem slots_txs {w:World} {D:DS} (hok:D.Ok ∧ 9 ≤ D.secs ∧ 0 < D.data.length) {v:Value} (hv:BSl D.data v w) {R:List Int} {cs:List (List Int)} (hr:Reads ((D.data.drop (8 * 128)).take ((D.secs - 8) * 128)) cs R false) {T:List (List Int)} (hT:T = cs.map textC) :
 Calls Tryz.prog 14 #[v] w fun e w' => ∃ u,e = .returned u ∧ TxS T u w' ∧ Below w.heap.size w w':=by
 obtain ⟨g,c,rfl,hB⟩:=hv
 subst hT
 refine (slots_of hok.1 hok.2.1 g D.data.length c rfl hB hr).mono ?_
 rintro e w' ⟨⟨h,_⟩ | ⟨_,A,c',rfl,hx⟩,hb⟩
 · cases h
 · exact ⟨_,rfl,⟨A,c',by rw [List.length_map],hx⟩,hb⟩
theorem forged_yes {w:World} {v u:Value} {T:List (List Int)} {key C:List Int} (hv:TxS T v w) (hu:SlB C u w) (hF:0 < T.length ∧ ForgedAt key C T [] 0) (h9:∀ t ∈ T,t.length ≤ 9000) (hl:T.length ≤ 1000000) (hk:key.length = 32) (hkb:InB key) (hCb:InB C) (hC:C.length ≤ 1000) :
 Calls Tryz.prog 20 #[v,.slice none 0 0,.agg (u8s key),u] w fun e w' => e = .returned (.bool true) ∧ Below w.heap.size w w':=by
 obtain ⟨A,c,rfl,hx⟩:=hv
 obtain ⟨A3,c3,rfl,hB⟩:=hu
 refine (forged_any A none A3 T.length c 0 0 C.length c3 T [] key C rfl rfl hx ⟨fun i hi => absurd hi (Nat.not_lt_zero _)⟩ hl (Nat.zero_le _) h9 hk hkb rfl hCb hC hB).mono ?_
 rintro e w' ⟨⟨b,rfl,hb⟩,low⟩
 rw [hb.2 ⟨0,hF.1,hF.2⟩]
 exact ⟨rfl,low⟩
theorem ris_in {most:Nat}:∀ (r:List (List Int × Nat)) (least:Nat),Ris most least r → ∀ t ∈ r.map (·.1),InB t
 | [],_,_,_,ht => by cases ht
 | x :: r,least,h,t,ht => by
   rcases List.mem_cons.1 ht with rfl | ht
   · exact h.1.1
   · exact ris_in r _ h.2.2.2 t ht
theorem be_texts {w0 w:World} {K:DK} {D:DS} {J:LK} {G:GK} {S:LS} {key C:List Int} {v m:Nat} {L:List (List Int)} (h:SE w0 w K D J G S ⟨key,C,v,L,false⟩) (hm:L.length = m) (hm1:m ≤ 16384) (hi:∀ t ∈ L,InB t) :
 Calls Tryz.prog 19 #[.pointer (some ⟨G.g,0,none⟩)] w fun e w' => ∃ g,e = .returned (.slice (some ⟨g,0,none⟩) m m) ∧ TxAt w' (some ⟨g,0,none⟩) L ∧ Below w.heap.size w w':=by
 subst hm
 refine (se_texts h hm1).mono ?_
 rintro e w' ⟨g,rfl,hr,_,hb⟩
 exact ⟨g,rfl,rows_tx hr hi,hb⟩
theorem same_yes {w:World} {g g2 m:Nat} {L:List (List Int)} (hm:L.length = m) (hm1:m ≤ 16384) (h1:TxAt w (some ⟨g,0,none⟩) L) (h2:TxAt w (some ⟨g2,0,none⟩) L) :
 Calls Tryz.prog 22 #[.slice (some ⟨g,0,none⟩) m m,.slice (some ⟨g2,0,none⟩) m m] w fun e w' => e = .returned (.bool true) ∧ Below w.heap.size w w':=by
 refine (lsame_any _ _ m m m m L L hm hm h1 h2 (by omega) (by omega)).mono ?_
 rintro e w' ⟨rfl,hb⟩
 exact ⟨by rw [decide_eq_true rfl],hb⟩
theorem be_open {w0 w:World} {K:DK} {D:DS} (h:SD w0 w K D) {key:List Int} (hk:key.length = 32) (hkb:InB key) (s:ByteArray) (hs:s.size ≤ 100) (lv:Int) (cp:Nat) {R:List (List Int × Nat)} (hg:DG D key (ctxL s lv cp) 1 R) (ho:D.off = false) (hl:D.laid = false) (hw:D.writes ≤ 1152921504606846976) {B g m:Nat} (hB:∀ q ∈ K.bl,q < B) (hr:Slt.Rows B (R.map (·.1)) m m g w) (hm:R.length = m) :
 Calls Tryz.prog 17 #[.pointer (some ⟨K.g,0,none⟩),.agg (u8s key),.string s,.agg #[.int .i64 lv,.int .u64 (cp:Nat)]] w fun e w' => ∃ J G D' S,e = .returned (.tuple #[.pointer (some ⟨G.g,0,none⟩),.int .i64 0]) ∧ SE w0 w' K D' J G S ⟨key,ctxL s lv cp,2,R.map (·.1),false⟩ ∧ TxAt w' (some ⟨g,0,none⟩) (R.map (·.1)):=by
 refine (sd_open h hk hkb s hs lv cp hg (by decide) ho hl hw).mono ?_
 rintro e w' ⟨J,G,D',S,rfl,hse,_,_,_,_,hf⟩
 have hr2:=hr.chg hf.chg hB
 have hLm:(R.map (·.1)).length = m:=by rw [List.length_map,hm]
 exact ⟨J,G,D',S,rfl,hse,rows_tx (by rw [hLm]; exact hr2) (ris_in R 1 hg.ris)⟩
theorem infoWh:(Tryz.prog.info? 29).map (·.size) = some 4:=by kernel_rfl
set_option maxRecDepth 100000 in
set_option maxHeartbeats 16000000 in
theorem bound_walk (A:Option Addr) (k c:Nat) (ts:List (List Int)) (key:List Int) (s:ByteArray) (lv:Int) (cp sc:Nat) (hk:key.length = 32) (hkb:InB key) (hcp:cp < 18446744073709551616) (hsc:sc < 256) (hss:s.size ≤ 9223372036854775807) (w:World) (hL:Seal.SLaid w) (hT:TxAt w A ts) (hkn:ts.length = k) (hk9:k ≤ 9223372036854775807) (hlen:∀ t ∈ ts,t.length ≤ 9223372036854775807) :
 Calls Tryz.prog 5 #[.slice A k c,.agg (u8s key),.agg #[.string s,.int .i64 lv,.int .u64 (cp:Nat),.int .u8 (sc:Nat)]] w fun e w' => e = .returned (.bool true) ∧ Below w.heap.size w w':=by
 obtain ⟨w2,hw2⟩:∃ w2,w2 = (w.alloc (.cells (u8s key) 24)).alloc (.cells #[.string s,.int .i64 lv,.int .u64 (cp:Nat),.int .u8 (sc:Nat)] 29):=⟨_,rfl⟩
 have hb2:Below w.heap.size w w2:=by rw [hw2]; exact ((Below.refl _ _).alloc (Nat.le_refl _) _).alloc (by rw [World.size_alloc]; omega) _
 have hsz2:w2.heap.size = w.heap.size + 2:=by rw [hw2,World.size_alloc,World.size_alloc]
 have hbx:Bx w2 w.heap.size (w.heap.size + 1) key s lv cp sc:=by rw [hw2]; exact ⟨(two_new w _ _).1,(two_new w _ _).2⟩
 have HB2:=Lib.hid hb2
 have HT2:Hid (TxAt w2 A ts):=hT.later hb2
 have HL2:=Lib.hid (hL.later hb2)
 have Hbx:=Lib.hid hbx
 have Hk:Hid (key.length = 32 ∧ InB key):=⟨hk,hkb⟩
 have Hkn:=Lib.hid hkn
 have Hw2:=Lib.hid hw2
 have Hlen:=Lib.hid hlen
 have HsK:Hid ((Tryz.prog.info? 24).map (·.size) = some (u8s key).size):=by show _ = _; rw [u8s_size,hk]; exact Seal.infoH
 have Hsc:Hid (sc < 256):=hsc
 have Hcp:Hid (cp < 18446744073709551616):=hcp
 have Hbk:Hid (w.heap.size < w2.heap.size ∧ w.heap.size + 1 < w2.heap.size):=⟨by omega,by omega⟩
 have Hfac:Hid (∀ W,Below w2.heap.size w2 W → (loadH (.pointer (some ⟨w.heap.size,0,none⟩))).run Tryz.prog W = .ok (.agg (u8s key)) W ∧ W.cell? ⟨w.heap.size + 1,0,none⟩ = some (.string s) ∧ (loadB (.pointer (some ⟨w.heap.size + 1,1,none⟩))).run Tryz.prog W = .ok (.agg #[.int .i64 lv,.int .u64 (cp:Nat)]) W ∧ W.cell? ⟨w.heap.size + 1,3,none⟩ = some (.int .u8 (sc:Nat))):=fun W hW => by
  obtain ⟨a1,a2,a3,a4,_⟩:=(Hbx.out.below hW Hbk.out.1 Hbk.out.2).facts Hk.out.1
  exact ⟨a1,a2,a3,a4⟩
 have Hwk:Hid (∀ W,Below w2.heap.size w2 W → Calls Tryz.prog 7 #[] W fun e w' => e = .returned (.bool true) ∧ Below W.heap.size W w'):=fun W hW => works_any W (HL2.out.later hW)
 clear hL hT hkn hlen hb2 hsz2 hbx hw2 hk hkb hcp hsc
 obtain ⟨_,f1,_,f4⟩:=Hfac.out w2 (Below.refl _ _)
 by_cases hs4:40 < s.size
 · have hI:(40:Int) < (s.size:Int):=by omega
   go_enter Tryz.func5,Tryz.ntmps5
   go_upto_region 1 with (fail)
   rw [← Hw2.out]
   go_wp2_with (go_at_call 7; refine (Hwk.out w2 (Below.refl _ _)).mono ?_; rintro e w3 ⟨rfl,hb3⟩; have Hb3:=Lib.hid hb3; clear hb3)
   go_ret
   exact ⟨rfl,HB2.out.trans (Hb3.out.mono HB2.out.size)⟩
 · have hI:¬ (40:Int) < (s.size:Int):=by omega
   have Hs40:Hid (s.size ≤ 40):=by show _ ≤ _; omega
   have Hinf:=Lib.hid infoWh
   clear hs4
   go_enter Tryz.func5,Tryz.ntmps5
   go_upto_region 1 with (fail)
   rw [← Hw2.out]
   go_upto_region 4 with (refine wpList_store_row rfl 29 (.tmp 7) (.tmp 21) rfl w2.heap.size #[.string { data:=#[109,97,105,110] },.int .i64 1,.int .u64 0,.int .u8 (sc:Nat)] rfl rfl 29 _ (Go.heap_alloc_new w2 _) Hinf.out rfl (by intro v hv; simp at hv; rcases hv with rfl | rfl | rfl | rfl <;> rfl) ?_; rw [World.setRow_alloc_new])
   obtain ⟨w3,hw3⟩:∃ w3,w3 = w2.alloc (.cells #[.string { data:=#[109,97,105,110] },.int .i64 1,.int .u64 0,.int .u8 (sc:Nat)] 29):=⟨_,rfl⟩
   have hb3:Below w2.heap.size w2 w3:=by rw [hw3]; exact (Below.refl _ _).alloc (Nat.le_refl _) _
   have hrow3:w3.heap[w2.heap.size]? = some (.cells #[.string { data:=#[109,97,105,110] },.int .i64 1,.int .u64 0,.int .u8 (sc:Nat)] 29 (0,0)):=by rw [hw3]; exact Go.heap_alloc_new w2 _
   have Hw3:=Lib.hid hw3
   have HB3:=Lib.hid hb3
   have Hlt3:Hid (w2.heap.size < w3.heap.size):=(Array.getElem?_eq_some_iff.1 hrow3).1
   have Hown:Hid (∀ W,Below w3.heap.size w3 W → W.cell? ⟨w2.heap.size,0,none⟩ = some (.string { data:=#[109,97,105,110] }) ∧ (loadB (.pointer (some ⟨w2.heap.size,1,none⟩))).run Tryz.prog W = .ok (.agg #[.int .i64 1,.int .u64 0]) W ∧ (loadW (.pointer (some ⟨w2.heap.size,0,none⟩))).run Tryz.prog W = .ok (.agg #[.string { data:=#[109,97,105,110] },.int .i64 1,.int .u64 0,.int .u8 (sc:Nat)]) W):=fun W hW => by
    have h:=(hW.block _ Hlt3.out).trans hrow3
    exact ⟨by rw [cell_row h]; rfl,loadB_eq (range_of h fun j v hv => by
     match j,hv with
     | 0,hv => exact hv
     | 1,hv => exact hv
     | j + 2,hv => cases hv),loadW_eq (range_of h fun j v hv => by
     match j,hv with
     | 0,hv => exact hv
     | 1,hv => exact hv
     | 2,hv => exact hv
     | 3,hv => exact hv
     | j + 4,hv => cases hv)⟩
   have Hf1:Hid (Calls Tryz.prog 12 #[.slice A k c,.agg #[.int .u8 7,.int .u8 0,.int .u8 0,.int .u8 0,.int .u8 0,.int .u8 0,.int .u8 0,.int .u8 0,.int .u8 0,.int .u8 0,.int .u8 0,.int .u8 0,.int .u8 0,.int .u8 0,.int .u8 0,.int .u8 0,.int .u8 0,.int .u8 0,.int .u8 0,.int .u8 0,.int .u8 0,.int .u8 0,.int .u8 0,.int .u8 0,.int .u8 0,.int .u8 0,.int .u8 0,.int .u8 0,.int .u8 0,.int .u8 0,.int .u8 0,.int .u8 0],.agg #[.string { data:=#[109,97,105,110] },.int .i64 1,.int .u64 0,.int .u8 (sc:Nat)]] w3 (FillQ w3 (9 + sc % 64) kSeven (ctxL mainS 1 0) (cutT ts))):=by
    have h:=filled_any A k c ts kSeven mainS 1 0 sc rfl kSeven_in Hsc.out (by decide) w3 (HL2.out.later hb3) (HT2.out.later hb3) Hkn.out hk9 Hlen.out
    rw [key_lit7] at h
    exact h
   obtain ⟨fm0,fmB,fmW⟩:=Hown.out w3 (Below.refl _ _)
   rw [show w2.alloc (.cells #[.string { data:=#[109,97,105,110] },.int .i64 1,.int .u64 0,.int .u8 (sc:Nat)] 29) = w3 from hw3.symm]
   clear hw3 hb3 hrow3 f1 f4
   obtain ⟨n,hn⟩:∃ n,n = 9 + sc % 64:=⟨_,rfl⟩
   have Hn9:Hid (9 ≤ n ∧ n ≤ 72):=⟨by omega,by omega⟩
   rw [← hn] at Hf1
   clear hn
   go_upto_region 7 with (go_at_call 12; refine Hf1.out.mono ?_; clear Hf1; rintro e w4 ⟨K,D0,S0,D,S,V,g,m,B,rfl,hm1,hr1,hk1,hB1,hsd1,hf01,hfl1⟩; have Hm1:=Lib.hid hm1; have Hr1:=Lib.hid hr1; have Hsd1:=Lib.hid hsd1; have Hf01:=Lib.hid hf01; have Hfl1:=Lib.hid hfl1; have HkB:=Lib.hid hk1; have HwB:=Lib.hid hB1; clear hm1 hr1 hk1 hB1 hsd1 hf01 hfl1)
   clear fm0 fmB fmW
   obtain ⟨fm0,fmB,_⟩:=Hown.out w4 Hsd1.out.low
   have hlow4:=HB3.out.trans (Hsd1.out.low.mono HB3.out.size)
   obtain ⟨fk,f1,fB,_⟩:=Hfac.out w4 hlow4
   obtain ⟨b1,hb1⟩:∃ b,b = decide (key = kSeven):=⟨_,rfl⟩
   obtain ⟨b2,hb2⟩:∃ b,b = decide (s = mainS):=⟨_,rfl⟩
   obtain ⟨b3,hb3⟩:∃ b,b = decide (lv = 1 ∧ cp = 0):=⟨_,rfl⟩
   have q1:∀ W:World,(binOp .eql 24 (.agg (u8s key)) (.agg #[.int .u8 7,.int .u8 0,.int .u8 0,.int .u8 0,.int .u8 0,.int .u8 0,.int .u8 0,.int .u8 0,.int .u8 0,.int .u8 0,.int .u8 0,.int .u8 0,.int .u8 0,.int .u8 0,.int .u8 0,.int .u8 0,.int .u8 0,.int .u8 0,.int .u8 0,.int .u8 0,.int .u8 0,.int .u8 0,.int .u8 0,.int .u8 0,.int .u8 0,.int .u8 0,.int .u8 0,.int .u8 0,.int .u8 0,.int .u8 0,.int .u8 0,.int .u8 0])).run Tryz.prog W = .ok (.bool b1) W:=fun W => by rw [hb1]; exact eql_key key Hk.out.1 W
   have q2:(s.toList == ([109,97,105,110]:List UInt8)) = b2:=by
    rw [hb2,Bool.eq_iff_iff,show ([109,97,105,110]:List UInt8) = mainS.toList from by kernel_rfl]
    simp only [beq_iff_eq,decide_eq_true_eq]
    exact ⟨Str.toList_inj,fun h => by rw [h]⟩
   have q3:∀ W:World,(binOp .eql 27 (.agg #[.int .i64 lv,.int .u64 (cp:Nat)]) (.agg #[.int .i64 1,.int .u64 0])).run Tryz.prog W = .ok (.bool b3) W:=fun W => by rw [hb3]; exact eql_lb _ _ _ 0 W
   have Hb:Hid ((b1 && b2 && b3) = true ↔ key = kSeven ∧ s = mainS ∧ lv = 1 ∧ cp = 0):=by
    show _ ↔ _
    rw [hb1,hb2,hb3]
    simp only [Bool.and_eq_true,decide_eq_true_eq,and_assoc]
   clear hb1 hb2 hb3
   go_cut [10] from 10 to 47 (fun s10 wx => wx = w4 ∧ s10 = .bool (b1 && b2 && b3))
   case first =>
    cases b1 with
    | false =>
      go_wp2
      go_meet
      exact ⟨rfl,rfl⟩
    | true =>
      cases b2 with
      | false =>
        go_wp2
        go_meet
        exact ⟨rfl,rfl⟩
      | true =>
        go_wp2
        go_meet
        exact ⟨rfl,rfl⟩
   case rest =>
    obtain ⟨hwc,rfl⟩:=hcut
    subst hwc
    obtain ⟨R,hR⟩:=Hfl1.out.good
    have hdg:DG D kSeven (ctxL mainS 1 0) 1 R:=by
     have h:=hR.dg
     rw [Hfl1.out.ep,Hfl1.out.kc.1,Hfl1.out.kc.2] at h
     exact h
    have hRm:R.length = m:=by rw [← Hm1.out,hR.T,List.length_map]
    have hwr:D.writes ≤ 33000:=by
     have h1:=Hfl1.out.wr
     have h2:(cutT ts).length ≤ 10:=by rw [cutT_len]; omega
     omega
    have hoff:=hR.off
    have hcalm:=Hfl1.out.calm
    have HR:=Lib.hid hR
    have Hdg:=Lib.hid hdg
    have HRm:=Lib.hid hRm
    have Hsecs:Hid (D.secs = n):=Hfl1.out.secs
    have Hlow4:=Lib.hid hlow4
    obtain ⟨b,hb⟩:∃ b,b = (b1 && b2 && b3):=⟨_,rfl⟩
    rw [← hb] at Hb ⊢
    clear q1 q2 q3 hb hR hRm hlow4 fm0 fmB
    by_cases hB:0 < m ∧ b = false
    · obtain ⟨hm0,rfl⟩:=hB
      have hmI:(0:Int) < (m:Int):=by omega
      have Hop:=Lib.hid (sd_any Hsd1.out hdg (by decide) hoff hcalm (by omega) Hk.out.1 Hk.out.2 s (by have:=Hs40.out; omega) lv cp)
      clear hdg hoff hcalm hwr
      go_upto_region 9 with (go_at_call 17; refine Hop.out.mono ?_; clear Hop; rintro e w5 ⟨p,x,D',cs,Rr,rfl,hsd5,hrd,hsec,hcs,hnone⟩; have Hsd5:=Lib.hid hsd5; have Hrd:=Lib.hid hrd; have Hsec:=Lib.hid hsec; have Hcs:=Lib.hid hcs; have Hnone:=Lib.hid hnone; clear hsd5 hrd hsec hcs hnone)
      have Hlow5:Hid (Below w2.heap.size w2 w5):=HB3.out.trans (Hsd5.out.low.mono HB3.out.size)
      clear fk f1 fB
      by_cases hx:x = 9
      · subst hx
        go_wp2_with (go_at_call 7; refine (Hwk.out w5 Hlow5.out).mono ?_; rintro e w6 ⟨rfl,hb6⟩; have Hb6:=Lib.hid hb6; clear hb6)
        go_ret
        exact ⟨rfl,HB2.out.trans ((Hlow5.out.trans (Hb6.out.mono Hlow5.out.size)).mono HB2.out.size)⟩
      · have hxb:(x == 9) = false:=beq_eq_false_iff_ne.2 hx
        obtain ⟨fk,f1,fB,_⟩:=Hfac.out w5 Hlow5.out
        go_upto_region 10 with (fail)
        have Hfacx:Hid (∀ W,Below w5.heap.size w5 W → (loadH (.pointer (some ⟨w.heap.size,0,none⟩))).run Tryz.prog W = .ok (.agg (u8s key)) W ∧ W.cell? ⟨w.heap.size + 1,0,none⟩ = some (.string s) ∧ (loadB (.pointer (some ⟨w.heap.size + 1,1,none⟩))).run Tryz.prog W = .ok (.agg #[.int .i64 lv,.int .u64 (cp:Nat)]) W):=fun W hW => by
         obtain ⟨a1,a2,a3,_⟩:=Hfac.out W (Hlow5.out.trans (hW.mono Hlow5.out.size))
         exact ⟨a1,a2,a3⟩
        have Hwkx:Hid (∀ W,Below w5.heap.size w5 W → Calls Tryz.prog 7 #[] W fun e w' => e = .returned (.bool true) ∧ Below W.heap.size W w'):=fun W hW => Hwk.out W (Hlow5.out.trans (hW.mono Hlow5.out.size))
        have hsx:sealsL kSeven (ctxL mainS 1 0) 0 R ≠ []:=fun h => by
         have:=congrArg List.length h
         rw [seals_len,HRm.out] at this
         simp at this
         omega
        obtain ⟨T,hT⟩:∃ T,T = cs.map textC:=⟨_,rfl⟩
        have hT2:T = sealsL kSeven (ctxL mainS 1 0) 0 R:=hT.trans Hcs.out
        have HFor:Hid (0 < T.length ∧ ForgedAt key (ctxL s lv cp) T [] 0):=by
         cases T with
         | nil => exact absurd hT2.symm hsx
         | cons t0 r =>
           refine ⟨by simp,?_,.inl (Nat.zero_le _)⟩
           cases ho:opensL key (ctxL s lv cp) 1 0 1 (t0 :: r) with
           | none => exact absurd (Hnone.out (by rw [← hT2]; exact ho)) hx
           | some o => exact opens_first ho
        have hd5:=Hsd5.out.dsk.ok
        have hn5:D'.secs = n:=Hsec.out.trans Hsecs.out
        have H9:Hid (∀ t ∈ T,t.length ≤ 9000):=by
         rw [hT]
         refine reads_len Hrd.out ?_
         rw [List.length_take]
         have:=Hn9.out
         omega
        have hlen5:D'.data.length = D'.secs * 128:=hd5.whole128
        have HTl:Hid (T.length ≤ 1000000 ∧ cs.length = T.length):=by
         refine ⟨?_,by rw [hT,List.length_map]⟩
         rw [hT2,seals_len,HRm.out]
         have h1:=Hfl1.out.tn
         have h2:(cutT ts).length ≤ 10:=by rw [cutT_len]; omega
         rw [Hm1.out] at h1
         omega
        have HT:=Lib.hid hT
        have Hdok:Hid (D'.Ok ∧ 9 ≤ D'.secs ∧ 0 < D'.data.length):=⟨hd5,by have:=Hn9.out; omega,by have:=Hn9.out; omega⟩
        clear hT hT2 hd5 hn5 hlen5 hsx fk f1 fB
        have apx:apartB [69,70,71,72,73,74,75,76,77,78,79,80,81,6] = true:=by decide
        refine wp_region_any (by kernel_rfl) ?_
        change wpAny _ _ _ _ _ _ _ (World.drew _)
        refine wpAny_inv2 (fun ll aa wx => Hid (ll.size = 14 ∧ Below w5.heap.size w5 wx) ∧ ∃ (z:Nat → Value),Hid (aa = ⟨#[Value.slice A k c,Value.agg (u8s key),Value.agg #[Value.string s,Value.int IntKind.i64 lv,Value.int IntKind.u64 ((cp:Nat):Int),Value.int IntKind.u8 ((sc:Nat):Int)],undef,Value.pointer (some { block:=w.heap.size,off:=0 }),Value.pointer (some { block:=w.heap.size + 1,off:=0 }),z 6,Value.pointer (some { block:=w2.heap.size,off:=0 }),Value.pointer (some { block:=K.g,off:=0 }),Value.slice (some { block:=g,off:=0 }) m m,Value.bool false,Value.pointer p,Value.int IntKind.i64 x,u13,u14,u15,u16,u17,u18,u19,u20,u21,u22,u23,u24,u25,u26,u27,u28,u29,u30,u31,u32,u33,u34,u35,u36,u37,u38,u39,u40,u41,u42,u43,u44,u45,u46,u47,Value.tuple #[Value.pointer p,Value.int IntKind.i64 x],Value.pointer (some { block:=K.g,off:=0 }),Value.agg (u8s key),Value.pointer (some { block:=w.heap.size + 1,off:=0 }),Value.string s,Value.pointer (some { block:=w.heap.size + 1,off:=1 }),Value.agg #[Value.int IntKind.i64 lv,Value.int IntKind.u64 ((cp:Nat):Int)],Value.tuple #[Value.pointer p,Value.int IntKind.i64 x],Value.pointer p,Value.int IntKind.i64 x,Value.slice (some { block:=g,off:=0 }) m m,Value.int IntKind.i64 ((m:Nat):Int),Value.bool true,Value.bool true,Value.bool false,Value.bool true,Value.bool true,Value.bool true,Value.int IntKind.i64 x,Value.bool (x != 9),Value.bool (x != 9),z 69,z 70,z 71,z 72,z 73,z 74,z 75,z 76,z 77,z 78,z 79,z 80,z 81,undef,undef,undef,undef,undef,undef,undef,undef,undef,undef,undef,undef,undef,undef,undef,undef,undef,undef,undef],[]⟩) ∧ Holding [69,70,71,72,73,74,75,76,77,78,79,80,81,6] [some (.pointer (some ⟨K.g,0,none⟩)),none,none,some (.agg (u8s key)),some (.pointer (some ⟨w.heap.size + 1,0,none⟩)),some (.string s),some (.pointer (some ⟨w.heap.size + 1,1,none⟩)),some (.agg #[.int .i64 lv,.int .u64 (cp:Nat)]),none,some (.bool true),some (.bool true),some (.bool true),some (.bool true),some (.bool true)] ll z ∧ Whn ll 1 (BSl D'.data) (z 70) wx ∧ Whn ll 2 (TxS T) (z 71) wx ∧ Whn ll 8 (SlB (ctxL s lv cp)) (z 77) wx) ?_ (by kernel_rfl) ?_ ?_ _ rfl _ _ ?_
        · rintro ll aa wx ⟨hI,_⟩
          exact hI.out.1
        · rintro ll aa wx ⟨hI,z,ha,hz,hp1,hp2,hp8⟩ hall
          have hx:=Lib.hid hI.out.2
          have e13:z 6 = .bool true:=hz 13 _ (hall 13 (by decide)) rfl
          have p1:=hp1.get (hall 1 (by decide))
          have p2:=hp2.get (hall 2 (by decide))
          have p8:=hp8.get (hall 8 (by decide))
          clear hall hz hI hp1 hp2 hp8
          obtain rfl:=ha.out
          clear ha
          clear apx
          have HX:=Lib.hid hx.out
          rw [e13]
          clear e13 hx p1 p2 p8
          go_wp2
          go_ret
          exact ⟨rfl,HB2.out.trans ((Hlow5.out.trans (HX.out.mono Hlow5.out.size)).mono HB2.out.size)⟩
        · rintro ll aa wx i ⟨hI,z,ha,hz,hp1,hp2,hp8⟩ hcl hi hu hw
          obtain rfl:=ha.out
          have hsz:=Lib.hid hI.out.1
          have hx:=Lib.hid hI.out.2
          clear ha hI
          have hin:i < 14:=hi
          obtain rfl | rfl | rfl | rfl | rfl | rfl | rfl | rfl | rfl | rfl | rfl | rfl | rfl | rfl:i = 0 ∨ i = 1 ∨ i = 2 ∨ i = 3 ∨ i = 4 ∨ i = 5 ∨ i = 6 ∨ i = 7 ∨ i = 8 ∨ i = 9 ∨ i = 10 ∨ i = 11 ∨ i = 12 ∨ i = 13:=by omega
          · refine wpOp_plain rfl rfl ?_
            go_simp
            exact ⟨⟨by simp [hsz.out],hx.out⟩,upd z 69 (.pointer (some ⟨K.g,0,none⟩)),(by unfold Hid; simp [upd]),hz.next apx hsz.out 0 (by decide) _ (fun _ h => Option.some.inj h),hp1.keep (by decide),hp2.keep (by decide),hp8.keep (by decide)⟩
          · have e0:z 69 = .pointer (some ⟨K.g,0,none⟩):=hz 0 _ (hw 0 (by kernel_rfl)) rfl
            refine wpOp_plain rfl rfl ?_
            go_simp
            go_at_call 15
            refine (bytes_bsl (Hsd5.out.later hx.out).dsk Hdok.out.2.2).mono ?_
            rintro e w' ⟨vr,rfl,hbs,low⟩
            exact ⟨⟨by simp [hsz.out],hx.out.trans (low.mono hx.out.size)⟩,upd z 70 (vr),(by unfold Hid; simp [upd,e0]),hz.next apx hsz.out 1 (by decide) _ (fun _ h => by cases h),Whn.done (hbs),(hp2.keep (by decide)).map (fun h => h.later low),(hp8.keep (by decide)).map (fun h => h.later low)⟩
          · have p1:=hp1.get (hw 1 (by kernel_rfl))
            refine wpOp_plain rfl rfl ?_
            go_simp
            go_at_call 14
            refine (slots_txs Hdok.out p1 Hrd.out HT.out).mono ?_
            rintro e w' ⟨vr,rfl,hts,low⟩
            exact ⟨⟨by simp [hsz.out],hx.out.trans (low.mono hx.out.size)⟩,upd z 71 (vr),(by unfold Hid; simp [upd]),hz.next apx hsz.out 2 (by decide) _ (fun _ h => by cases h),(hp1.keep (by decide)).map (fun h => h.later low),Whn.done (hts),(hp8.keep (by decide)).map (fun h => h.later low)⟩
          · have fx:=(Hfacx.out wx hx.out).1
            refine wpOp_plain rfl rfl ?_
            go_simp
            exact ⟨⟨by simp [hsz.out],hx.out⟩,upd z 72 (.agg (u8s key)),(by unfold Hid; simp [upd]),hz.next apx hsz.out 3 (by decide) _ (fun _ h => Option.some.inj h),hp1.keep (by decide),hp2.keep (by decide),hp8.keep (by decide)⟩
          · refine wpOp_plain rfl rfl ?_
            go_simp
            exact ⟨⟨by simp [hsz.out],hx.out⟩,upd z 73 (.pointer (some ⟨w.heap.size + 1,0,none⟩)),(by unfold Hid; simp [upd]),hz.next apx hsz.out 4 (by decide) _ (fun _ h => Option.some.inj h),hp1.keep (by decide),hp2.keep (by decide),hp8.keep (by decide)⟩
          · have e4:z 73 = .pointer (some ⟨w.heap.size + 1,0,none⟩):=hz 4 _ (hw 4 (by kernel_rfl)) rfl
            have fx:=(Hfacx.out wx hx.out).2.1
            refine wpOp_plain rfl rfl ?_
            go_simp
            exact ⟨⟨by simp [hsz.out],hx.out⟩,upd z 74 (.string s),(by unfold Hid; simp [upd,e4]),hz.next apx hsz.out 5 (by decide) _ (fun _ h => Option.some.inj h),hp1.keep (by decide),hp2.keep (by decide),hp8.keep (by decide)⟩
          · refine wpOp_plain rfl rfl ?_
            go_simp
            exact ⟨⟨by simp [hsz.out],hx.out⟩,upd z 75 (.pointer (some ⟨w.heap.size + 1,1,none⟩)),(by unfold Hid; simp [upd]),hz.next apx hsz.out 6 (by decide) _ (fun _ h => Option.some.inj h),hp1.keep (by decide),hp2.keep (by decide),hp8.keep (by decide)⟩
          · have e6:z 75 = .pointer (some ⟨w.heap.size + 1,1,none⟩):=hz 6 _ (hw 6 (by kernel_rfl)) rfl
            have fx:=(Hfacx.out wx hx.out).2.2
            refine wpOp_plain rfl rfl ?_
            go_simp
            exact ⟨⟨by simp [hsz.out],hx.out⟩,upd z 76 (.agg #[.int .i64 lv,.int .u64 (cp:Nat)]),(by unfold Hid; simp [upd,e6]),hz.next apx hsz.out 7 (by decide) _ (fun _ h => Option.some.inj h),hp1.keep (by decide),hp2.keep (by decide),hp8.keep (by decide)⟩
          · have e5:z 74 = .string s:=hz 5 _ (hw 5 (by kernel_rfl)) rfl
            have e7:z 76 = .agg #[.int .i64 lv,.int .u64 (cp:Nat)]:=hz 7 _ (hw 7 (by kernel_rfl)) rfl
            refine wpOp_plain rfl rfl ?_
            go_simp
            go_at_call 21
            refine (rcontext s lv cp (Nat.le_trans Hs40.out (by decide)) Hcp.out wx).mono ?_
            rintro e w' ⟨vr,rfl,hnb,low⟩
            exact ⟨⟨by simp [hsz.out],hx.out.trans (low.mono hx.out.size)⟩,upd z 77 (vr),(by unfold Hid; simp [upd,e5,e7]),hz.next apx hsz.out 8 (by decide) _ (fun _ h => by cases h),(hp1.keep (by decide)).map (fun h => h.later low),(hp2.keep (by decide)).map (fun h => h.later low),Whn.done (hnb.sl)⟩
          · have e3:z 72 = .agg (u8s key):=hz 3 _ (hw 3 (by kernel_rfl)) rfl
            have p2:=hp2.get (hw 2 (by kernel_rfl))
            have p8:=hp8.get (hw 8 (by kernel_rfl))
            refine wpOp_plain rfl rfl ?_
            go_simp
            go_at_call 20
            refine (forged_yes p2 p8 HFor.out H9.out HTl.out.1 Hk.out.1 Hk.out.2 (ctxL_in s lv cp (Nat.le_trans Hs40.out (by decide))) (ctxL_len (Nat.le_trans Hs40.out (by decide)) lv cp)).mono ?_
            rintro e w' ⟨rfl,low⟩
            exact ⟨⟨by simp [hsz.out],hx.out.trans (low.mono hx.out.size)⟩,upd z 78 (.bool true),(by unfold Hid; simp [upd,e3]),hz.next apx hsz.out 9 (by decide) _ (fun _ h => Option.some.inj h),(hp1.keep (by decide)).map (fun h => h.later low),(hp2.keep (by decide)).map (fun h => h.later low),(hp8.keep (by decide)).map (fun h => h.later low)⟩
          · have e9:z 78 = .bool true:=hz 9 _ (hw 9 (by kernel_rfl)) rfl
            refine wpOp_plain rfl rfl ?_
            go_simp
            exact ⟨⟨by simp [hsz.out],hx.out⟩,upd z 79 (.bool true),(by unfold Hid; simp [upd,e9]),hz.next apx hsz.out 10 (by decide) _ (fun _ h => Option.some.inj h),hp1.keep (by decide),hp2.keep (by decide),hp8.keep (by decide)⟩
          · have e10:z 79 = .bool true:=hz 10 _ (hw 10 (by kernel_rfl)) rfl
            refine wpOp_want rfl (by simp [Region.wanted,yielded,e10]) ?_
            go_simp
            go_at_call 7
            refine (Hwkx.out wx hx.out).mono ?_
            rintro e w' ⟨rfl,low⟩
            exact ⟨⟨by simp [hsz.out],hx.out.trans (low.mono hx.out.size)⟩,upd z 80 (.bool true),(by unfold Hid; simp [upd,e10]),hz.next apx hsz.out 11 (by decide) _ (fun _ h => Option.some.inj h),(hp1.keep (by decide)).map (fun h => h.later low),(hp2.keep (by decide)).map (fun h => h.later low),(hp8.keep (by decide)).map (fun h => h.later low)⟩
          · have e10:z 79 = .bool true:=hz 10 _ (hw 10 (by kernel_rfl)) rfl
            have e11:z 80 = .bool true:=hz 11 _ (hw 11 (by kernel_rfl)) rfl
            refine wpOp_plain rfl rfl ?_
            go_simp
            exact ⟨⟨by simp [hsz.out],hx.out⟩,upd z 81 (.bool true),(by unfold Hid; simp [upd,e10,e11]),hz.next apx hsz.out 12 (by decide) _ (fun _ h => Option.some.inj h),hp1.keep (by decide),hp2.keep (by decide),hp8.keep (by decide)⟩
          · have e12:z 81 = .bool true:=hz 12 _ (hw 12 (by kernel_rfl)) rfl
            refine wpOp_plain rfl rfl ?_
            go_simp
            exact ⟨⟨by simp [hsz.out],hx.out⟩,upd z 6 (.bool true),(by unfold Hid; simp [upd,e12]),hz.next apx hsz.out 13 (by decide) _ (fun _ h => Option.some.inj h),hp1.keep (by decide),hp2.keep (by decide),hp8.keep (by decide)⟩
        · exact ⟨⟨rfl,(Below.refl _ _).drew⟩,fun xx => (#[Value.slice A k c,Value.agg (u8s key),Value.agg #[Value.string s,Value.int IntKind.i64 lv,Value.int IntKind.u64 ((cp:Nat):Int),Value.int IntKind.u8 ((sc:Nat):Int)],undef,Value.pointer (some { block:=w.heap.size,off:=0 }),Value.pointer (some { block:=w.heap.size + 1,off:=0 }),Value.bool false,Value.pointer (some { block:=w2.heap.size,off:=0 }),Value.pointer (some { block:=K.g,off:=0 }),Value.slice (some { block:=g,off:=0 }) m m,Value.bool false,Value.pointer p,Value.int IntKind.i64 x,u13,u14,u15,u16,u17,u18,u19,u20,u21,u22,u23,u24,u25,u26,u27,u28,u29,u30,u31,u32,u33,u34,u35,u36,u37,u38,u39,u40,u41,u42,u43,u44,u45,u46,u47,Value.tuple #[Value.pointer p,Value.int IntKind.i64 x],Value.pointer (some { block:=K.g,off:=0 }),Value.agg (u8s key),Value.pointer (some { block:=w.heap.size + 1,off:=0 }),Value.string s,Value.pointer (some { block:=w.heap.size + 1,off:=1 }),Value.agg #[Value.int IntKind.i64 lv,Value.int IntKind.u64 ((cp:Nat):Int)],Value.tuple #[Value.pointer p,Value.int IntKind.i64 x],Value.pointer p,Value.int IntKind.i64 x,Value.slice (some { block:=g,off:=0 }) m m,Value.int IntKind.i64 ((m:Nat):Int),Value.bool true,Value.bool true,Value.bool false,Value.bool true,Value.bool true,Value.bool true,Value.int IntKind.i64 x,Value.bool (x != 9),Value.bool (x != 9),undef,undef,undef,undef,undef,undef,undef,undef,undef,undef,undef,undef,undef,undef,undef,undef,undef,undef,undef,undef,undef,undef,undef,undef,undef,undef,undef,undef,undef,undef,undef,undef]:Array Value).getD xx undef,rfl,Holding.start,Whn.none (by decide),Whn.none (by decide),Whn.none (by decide)⟩
    · have hdg2:DG D key (ctxL s lv cp) 1 R:=by
       by_cases hb':b = true
       · obtain ⟨e1,e2,e3,e4⟩:=Hb.out.1 hb'
         rw [e1,e2,e3,e4]
         exact hdg
       · have hbf:b = false:=by cases b with
          | false => rfl
          | true => exact absurd rfl hb'
         have hm0:R.length = 0:=by rw [HRm.out]; exact Nat.eq_zero_of_not_pos (fun h => hB ⟨h,hbf⟩)
         cases R with
         | cons x r => cases hm0
         | nil => exact ⟨hdg.n9,hdg.w128,hdg.cnt,hdg.ris,hdg.log⟩
      have hrw:Slt.Rows B (R.map (·.1)) m m g wc:=by have h:=Hr1.out; rw [HR.out.T] at h; exact h
      have Hop:=Lib.hid (be_open Hsd1.out Hk.out.1 Hk.out.2 s (by have:=Hs40.out; omega) lv cp hdg2 hoff hcalm (by omega) HkB.out hrw HRm.out)
      have Hib:=Lib.hid (ris_in R 1 hdg.ris)
      have HLm:Hid ((R.map (·.1)).length = m):=by show _ = _; rw [List.length_map,HRm.out]
      have Hm16:Hid (m ≤ 16384):=by
       show m ≤ 16384
       have h1:=Hfl1.out.tn
       have h2:(cutT ts).length ≤ 10:=by rw [cutT_len]; omega
       rw [Hm1.out] at h1
       omega
      have hor:¬ (0:Int) < (m:Int) ∨ ((0:Int) < (m:Int) ∧ b = true):=by
       by_cases h:0 < m
       · right
         refine ⟨by omega,?_⟩
         cases b with
         | false => exact absurd ⟨h,rfl⟩ hB
         | true => rfl
       · left; omega
      clear hdg hdg2 hoff hcalm hwr hB hrw
      rcases hor with hmI | ⟨hmI,rfl⟩
      all_goals
       go_upto_region 9 with (go_at_call 17; refine Hop.out.mono ?_; clear Hop; rintro e w5 ⟨J,G,D',S',rfl,hse,htx⟩; have Hse:=Lib.hid hse; have Htx:=Lib.hid htx; clear hse htx)
       clear fk f1 fB
       have Hlow5:Hid (Below w2.heap.size w2 w5):=HB3.out.trans (Hse.out.sd.low.mono HB3.out.size)
       go_wp2_with (first
        | (go_at_call 19; refine (be_texts Hse.out HLm.out Hm16.out Hib.out).mono ?_; rintro e w6 ⟨g6,rfl,ht6,hb6⟩; have Ht6:=Lib.hid ht6; have Hb6:=Lib.hid hb6; clear ht6 hb6)
        | (go_at_call 22; refine (same_yes HLm.out Hm16.out Ht6.out (Htx.out.later Hb6.out)).mono ?_; rintro e w7 ⟨rfl,hb7⟩; have Hb7:=Lib.hid (Hb6.out.trans (hb7.mono Hb6.out.size)); clear hb7)
        | (go_at_call 7; refine (Hwk.out w7 (Hlow5.out.trans (Hb7.out.mono Hlow5.out.size))).mono ?_; rintro e w8 ⟨rfl,hb8⟩; have Hb8:=Lib.hid (Hb7.out.trans (hb8.mono Hb7.out.size)); clear hb8))
       go_ret
       exact ⟨rfl,HB2.out.trans ((Hlow5.out.trans (Hb8.out.mono Hlow5.out.size)).mono HB2.out.size)⟩
end Go.Proofs.YteeghgjkjicjoaaGreatDoor.Sgm
