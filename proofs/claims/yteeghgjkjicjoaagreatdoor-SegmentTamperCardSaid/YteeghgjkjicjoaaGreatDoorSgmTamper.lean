import Derived.Test.YteeghgjkjicjoaaGreatDoorSgmTmB
import Derived.Test.YteeghgjkjicjoaaGreatDoorC36
import Derived.Test.YteeghgjkjicjoaaGreatDoorC37
import Derived.Test.YteeghgjkjicjoaaGreatDoorSgmTmS
set_option maxRecDepth 100000
set_option maxHeartbeats 16000000
namespace Go.Proofs.YteeghgjkjicjoaaGreatDoor.Sgm
open Go.RowKit Dsk Slt Epo Seal
attribute [local go_sem ↓ high] loadAtH loadAtB loadAtW
theorem tamper_walk (A:Option Addr) (k c:Nat) (ts:List (List Int)) (A2:Option Addr) (c2:Nat) (xs:List Ac) (s:ByteArray) (lv:Int) (cp sc:Nat) (hcp:cp < 18446744073709551616) (hsc:sc < 256) (hss:s.size <= 9223372036854775807) (w:World) (hL:Seal.SLaid w) (hT:TxAt w A ts) (hkn:ts.length = k) (hk9:k <= 9223372036854775807) (hlen:∀ t ∈ ts,t.length <= 9223372036854775807) (hX:Acts w A2 c2 xs) (hXo:∀ x ∈ xs,x.Ok /\ Byt w x.A x.cap x.L) (hx9:xs.length <= 9223372036854775807) :
 Calls Tryz.prog 4 #[.slice A k c,.slice A2 xs.length c2,.agg #[.string s,.int .i64 lv,.int .u64 (cp:Nat),.int .u8 (sc:Nat)]] w fun e w' => e = .returned (.bool true) /\ Below w.heap.size w w':=by
 obtain ⟨w2,hw2⟩:∃ w2,w2 = w.alloc (.cells #[.string s,.int .i64 lv,.int .u64 (cp:Nat),.int .u8 (sc:Nat)] 29):=⟨_,rfl⟩
 have hb2:Below w.heap.size w w2:=by rw [hw2]; exact (Below.refl _ _).alloc (Nat.le_refl _) _
 have hsz2:w2.heap.size = w.heap.size + 1:=by rw [hw2,World.size_alloc]
 have hrow2:w2.heap[w.heap.size]? = some (.cells #[.string s,.int .i64 lv,.int .u64 (cp:Nat),.int .u8 (sc:Nat)] 29 (0,0)):=by rw [hw2]; exact Go.heap_alloc_new w _
 have HB2:=lhd hb2
 have HT2:Hid (TxAt w2 A ts):=hT.later hb2
 have HL2:=lhd (hL.later hb2)
 have HX2:Hid (Acts w2 A2 c2 xs /\ ∀ x ∈ xs,x.Ok /\ Byt w2 x.A x.cap x.L):=⟨hX.below hb2 (Nat.le_refl _),fun x hx => ⟨(hXo x hx).1,(hXo x hx).2.below hb2 (Nat.le_refl _)⟩⟩
 have Hkn:=lhd hkn
 have Hw2:=lhd hw2
 have Hlen:=lhd hlen
 have Hsc:Hid (sc < 256):=hsc
 have Hcp:Hid (cp < 18446744073709551616):=hcp
 have Hrow2:=lhd hrow2
 have Hsz2:=lhd hsz2
 obtain ⟨N,hN⟩:∃ N,N = xs.length:=⟨_,rfl⟩
 have HN:=lhd hN
 rw [<- hN] at hx9 ⊢
 have Hwk:Hid (∀ W,Below w2.heap.size w2 W -> Calls Tryz.prog 7 #[] W fun e w' => e = .returned (.bool true) /\ Below W.heap.size W w'):=fun W hW => works_any W (HL2.out.later hW)
 have f0:w2.cell? ⟨w.heap.size,0,none⟩ = some (.string s):=by rw [cell_row hrow2]; rfl
 clear hL hT hkn hlen hb2 hsz2 hw2 hcp hsc hX hXo hrow2 hN
 by_cases hs4:40 < s.size
 . have hI:(40:Int) < (s.size:Int):=by omega
   go_enter Tryz.func4,Tryz.ntmps4
   go_upto_region 1 with (fail)
   rw [<- Hw2.out]
   go_wp2_with (go_at_call 7; refine (Hwk.out w2 (Below.refl _ _)).mono ?_; rintro e w3 ⟨rfl,hb3⟩; have Hb3:=lhd hb3; clear hb3)
   go_ret
   exact ⟨rfl,HB2.out.trans (Hb3.out.mono HB2.out.size)⟩
 . have hI:¬ (40:Int) < (s.size:Int):=by omega
   have Hs40:Hid (s.size <= 40):=by show _ <= _; omega
   have Hinf:Hid ((Tryz.prog.info? 24).map (·.size) = some (u8s kSeven).size):=by show _ = _; rw [u8s_size]; exact Seal.infoH
   clear hs4
   go_enter Tryz.func4,Tryz.ntmps4
   go_upto_region 1 with (fail)
   rw [<- Hw2.out]
   go_upto_region 4 with (refine wpList_store_row rfl 24 (.tmp 7) (.tmp 22) rfl w2.heap.size (u8s kSeven) rfl (by rw [key_lit7]; rfl) 24 _ (Go.heap_alloc_new w2 _) Hinf.out rfl (u8s_one _) ?_; rw [World.setRow_alloc_new])
   obtain ⟨w3,hw3⟩:∃ w3,w3 = w2.alloc (.cells (u8s kSeven) 24):=⟨_,rfl⟩
   rw [<- hw3]
   have hb3:Below w2.heap.size w2 w3:=by rw [hw3]; exact (Below.refl _ _).alloc (Nat.le_refl _) _
   have hbx:Bx w3 w2.heap.size w.heap.size kSeven s lv cp sc:=by
    refine ⟨by rw [hw3]; exact Go.heap_alloc_new w2 _,(hb3.block _ (by have:=Hsz2.out; omega)).trans Hrow2.out⟩
   have hsz3:w3.heap.size = w2.heap.size + 1:=by rw [hw3,World.size_alloc]
   have HB3:=lhd hb3
   have Hlt3:Hid (w2.heap.size < w3.heap.size /\ w.heap.size < w3.heap.size):=⟨by omega,by have:=Hsz2.out; omega⟩
   have Hbx:=lhd hbx
   have Hfac:Hid (∀ W,Below w3.heap.size w3 W -> (loadH (.pointer (some ⟨w2.heap.size,0,none⟩))).run Tryz.prog W = .ok (.agg (u8s kSeven)) W /\ W.cell? ⟨w.heap.size,0,none⟩ = some (.string s) /\ (loadB (.pointer (some ⟨w.heap.size,1,none⟩))).run Tryz.prog W = .ok (.agg #[.int .i64 lv,.int .u64 (cp:Nat)]) W /\ (loadW (.pointer (some ⟨w.heap.size,0,none⟩))).run Tryz.prog W = .ok (.agg #[.string s,.int .i64 lv,.int .u64 (cp:Nat),.int .u8 (sc:Nat)]) W):=fun W hW => by
    obtain ⟨a1,a2,a3,_,a5⟩:=(Hbx.out.below hW Hlt3.out.1 Hlt3.out.2).facts rfl
    exact ⟨a1,a2,a3,a5⟩
   have Hf1:=lhd (filled_any A k c ts kSeven s lv cp sc rfl kSeven_in Hsc.out (by have:=Hs40.out; omega) w3 (HL2.out.later hb3) (HT2.out.later hb3) Hkn.out hk9 Hlen.out)
   obtain ⟨n,hn⟩:∃ n,n = 9 + sc % 64:=⟨_,rfl⟩
   have Hn9:Hid (9 <= n /\ n <= 72):=⟨by omega,by omega⟩
   rw [<- hn] at Hf1
   obtain ⟨fH,f0',fB,fW⟩:=Hfac.out w3 (Below.refl _ _)
   clear hn hb3 hbx hsz3 hw3 f0 Hbx Hrow2
   go_upto_region 5 with (go_at_call 12; refine Hf1.out.mono ?_; clear Hf1; rintro e w4 ⟨K,D0,S0,D,S,V,g,m,B,rfl,hm1,hr1,hk1,hB1,hsd1,hf01,hfl1⟩; have Hm1:=lhd hm1; have Hr1:=lhd hr1; have Hsd1:=lhd hsd1; have Hfl1:=lhd hfl1; have HkB:=lhd hk1; clear hm1 hr1 hk1 hB1 hsd1 hf01 hfl1)
   clear fH f0' fB fW
   obtain ⟨R,hR⟩:=Hfl1.out.good
   have hdg:DG D kSeven (ctxL s lv cp) 1 R:=by
    have h:=hR.dg
    rw [Hfl1.out.ep,Hfl1.out.kc.1,Hfl1.out.kc.2] at h
    exact h
   have hVT:V.T = R.map (·.1):=hR.T
   have htd:TD w3 w4 K D n:=⟨Hsd1.out,Hfl1.out.secs,hR.off,Hfl1.out.calm,by
    have h1:=Hfl1.out.wr
    have h2:(cutT ts).length <= 10:=by rw [cutT_len]; omega
    omega⟩
   obtain ⟨cs0,Rr0,e0,hr0⟩:=reads_all _ (logL D) (Nat.le_refl _)
   obtain ⟨he0,hcs0,_⟩:=opn_none (k2:=kSeven) (C2:=ctxL s lv cp) hdg hR.off hr0
   subst he0
   have hops:opensL kSeven (ctxL s lv cp) 1 0 1 (cs0.map textC) = some (R.map (·.1)):=by rw [hcs0]; exact opens_seals _ _ 1 (by decide) R 0 1 hdg.ris
   have hm:(R.map (·.1)).length = m:=by rw [<- hVT]; exact Hm1.out
   have hm16:m <= 10:=by
    have h1:=Hfl1.out.tn
    have h2:(cutT ts).length <= 10:=by rw [cutT_len]; omega
    rw [Hm1.out] at h1
    omega
   have hw128:=htd.sd.dsk.ok.whole128
   have hsecs:=htd.secs
   have Hok:Hid (D.Ok /\ 9 <= D.secs /\ 0 < D.data.length /\ D.data.length = n * 128 /\ D.secs = n):=⟨htd.sd.dsk.ok,by have:=Hn9.out; omega,by have:=Hn9.out; omega,by rw [hw128,hsecs],hsecs⟩
   have Htd:=lhd htd
   have Hops:=lhd hops
   have Hm16:=lhd hm16
   have Hm:=lhd hm
   have Hib:=lhd (ris_in R 1 hdg.ris)
   have Hrows:Hid (Slt.Rows B (R.map (·.1)) m m g w4):=by have h:=Hr1.out; rw [hVT] at h; exact h
   have Hr0:Hid (Reads ((D.data.drop (8 * 128)).take ((D.secs - 8) * 128)) cs0 Rr0 false):=hr0
   clear hR hdg hVT htd hr0 hcs0 hops hm hm16 hw128 hsecs Hr1 Hm1 Hfl1 Hsd1
   go_upto_region 9 with (fail)
   refine (sectors_count Htd.out.sd.dsk).mono ?_
   rintro e w' ⟨rfl,rfl⟩
   rw [Hok.out.2.2.2.2]
   have hn72:n <= 72:=Hn9.out.2
   go_upto_region 9 with (fail)
   refine (bytes_bsl Htd.out.sd.dsk Hok.out.2.2.1).mono ?_
   rintro e w5 ⟨v5,rfl,hv5,hb5⟩
   obtain ⟨g5,c5,rfl,hB5⟩:=hv5
   have Htd5:=lhd (Htd.out.later hb5)
   have Hrows5:=lhd (Hrows.out.chg (Chg.of_below (S:=[]) hb5) (fun q hq => by cases hq))
   have HB5:=lhd hB5
   have hkl:Hid (∀ q ∈ K.bl,q < w5.heap.size):=fun q hq => Nat.lt_of_lt_of_le (Htd.out.sd.kl q hq) hb5.size
   clear hb5 hB5
   go_upto_region 9 with (fail)
   refine (slots_of2 Hok.out.1 Hok.out.2.1 g5 D.data.length c5 rfl HB5.out Hr0.out).mono ?_
   rintro e w6 ⟨hs6,hb6⟩
   rcases hs6 with ⟨h,_⟩ | ⟨_,A6,c6,rfl,htx6⟩
   . cases h
   have Htd6:=lhd (Htd5.out.later hb6)
   have Hrows6:=lhd (Hrows5.out.chg (Chg.of_below (S:=[]) hb6) (fun q hq => by cases hq))
   have Htx6:=lhd htx6
   clear hb6 htx6
   have Hst:Hid ((∃ D',TD w3 w6 K D' n) /\ TxN w6 w5.heap.size A6 (cs0.map textC) /\ Slt.Rows B (R.map (·.1)) m m g w6):=⟨⟨D,Htd6.out⟩,Htx6.out,Hrows6.out⟩
   clear Htd5 Hrows5 Htd6 Hrows6 Htx6
   go_wp2
   go_loopw [12] (fun v wr => ∃ i:Nat,v = .int .i64 i /\ i <= N /\ i <= 8 /\ Hid ((∃ D',TD w3 wr K D' n) /\ TxN wr w5.heap.size A6 (cs0.map textC) /\ Slt.Rows B (R.map (·.1)) m m g wr)) (fun v _ => 8 - (intOf v).toNat)
   case atStart => exact ⟨0,rfl,Nat.zero_le _,Nat.zero_le _,Hst⟩
   case round =>
    obtain ⟨i,rfl,hiN,hi8,HI⟩:=hrel
    clear Hst
    by_cases hlt:i < N /\ i < 8
    . obtain ⟨hlN,hl8⟩:=hlt
      have hI1:(i:Int) < (N:Int):=by omega
      have hI2:(i:Int) < 8:=by omega
      obtain ⟨⟨D',htd'⟩,htx',hro'⟩:=HI.out
      obtain ⟨xx,hxx⟩:∃ xx,xs[i]? = some xx:=⟨_,List.getElem?_eq_getElem (by rw [<- HN.out]; exact hlN)⟩
      obtain ⟨hXok,hXB⟩:=HX2.out.2 xx (List.mem_of_getElem? hxx)
      obtain ⟨bA,oA,rfl,hbA,hcA⟩:=HX2.out.1.2.2 (by rw [<- HN.out]; omega)
      have hrng:=hcA i xx hxx
      have hlow2:Below w2.heap.size w2 wr:=HB3.out.trans (htd'.sd.low.mono HB3.out.size)
      have cT:wr.cell? ⟨bA,oA + i * 20 + 1,none⟩ = some (.slice xx.A xx.L.length xx.cap):=(hlow2.cell (p:=⟨bA,oA + i * 20 + 1,none⟩) hbA).trans (hrng 1 _ rfl)
      have cA:wr.cell? ⟨bA,oA + i * 20 + 19,none⟩ = some (.int .u32 xx.at_):=(hlow2.cell (p:=⟨bA,oA + i * 20 + 19,none⟩) hbA).trans (hrng 19 _ (by
       show (Value.int .u8 xx.what :: Value.slice xx.A xx.L.length xx.cap :: Value.int .u8 xx.whole :: (vals xx.mask ++ [Value.int .u32 xx.at_]))[19]? = _
       simp only [List.getElem?_cons_succ]
       rw [List.getElem?_append_right (by rw [vals_length,hXok.mlen]; decide),vals_length,hXok.mlen]
       rfl))
      have hn9:=Hn9.out
      obtain ⟨kk,hkk⟩:∃ kk:Nat,(kk:Int) = xx.at_ % (128 * (n:Int)):=by
       have h0:=Int.emod_nonneg xx.at_ (show (128 * (n:Int)) ≠ 0 by omega)
       exact ⟨(xx.at_ % (128 * (n:Int))).toNat,by omega⟩
      have hkl2:(kk:Int) < 128 * (n:Int):=by rw [hkk]; exact Int.emod_lt_of_pos _ (by omega)
      have hat0:=hXok.at_
      have hq:xx.at_.tmod (128 * (n:Int)) = (kk:Int):=by rw [Int.tmod_eq_emod_of_nonneg hat0.1,hkk]
      have hqe:xx.at_ % (128 * (n:Int)) = (kk:Int):=hkk.symm
      have hwr:IntKind.i64.wrap (kk:Int) = (kk:Int):=by rw [IntKind.wrap_i64]; omega
      obtain ⟨mm,hmm⟩:∃ mm,mm = min xx.L.length (128 * n - kk):=⟨_,rfl⟩
      have hlen9:xx.L.length <= 9223372036854775807:=by have:=hXok.len; unfold maxLen at this; omega
      have hmin:min (xx.L.length:Int) (128 * (n:Int) - (kk:Int)) = (mm:Int):=by omega
      have hmin2:(if (128 * (n:Int) - (kk:Int)) < (xx.L.length:Int) then 128 * (n:Int) - (kk:Int) else (xx.L.length:Int)) = (mm:Int):=by split <;> omega
      have hw2':IntKind.i64.wrap (128 * (n:Int) - (kk:Int)) = 128 * (n:Int) - (kk:Int):=by rw [IntKind.wrap_i64]; omega
      have hmc:(mm:Int) <= (xx.cap:Int):=by have:=hXB.1; omega
      have hfit:kk + mm <= n * 128:=by omega
      have hBm:Byt wr xx.A xx.cap (xx.L.take mm):=byt_take (hXB.below hlow2 (Nat.le_refl _)) mm
      have HBm:=lhd hBm
      have HXin:Hid (InB (xx.L.take mm) /\ (xx.L.take mm).length = mm):=⟨hXok.inb.take mm,by rw [List.length_take]; omega⟩
      have Htd':=lhd htd'
      have Htx':=lhd htx'
      have Hro':=lhd hro'
      have Hfit:=lhd hfit
      have hcapl:xx.L.length <= xx.cap:=hXB.1
      obtain ⟨⟨xw,xA,xc,xL,xwh,xm,xat⟩,rfl⟩:∃ y,y = xx:=⟨_,rfl⟩
      dsimp only at cT cA hat0 hq hqe hmin hmin2 hmc hlen9 hcapl HBm HXin
      obtain ⟨q,hq9⟩:∃ q,q = xL.length:=⟨_,rfl⟩
      rw [<- hq9] at cT hmin hmin2 hlen9 hcapl
      clear hxx hXok hXB hcA hrng hlow2 hkk hmm htd' htx' hro' hBm HI hfit hq9
      go_wp2_with fail
      refine (td_put Htd'.out kk mm Hfit.out xA xc (xL.take mm) HXin.out.2 HXin.out.1 HBm.out).mono ?_
      rintro e w8 ⟨rfl,⟨D8,htd8⟩,hch⟩
      have H8:Hid ((∃ D',TD w3 w8 K D' n) /\ TxN w8 w5.heap.size A6 (cs0.map textC) /\ Slt.Rows B (R.map (·.1)) m m g w8):=⟨⟨D8,htd8⟩,Htx'.out.chg hch hkl.out,Hro'.out.chg hch HkB.out⟩
      clear htd8 hch cT cA
      go_wp2
      go_roundw
      case rel => exact ⟨i + 1,by go_num,by omega,by omega,H8⟩
      case measure => simp [intOf]; omega
    . obtain ⟨⟨D',htd'⟩,htx',hro'⟩:=HI.out
      obtain ⟨fH,f0',fB,_⟩:=Hfac.out wr htd'.sd.low
      have Hop:=lhd (td_open htd' Hn9.out.1 Hn9.out.2 (key:=kSeven) rfl kSeven_in s (by have:=Hs40.out; omega) lv cp)
      have Htx':=lhd htx'
      have Hro':=lhd hro'
      have hor:¬ (i:Int) < (N:Int) \/ ((i:Int) < (N:Int) /\ ¬ (i:Int) < 8):=by
       by_cases h:i < N
       . right; exact ⟨by omega,by omega⟩
       . left; omega
      clear hlt htd' htx' hro' HI
      rcases hor with hI1 | ⟨hI1,hI2⟩
      case' inl => (let q41:Value:=Value.bool false; let q42:Value:=Value.bool false; let q43:Value:=undef; let q44:Value:=undef; let q45:Value:=Value.bool false)
      case' inr => (let q41:Value:=Value.bool true; let q42:Value:=Value.bool true; let q43:Value:=Value.int IntKind.i64 ((i:Nat):Int); let q44:Value:=Value.bool false; let q45:Value:=Value.bool false)
      all_goals
       go_wp2_with fail
       refine Hop.out.mono ?_
       clear Hop fH f0' fB
       rintro e w9 ⟨D9,cs,Rr,eb,hsd9,hch9,hsec9,hrd9,hcase⟩
       have Hsd9:=lhd hsd9
       have Hsec9:=lhd hsec9
       have Hrd9:=lhd hrd9
       have Htx9:=lhd (Htx'.out.chg hch9 hkl.out)
       have Hro9:=lhd (Hro'.out.chg hch9 HkB.out)
       have Hlow9:Hid (Below w2.heap.size w2 w9):=HB3.out.trans (hsd9.low.mono HB3.out.size)
       clear hsd9 hch9 hsec9 hrd9 Htx' Hro'
       rcases hcase with rfl | ⟨J,G,S',v',T,least,m',rfl,rfl,hse,hopn,hcn⟩
       . go_wp2_with (go_at_call 7; refine (Hwk.out w9 Hlow9.out).mono ?_; rintro e w10 ⟨rfl,hb10⟩; have Hb10:=lhd hb10; clear hb10)
         go_ret
         exact ⟨rfl,HB2.out.trans ((Hlow9.out.trans (Hb10.out.mono Hlow9.out.size)).mono HB2.out.size)⟩
       . have hTl:T.length = cs.length:=by have h:=(opens_each _ _ _ _ hopn).1; rwa [List.length_map] at h
         have hT16:T.length <= 16384:=by omega
         have Hse:=lhd hse
         have Hopn:=lhd hopn
         have Hcn:Hid (cs.length <= 16384):=hcn
         have HTl:=lhd hTl
         have Hst:=lhd (se_texts hse hT16)
         have Hinb:=lhd (fun t ht => (hse.sg.inb t ht).1)
         clear hse hopn hcn hTl
         go_wp2_with fail
         refine Hst.out.mono ?_
         rintro e w10 ⟨g10,rfl,hr10,_,hb10⟩
         have Htx10:Hid (TxAt w10 (some ⟨g10,0,none⟩) T):=rows_tx hr10 Hinb.out
         have Htx9':Hid (TxN w10 w5.heap.size A6 (cs0.map textC)):=Htx9.out.chg (Chg.of_below (S:=[]) hb10) (fun q hq => by cases hq)
         have Hro10:Hid (TxAt w10 (some ⟨g,0,none⟩) (R.map (·.1))):=rows_tx (by rw [Hm.out]; exact Hro9.out.later hb10) Hib.out
         have Hlow10:Hid (Below w2.heap.size w2 w10):=Hlow9.out.trans (hb10.mono Hlow9.out.size)
         have Hsd10:=lhd (Hsd9.out.later hb10)
         clear hr10 hb10 Hst Htx9 Hro9 Hse Hsd9 Hlow9
         obtain ⟨tn,htn⟩:∃ tn,tn = T.length:=⟨_,rfl⟩
         have Htn:=lhd htn
         rw [<- htn] at hT16
         have Hbg:=lhd (begins_any (w:=w10) (some ⟨g10,0,none⟩) (some ⟨g,0,none⟩) tn m tn m T (R.map (·.1)) htn.symm Hm.out Htx10.out Hro10.out (Nat.le_refl _) (by omega) (by have:=Hm16.out; omega))
         dsimp only
         rw [<- htn]
         clear htn
         go_wp2_with fail
         refine Hbg.out.mono ?_
         clear Hbg
         rintro e w11 ⟨rfl,hb11⟩
         have Hlow11:Hid (Below w2.heap.size w2 w11):=Hlow10.out.trans (hb11.mono Hlow10.out.size)
         have Htx11:Hid (TxAt w11 A6 (cs0.map textC)):=(Htx9'.out.chg (Chg.of_below (S:=[]) hb11) (fun q hq => by cases hq)).tx
         have Hsd11:=lhd (Hsd10.out.later hb11)
         clear hb11 Htx9' Hsd10 Htx10 Hro10 Hlow10
         by_cases hbb:tn <= m /\ T = (R.map (·.1)).take tn
         . rw [decide_eq_true hbb]
           clear hbb
           go_wp2_with (go_at_call 7; refine (Hwk.out w11 Hlow11.out).mono ?_; rintro e w12 ⟨rfl,hb12⟩; have Hb12:=lhd hb12; clear hb12)
           go_ret
           exact ⟨rfl,HB2.out.trans ((Hlow11.out.trans (Hb12.out.mono Hlow11.out.size)).mono HB2.out.size)⟩
         . rw [decide_eq_false hbb]
           have HF:Hid (∃ i,i < (cs.map textC).length /\ ForgedAt kSeven (ctxL s lv cp) (cs.map textC) (cs0.map textC) i):=by
            refine Classical.byContradiction (fun hno => hbb ?_)
            have h:=opens_begin Hopn.out Hops.out hno
            rw [Hm.out,<- Htn.out] at h
            exact h
           have hw0:cs0.length = m:=by
            have h:=(opens_each _ _ _ _ Hops.out).1
            rw [Hm.out,List.length_map] at h
            exact h.symm
           have HW0:=lhd hw0
           have hd9:=Hsd11.out.dsk.ok
           have hs9:=Hsec9.out
           have hw9:=hd9.whole128
           have Hdok:Hid (D9.Ok /\ 9 <= D9.secs /\ 0 < D9.data.length):=⟨hd9,by have:=Hn9.out; omega,by have:=Hn9.out; omega⟩
           have H9:Hid (∀ t ∈ cs.map textC,t.length <= 9000):=reads_len Hrd9.out (by rw [List.length_take]; have:=Hn9.out; omega)
           have Hfacx:Hid (∀ W,Below w11.heap.size w11 W -> (loadH (.pointer (some ⟨w2.heap.size,0,none⟩))).run Tryz.prog W = .ok (.agg (u8s kSeven)) W /\ W.cell? ⟨w.heap.size,0,none⟩ = some (.string s) /\ (loadB (.pointer (some ⟨w.heap.size,1,none⟩))).run Tryz.prog W = .ok (.agg #[.int .i64 lv,.int .u64 (cp:Nat)]) W):=fun W hW => by
            obtain ⟨a1,a2,a3,_⟩:=Hfac.out W (Hsd11.out.low.trans (hW.mono Hsd11.out.low.size))
            exact ⟨a1,a2,a3⟩
           have Hwkx:Hid (∀ W,Below w11.heap.size w11 W -> Calls Tryz.prog 7 #[] W fun e w' => e = .returned (.bool true) /\ Below W.heap.size W w'):=fun W hW => Hwk.out W (Hlow11.out.trans (hW.mono Hlow11.out.size))
           have Hcl:Hid ((cs.map textC).length <= 1000000 /\ m <= 1000000 /\ (cs0.map textC).length = m):=⟨by rw [List.length_map]; have:=Hcn.out; omega,by have:=Hm16.out; omega,by rw [List.length_map]; exact hw0⟩
           obtain ⟨Tc,hTc⟩:∃ Tc,Tc = cs.map textC:=⟨_,rfl⟩
           have HTc:=lhd hTc
           rw [<- hTc] at HF H9 Hcl
           obtain ⟨W0,hW0⟩:∃ W0,W0 = cs0.map textC:=⟨_,rfl⟩
           rw [<- hW0] at HF Hcl Htx11
           rw [hw0]
           clear hbb hw0 hd9 hs9 hw9 hTc hW0
           go_upto_region 20 with (fail)
           have apx:apartB [99,100,101,102,103,104,105,106,107,108,109,110,111,112,6] = true:=by decide
           refine wp_region_any (by kernel_rfl) ?_
           change wpAny _ _ _ _ _ _ _ (World.drew _)
           refine wpAny_inv2 (fun ll aa wx => Hid (ll.size = 15 /\ Below w11.heap.size w11 wx) /\ ∃ (z:Nat -> Value),Hid (aa = ⟨#[Value.slice A k c,Value.slice A2 N c2,Value.agg #[Value.string s,Value.int IntKind.i64 lv,Value.int IntKind.u64 ((cp:Nat):Int),Value.int IntKind.u8 ((sc:Nat):Int)],undef,undef,Value.pointer (some { block:=w.heap.size,off:=0 }),z 6,Value.pointer (some { block:=w2.heap.size,off:=0 }),Value.pointer (some { block:=K.g,off:=0 }),Value.slice (some { block:=g,off:=0 }) m m,Value.int IntKind.i64 (128 * ((n:Nat):Int)),Value.slice A6 m c6,Value.int IntKind.i64 ((i:Nat):Int),u13,u14,Value.pointer (some { block:=G.g,off:=0 }),Value.int IntKind.i64 0,Value.pointer (some { block:=w.heap.size,off:=0 }),Value.string s,Value.int IntKind.i64 ((s.size:Nat):Int),Value.bool false,undef,Value.agg #[Value.int IntKind.u8 7,Value.int IntKind.u8 0,Value.int IntKind.u8 0,Value.int IntKind.u8 0,Value.int IntKind.u8 0,Value.int IntKind.u8 0,Value.int IntKind.u8 0,Value.int IntKind.u8 0,Value.int IntKind.u8 0,Value.int IntKind.u8 0,Value.int IntKind.u8 0,Value.int IntKind.u8 0,Value.int IntKind.u8 0,Value.int IntKind.u8 0,Value.int IntKind.u8 0,Value.int IntKind.u8 0,Value.int IntKind.u8 0,Value.int IntKind.u8 0,Value.int IntKind.u8 0,Value.int IntKind.u8 0,Value.int IntKind.u8 0,Value.int IntKind.u8 0,Value.int IntKind.u8 0,Value.int IntKind.u8 0,Value.int IntKind.u8 0,Value.int IntKind.u8 0,Value.int IntKind.u8 0,Value.int IntKind.u8 0,Value.int IntKind.u8 0,Value.int IntKind.u8 0,Value.int IntKind.u8 0,Value.int IntKind.u8 0],Value.tuple #[Value.pointer (some { block:=K.g,off:=0 }),Value.slice (some { block:=g,off:=0 }) m m],Value.slice A k c,Value.agg (u8s kSeven),Value.agg #[Value.string s,Value.int IntKind.i64 lv,Value.int IntKind.u64 ((cp:Nat):Int),Value.int IntKind.u8 ((sc:Nat):Int)],Value.tuple #[Value.pointer (some { block:=K.g,off:=0 }),Value.slice (some { block:=g,off:=0 }) m m],Value.pointer (some { block:=K.g,off:=0 }),Value.slice (some { block:=g,off:=0 }) m m,Value.pointer (some { block:=K.g,off:=0 }),Value.bool false,Value.pointer (some { block:=K.g,off:=0 }),Value.int IntKind.i64 ((n:Nat):Int),Value.int IntKind.i64 (128 * ((n:Nat):Int)),Value.pointer (some { block:=K.g,off:=0 }),Value.slice (some { block:=g5,off:=0 }) D.data.length c5,Value.slice A6 m c6,Value.int IntKind.i64 ((i:Nat):Int),Value.slice A2 N c2,Value.int IntKind.i64 ((N:Nat):Int),q41,q42,q43,q44,q45,u46,u47,u48,u49,u50,u51,u52,u53,u54,u55,u56,u57,u58,u59,u60,u61,u62,u63,u64,u65,u66,u67,u68,u69,u70,u71,u72,Value.tuple #[Value.pointer (some { block:=G.g,off:=0 }),Value.int IntKind.i64 0],Value.pointer (some { block:=K.g,off:=0 }),Value.agg (u8s kSeven),Value.pointer (some { block:=w.heap.size,off:=0 }),Value.string s,Value.pointer (some { block:=w.heap.size,off:=1 }),Value.agg #[Value.int IntKind.i64 lv,Value.int IntKind.u64 ((cp:Nat):Int)],Value.tuple #[Value.pointer (some { block:=G.g,off:=0 }),Value.int IntKind.i64 0],Value.pointer (some { block:=G.g,off:=0 }),Value.int IntKind.i64 0,Value.int IntKind.i64 0,Value.bool false,undef,undef,undef,undef,undef,Value.int IntKind.i64 0,Value.bool true,Value.bool true,Value.pointer (some { block:=G.g,off:=0 }),Value.slice (some { block:=g10,off:=0 }) tn tn,Value.slice (some { block:=g,off:=0 }) m m,Value.bool false,Value.bool true,Value.bool true,z 99,z 100,z 101,z 102,z 103,z 104,z 105,z 106,z 107,z 108,z 109,z 110,z 111,z 112,undef,undef,undef,undef,undef],[]⟩) /\ Holding [99,100,101,102,103,104,105,106,107,108,109,110,111,112,6] [some (.pointer (some ⟨K.g,0,none⟩)),none,none,some (.slice A6 m c6),some (.agg (u8s kSeven)),some (.pointer (some ⟨w.heap.size,0,none⟩)),some (.string s),some (.pointer (some ⟨w.heap.size,1,none⟩)),some (.agg #[.int .i64 lv,.int .u64 (cp:Nat)]),none,some (.bool true),some (.bool true),some (.bool true),some (.bool true),some (.bool true)] ll z /\ Whn ll 1 (BSl D9.data) (z 100) wx /\ Whn ll 2 (TxS Tc) (z 101) wx /\ Whn ll 9 (SlB (ctxL s lv cp)) (z 108) wx) ?_ (by kernel_rfl) ?_ ?_ _ rfl _ _ ?_
           . rintro ll aa wx ⟨hI,_⟩
             exact hI.out.1
           . rintro ll aa wx ⟨hI,z,ha,hz,hp1,hp2,hp9⟩ hall
             have hx:=lhd hI.out.2
             have e14:z 6 = .bool true:=hz 14 _ (hall 14 (by decide)) rfl
             have p1:=hp1.get (hall 1 (by decide))
             have p2:=hp2.get (hall 2 (by decide))
             have p9:=hp9.get (hall 9 (by decide))
             clear hall hz hI hp1 hp2 hp9
             obtain rfl:=ha.out
             clear ha
             clear apx
             have HX:=lhd hx.out
             rw [e14]
             clear e14 hx p1 p2 p9
             go_wp2
             go_ret
             exact ⟨rfl,HB2.out.trans ((Hlow11.out.trans (HX.out.mono Hlow11.out.size)).mono HB2.out.size)⟩
           . rintro ll aa wx i ⟨hI,z,ha,hz,hp1,hp2,hp9⟩ hcl hi hu hw
             obtain rfl:=ha.out
             have hsz:=lhd hI.out.1
             have hx:=lhd hI.out.2
             clear ha hI
             have hin:i < 15:=hi
             obtain rfl | rfl | rfl | rfl | rfl | rfl | rfl | rfl | rfl | rfl | rfl | rfl | rfl | rfl | rfl:i = 0 \/ i = 1 \/ i = 2 \/ i = 3 \/ i = 4 \/ i = 5 \/ i = 6 \/ i = 7 \/ i = 8 \/ i = 9 \/ i = 10 \/ i = 11 \/ i = 12 \/ i = 13 \/ i = 14:=by omega
             . refine wpOp_plain rfl rfl ?_
               go_simp
               exact ⟨⟨by simp [hsz.out],hx.out⟩,upd z 99 (.pointer (some ⟨K.g,0,none⟩)),(by unfold Hid; simp [upd]),hz.nx apx hsz.out 0,hp1.kp,hp2.kp,hp9.kp⟩
             . have e0:z 99 = .pointer (some ⟨K.g,0,none⟩):=hz 0 _ (hw 0 (by kernel_rfl)) rfl
               refine wpOp_plain rfl rfl ?_
               go_simp
               go_at_call 15
               refine (bytes_bsl (Hsd11.out.later hx.out).dsk Hdok.out.2.2).mono ?_
               rintro e w' ⟨vr,rfl,hbs,low⟩
               exact ⟨⟨by simp [hsz.out],hx.out.trans (low.mono hx.out.size)⟩,upd z 100 (vr),(by unfold Hid; simp [upd,e0]),hz.nn apx hsz.out 1,Whn.done (hbs),hp2.kp.map (fun h => h.later low),hp9.kp.map (fun h => h.later low)⟩
             . have p1:=hp1.get (hw 1 (by kernel_rfl))
               refine wpOp_plain rfl rfl ?_
               go_simp
               go_at_call 14
               refine (slots_txs Hdok.out p1 Hrd9.out HTc.out).mono ?_
               rintro e w' ⟨vr,rfl,hts,low⟩
               exact ⟨⟨by simp [hsz.out],hx.out.trans (low.mono hx.out.size)⟩,upd z 101 (vr),(by unfold Hid; simp [upd]),hz.nn apx hsz.out 2,hp1.kp.map (fun h => h.later low),Whn.done (hts),hp9.kp.map (fun h => h.later low)⟩
             . refine wpOp_plain rfl rfl ?_
               go_simp
               exact ⟨⟨by simp [hsz.out],hx.out⟩,upd z 102 (.slice A6 m c6),(by unfold Hid; simp [upd]),hz.nx apx hsz.out 3,hp1.kp,hp2.kp,hp9.kp⟩
             . have fx:=(Hfacx.out wx hx.out).1
               refine wpOp_plain rfl rfl ?_
               go_simp
               exact ⟨⟨by simp [hsz.out],hx.out⟩,upd z 103 (.agg (u8s kSeven)),(by unfold Hid; simp [upd]),hz.nx apx hsz.out 4,hp1.kp,hp2.kp,hp9.kp⟩
             . refine wpOp_plain rfl rfl ?_
               go_simp
               exact ⟨⟨by simp [hsz.out],hx.out⟩,upd z 104 (.pointer (some ⟨w.heap.size,0,none⟩)),(by unfold Hid; simp [upd]),hz.nx apx hsz.out 5,hp1.kp,hp2.kp,hp9.kp⟩
             . have e5:z 104 = .pointer (some ⟨w.heap.size,0,none⟩):=hz 5 _ (hw 5 (by kernel_rfl)) rfl
               have fx:=(Hfacx.out wx hx.out).2.1
               refine wpOp_plain rfl rfl ?_
               go_simp
               exact ⟨⟨by simp [hsz.out],hx.out⟩,upd z 105 (.string s),(by unfold Hid; simp [upd,e5]),hz.nx apx hsz.out 6,hp1.kp,hp2.kp,hp9.kp⟩
             . refine wpOp_plain rfl rfl ?_
               go_simp
               exact ⟨⟨by simp [hsz.out],hx.out⟩,upd z 106 (.pointer (some ⟨w.heap.size,1,none⟩)),(by unfold Hid; simp [upd]),hz.nx apx hsz.out 7,hp1.kp,hp2.kp,hp9.kp⟩
             . have e7:z 106 = .pointer (some ⟨w.heap.size,1,none⟩):=hz 7 _ (hw 7 (by kernel_rfl)) rfl
               have fx:=(Hfacx.out wx hx.out).2.2
               refine wpOp_plain rfl rfl ?_
               go_simp
               exact ⟨⟨by simp [hsz.out],hx.out⟩,upd z 107 (.agg #[.int .i64 lv,.int .u64 (cp:Nat)]),(by unfold Hid; simp [upd,e7]),hz.nx apx hsz.out 8,hp1.kp,hp2.kp,hp9.kp⟩
             . have e6:z 105 = .string s:=hz 6 _ (hw 6 (by kernel_rfl)) rfl
               have e8:z 107 = .agg #[.int .i64 lv,.int .u64 (cp:Nat)]:=hz 8 _ (hw 8 (by kernel_rfl)) rfl
               refine wpOp_plain rfl rfl ?_
               go_simp
               go_at_call 21
               refine (rcontext s lv cp (Nat.le_trans Hs40.out (by decide)) Hcp.out wx).mono ?_
               rintro e w' ⟨vr,rfl,hnb,low⟩
               exact ⟨⟨by simp [hsz.out],hx.out.trans (low.mono hx.out.size)⟩,upd z 108 (vr),(by unfold Hid; simp [upd,e6,e8]),hz.nn apx hsz.out 9,hp1.kp.map (fun h => h.later low),hp2.kp.map (fun h => h.later low),Whn.done (hnb.sl)⟩
             . have e3:z 102 = .slice A6 m c6:=hz 3 _ (hw 3 (by kernel_rfl)) rfl
               have e4:z 103 = .agg (u8s kSeven):=hz 4 _ (hw 4 (by kernel_rfl)) rfl
               have p2:=hp2.get (hw 2 (by kernel_rfl))
               have p9:=hp9.get (hw 9 (by kernel_rfl))
               refine wpOp_plain rfl rfl ?_
               go_simp
               go_at_call 20
               refine (forged_tm p2 (Htx11.out.later hx.out) Hcl.out.2.2 p9 HF.out H9.out Hcl.out.1 Hcl.out.2.1 rfl kSeven_in (ctxL_in s lv cp (Nat.le_trans Hs40.out (by decide))) (ctxL_len (Nat.le_trans Hs40.out (by decide)) lv cp)).mono ?_
               rintro e w' ⟨rfl,low⟩
               exact ⟨⟨by simp [hsz.out],hx.out.trans (low.mono hx.out.size)⟩,upd z 109 (.bool true),(by unfold Hid; simp [upd,e3,e4]),hz.nx apx hsz.out 10,hp1.kp.map (fun h => h.later low),hp2.kp.map (fun h => h.later low),hp9.kp.map (fun h => h.later low)⟩
             . have e10:z 109 = .bool true:=hz 10 _ (hw 10 (by kernel_rfl)) rfl
               refine wpOp_plain rfl rfl ?_
               go_simp
               exact ⟨⟨by simp [hsz.out],hx.out⟩,upd z 110 (.bool true),(by unfold Hid; simp [upd,e10]),hz.nx apx hsz.out 11,hp1.kp,hp2.kp,hp9.kp⟩
             . have e11:z 110 = .bool true:=hz 11 _ (hw 11 (by kernel_rfl)) rfl
               refine wpOp_want rfl (by simp [Region.wanted,yielded,e11]) ?_
               go_simp
               go_at_call 7
               refine (Hwkx.out wx hx.out).mono ?_
               rintro e w' ⟨rfl,low⟩
               exact ⟨⟨by simp [hsz.out],hx.out.trans (low.mono hx.out.size)⟩,upd z 111 (.bool true),(by unfold Hid; simp [upd,e11]),hz.nx apx hsz.out 12,hp1.kp.map (fun h => h.later low),hp2.kp.map (fun h => h.later low),hp9.kp.map (fun h => h.later low)⟩
             . have e11:z 110 = .bool true:=hz 11 _ (hw 11 (by kernel_rfl)) rfl
               have e12:z 111 = .bool true:=hz 12 _ (hw 12 (by kernel_rfl)) rfl
               refine wpOp_plain rfl rfl ?_
               go_simp
               exact ⟨⟨by simp [hsz.out],hx.out⟩,upd z 112 (.bool true),(by unfold Hid; simp [upd,e11,e12]),hz.nx apx hsz.out 13,hp1.kp,hp2.kp,hp9.kp⟩
             . have e13:z 112 = .bool true:=hz 13 _ (hw 13 (by kernel_rfl)) rfl
               refine wpOp_plain rfl rfl ?_
               go_simp
               exact ⟨⟨by simp [hsz.out],hx.out⟩,upd z 6 (.bool true),(by unfold Hid; simp [upd,e13]),hz.nx apx hsz.out 14,hp1.kp,hp2.kp,hp9.kp⟩
           . exact ⟨⟨rfl,(Below.refl _ _).drew⟩,fun xx => (#[Value.slice A k c,Value.slice A2 N c2,Value.agg #[Value.string s,Value.int IntKind.i64 lv,Value.int IntKind.u64 ((cp:Nat):Int),Value.int IntKind.u8 ((sc:Nat):Int)],undef,undef,Value.pointer (some { block:=w.heap.size,off:=0 }),u6,Value.pointer (some { block:=w2.heap.size,off:=0 }),Value.pointer (some { block:=K.g,off:=0 }),Value.slice (some { block:=g,off:=0 }) m m,Value.int IntKind.i64 (128 * ((n:Nat):Int)),Value.slice A6 m c6,Value.int IntKind.i64 ((i:Nat):Int),u13,u14,Value.pointer (some { block:=G.g,off:=0 }),Value.int IntKind.i64 0,Value.pointer (some { block:=w.heap.size,off:=0 }),Value.string s,Value.int IntKind.i64 ((s.size:Nat):Int),Value.bool false,undef,Value.agg #[Value.int IntKind.u8 7,Value.int IntKind.u8 0,Value.int IntKind.u8 0,Value.int IntKind.u8 0,Value.int IntKind.u8 0,Value.int IntKind.u8 0,Value.int IntKind.u8 0,Value.int IntKind.u8 0,Value.int IntKind.u8 0,Value.int IntKind.u8 0,Value.int IntKind.u8 0,Value.int IntKind.u8 0,Value.int IntKind.u8 0,Value.int IntKind.u8 0,Value.int IntKind.u8 0,Value.int IntKind.u8 0,Value.int IntKind.u8 0,Value.int IntKind.u8 0,Value.int IntKind.u8 0,Value.int IntKind.u8 0,Value.int IntKind.u8 0,Value.int IntKind.u8 0,Value.int IntKind.u8 0,Value.int IntKind.u8 0,Value.int IntKind.u8 0,Value.int IntKind.u8 0,Value.int IntKind.u8 0,Value.int IntKind.u8 0,Value.int IntKind.u8 0,Value.int IntKind.u8 0,Value.int IntKind.u8 0,Value.int IntKind.u8 0],Value.tuple #[Value.pointer (some { block:=K.g,off:=0 }),Value.slice (some { block:=g,off:=0 }) m m],Value.slice A k c,Value.agg (u8s kSeven),Value.agg #[Value.string s,Value.int IntKind.i64 lv,Value.int IntKind.u64 ((cp:Nat):Int),Value.int IntKind.u8 ((sc:Nat):Int)],Value.tuple #[Value.pointer (some { block:=K.g,off:=0 }),Value.slice (some { block:=g,off:=0 }) m m],Value.pointer (some { block:=K.g,off:=0 }),Value.slice (some { block:=g,off:=0 }) m m,Value.pointer (some { block:=K.g,off:=0 }),Value.bool false,Value.pointer (some { block:=K.g,off:=0 }),Value.int IntKind.i64 ((n:Nat):Int),Value.int IntKind.i64 (128 * ((n:Nat):Int)),Value.pointer (some { block:=K.g,off:=0 }),Value.slice (some { block:=g5,off:=0 }) D.data.length c5,Value.slice A6 m c6,Value.int IntKind.i64 ((i:Nat):Int),Value.slice A2 N c2,Value.int IntKind.i64 ((N:Nat):Int),q41,q42,q43,q44,q45,u46,u47,u48,u49,u50,u51,u52,u53,u54,u55,u56,u57,u58,u59,u60,u61,u62,u63,u64,u65,u66,u67,u68,u69,u70,u71,u72,Value.tuple #[Value.pointer (some { block:=G.g,off:=0 }),Value.int IntKind.i64 0],Value.pointer (some { block:=K.g,off:=0 }),Value.agg (u8s kSeven),Value.pointer (some { block:=w.heap.size,off:=0 }),Value.string s,Value.pointer (some { block:=w.heap.size,off:=1 }),Value.agg #[Value.int IntKind.i64 lv,Value.int IntKind.u64 ((cp:Nat):Int)],Value.tuple #[Value.pointer (some { block:=G.g,off:=0 }),Value.int IntKind.i64 0],Value.pointer (some { block:=G.g,off:=0 }),Value.int IntKind.i64 0,Value.int IntKind.i64 0,Value.bool false,undef,undef,undef,undef,undef,Value.int IntKind.i64 0,Value.bool true,Value.bool true,Value.pointer (some { block:=G.g,off:=0 }),Value.slice (some { block:=g10,off:=0 }) tn tn,Value.slice (some { block:=g,off:=0 }) m m,Value.bool false,Value.bool true,Value.bool true,undef,undef,undef,undef,undef,undef,undef,undef,undef,undef,undef,undef,undef,undef,undef,undef,undef,undef,undef]:Array Value).getD xx undef,rfl,Holding.start,Whn.none (by decide),Whn.none (by decide),Whn.none (by decide)⟩
end Go.Proofs.YteeghgjkjicjoaaGreatDoor.Sgm
