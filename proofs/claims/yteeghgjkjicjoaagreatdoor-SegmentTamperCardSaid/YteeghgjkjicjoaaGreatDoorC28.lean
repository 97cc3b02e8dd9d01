/- Texts of ours, merged. -/
import Derived.Test.YteeghgjkjicjoaaGreatDoorC27
set_option maxRecDepth 100000
set_option maxHeartbeats 16000000
namespace Go.Proofs.YteeghgjkjicjoaaGreatDoor
open Go.RowKit
theorem info64:(Tryz.prog.info? 25).map (fun i => (i.zero,i.size,i.bytes)) = some (some (.int .u64 0),1,8):=by kernel_rfl
theorem info32k:(Tryz.prog.info? 47).map (fun i => (i.zero,i.size,i.bytes)) = some (some (.int .u32 0),1,4):=by kernel_rfl
theorem info8k:(Tryz.prog.info? 5).map (fun i => (i.zero,i.size,i.bytes)) = some (some (.int .u8 0),1,1):=by kernel_rfl
theorem prN_at (k:Nat) (h:k < 312) (j:Nat) (hj:j < (prN k).length):2 <= (prN k).getD j 0 /\ (prN k).getD j 0 < 312:=by
 have hl:=prN_in_all ⟨k,h⟩
 have e:=prN_take k h
 have:(prN k).getD j 0 = PR.getD j 0:=by
  rw [e]
  simp only [List.getD_eq_getElem?_getD,List.getElem?_take,if_pos hj]
 rw [this]
 exact PR_in j (by simp only at hl; omega)
attribute [local irreducible] prN runP
theorem primes_any (m:Nat) (hm0:0 < m) (hm:m <= 64) (w:World) :
 Calls Tryz.prog 163 #[.int .i64 (m:Int)] w fun e w' => ∃ g cap,e = .returned (.slice (some ⟨g,0,none⟩) m cap) /\ w.heap.size <= g /\ RowK .u64 w' g (PR.take m) /\ Below w.heap.size w w':=by
 obtain ⟨i64,hi64,hz640,hz641,hz642⟩:=partsK info64
 have gi:=lhd hi64
 have gz0:=lhd hz640
 have gz1:=lhd hz641
 have gz2:=lhd hz642
 clear hi64 hz640 hz641 hz642
 go_enter Tryz.func163,Tryz.ntmps163
 go_wp2
 go_loopw [3,4] (fun v c wr => ∃ k:Nat,k <= 310 /\ c = .int .u64 ((k:Int) + 2) /\ Hid (wr.ownsRow w.heap.size 25 1 v (prN k).length (valsK .u64 (prN k)) /\ Below w.heap.size w wr /\ (prN k).length <= m)) (fun _ c _ => 400 - (intOf c).toNat)
 case atStart => exact ⟨0,by omega,rfl,by { have:=World.ownsRow_nil w w.heap.size 25 1; rw [prN_zero]; exact this },Below.refl _ _,by rw [prN_zero]; exact Nat.zero_le _⟩
 case round =>
  obtain ⟨k,hk,rfl,hr⟩:=hrel
  obtain ⟨A,cap,rfl⟩:=own_nilK hr.out.1
  obtain ⟨n,hn⟩:∃ n,(prN k).length = n:=⟨_,rfl⟩
  have Hn:=lhd hn
  have hnm:n <= m:=by rw [<- hn]; exact hr.out.2.2
  by_cases hlt:n < m
  . have hk2:k < 310:=prN_few k (by omega) (by omega)
    obtain ⟨c,hc⟩:∃ c,c = (k:Int) + 2:=⟨_,rfl⟩
    have c0:2 <= c:=by omega
    have c1:c < 400:=by omega
    have hltI:(n:Int) < m:=by omega
    have Hc:=lhd hc
    rw [<- hc]
    rw [hn]
    have own:Hid (wr.ownsRow w.heap.size 25 1 (.slice A n cap) n (valsK .u64 (prN k))):=by have h:=hr.out.1; rw [hn] at h; exact h
    have low:=lhd hr.out.2.1
    clear hc hr hn
    obtain ⟨wo,hwo⟩:∃ wo,wo = wr:=⟨_,rfl⟩
    subst hwo
    go_wp2
    go_loopw [5,6] (fun b i wx => ∃ (j:Nat) (t:Bool),j <= n /\ i = .int .i64 j /\ b = .bool t /\ Hid (∃ q,wx = wo.drewN q) /\ Hid (runP (prN k) c = if t = true then runP ((prN k).drop j) c else false)) (fun _ i _ => n - (intOf i).toNat)
    case atStart => exact ⟨0,true,by omega,rfl,rfl,⟨0,rfl⟩,by show _ = _; simp⟩
    case round =>
     obtain ⟨j,t,hj,rfl,rfl,hwx,hru⟩:=hrel
     obtain ⟨q0,hwq⟩:=hwx.out
     have Hwx:=lhd hwq
     clear hwx hwq
     cases t with
     | false =>
       have hstep:prN (k + 1) = prN k:=by
        rw [prN_step k (by omega),<- Hc.out,hru.out]; rfl
       have Hst:=lhd hstep
       have hcn:((k + 1:Nat):Int) + 2 = c + 1:=by rw [Hc.out]; omega
       have Hcn:=lhd hcn
       have fin:∀ q,((wo.drewN q).ownsRow w.heap.size 25 1 (.slice A n cap) (prN (k + 1)).length (valsK .u64 (prN (k + 1))) /\ Below w.heap.size w (wo.drewN q) /\ (prN (k + 1)).length <= m):=fun q => by
        rw [hstep,Hn.out]; exact ⟨own_stays own.out (Below.drewN (Below.refl _ _) q),Below.drewN low.out q,hnm⟩
       have Fin:=lhd fin
       clear hstep hcn fin
       by_cases hjn:j < n
       . have hjI:(j:Int) < n:=by omega
         go_wp2
         go_quiet (fail)
         go_wp2
         go_roundw
         case rel => exact ⟨k + 1,by omega,by rw [Hcn.out],by rw [Hwx.out,World.drewN_drewN]; exact Fin.out _⟩
         case measure => simp [intOf]; omega
       . have hjI:¬ (j:Int) < n:=by omega
         go_wp2
         go_quiet (fail)
         go_wp2
         go_roundw
         case rel => exact ⟨k + 1,by omega,by rw [Hcn.out],by rw [Hwx.out,World.drewN_drewN]; exact Fin.out _⟩
         case measure => simp [intOf]; omega
     | true =>
       by_cases hjn:j < n
       . obtain ⟨g,c2,hv,_,hg,hrow⟩:=own_rowK own.out Hn.out (by omega)
         injection hv with hA hn2 hc2
         subst hA hc2
         obtain ⟨x,hx⟩:∃ x,(prN k).getD j 0 = x:=⟨_,rfl⟩
         have hxr:=prN_at k (by omega) j (by rw [Hn.out]; exact hjn)
         rw [hx] at hxr
         obtain ⟨x0,x1⟩:=hxr
         have cell:wr.cell? ⟨g,j,none⟩ = some (.int .u64 x):=by rw [Hwx.out,<- hx]; exact hrow.2 j (by rw [Hn.out]; exact hjn)
         have hrs:=hru.out
         simp only [if_true] at hrs
         rw [runP_step j (by rw [Hn.out]; exact hjn),hx] at hrs
         have hjI:(j:Int) < n:=by omega
         have hxx0:0 <= x * x:=Int.mul_nonneg (by omega) (by omega)
         have hxx1:x * x < 100000:=by
          have h1:x * x <= 311 * x:=Int.mul_le_mul_of_nonneg_right (by omega) (by omega)
          omega
         have hxw:IntKind.u64.wrap (x * x) = x * x:=by rw [show IntKind.u64.wrap (x * x) = (x * x) % 18446744073709551616 by simp [IntKind.wrap,IntKind.bits,IntKind.signed]]; omega
         have Hrs:=lhd hrs
         have hmod0:0 <= c % x:=Int.emod_nonneg c (by omega)
         have hmod1:c % x < x:=Int.emod_lt_of_pos c (by omega)
         clear hx hrs hrow hg hru
         by_cases hsq:x * x <= c
         . by_cases hmod:c % x = 0
           . go_wp2
             go_quiet (fail)
             go_wp2
             go_roundw
             case rel => exact ⟨j + 1,false,by omega,by go_num,by simp,⟨q0 + nq,by rw [Hwx.out,World.drewN_drewN]⟩,by show _ = _; rw [Hrs.out,if_pos hsq,if_pos hmod]; simp⟩
             case measure => simp [intOf]; omega
           . go_wp2
             go_quiet (fail)
             go_wp2
             go_roundw
             case rel => exact ⟨j + 1,true,by omega,by go_num,by simp [hmod],⟨q0 + nq,by rw [Hwx.out,World.drewN_drewN]⟩,by show _ = _; rw [Hrs.out,if_pos hsq,if_neg hmod]; simp⟩
             case measure => simp [intOf]; omega
         . have hrt:runP (prN k) c = true:=by rw [Hrs.out,if_neg hsq]
           have hstep:prN (k + 1) = prN k ++ [c]:=by
            rw [prN_step k (by omega),<- Hc.out,hrt]; rfl
           have Hst:=lhd hstep
           have hcn:((k + 1:Nat):Int) + 2 = c + 1:=by rw [Hc.out]; omega
           have Hcn:=lhd hcn
           have own2:=fun q => own_stays own.out (Below.drewN (Below.refl wo.heap.size wo) q)
           have low2:=fun q => Below.drewN low.out q
           have Own2:=lhd own2
           have Low2:=lhd low2
           clear hstep hcn hrt own2 low2
           go_wp2
           go_quiet (fail)
           go_wp2_with (at_builtin; refine wpList_append_mine rfl (.tmp 43) (.tmp 45) 212 rfl w.heap.size 25 i64 (.int .u64 0) 8 Tryz.underlying212 gi.out gz0.out gz1.out gz2.out rfl (by decide) _ n (prN k) c rfl (by rw [Hwx.out,World.drewN_drewN]; exact Own2.out _) rfl (by omega) (by rw [Hwx.out,World.drewN_drewN]; exact (Low2.out _).size) ?_; intro v' w' hg; have Hg:=lhd hg; clear hg)
           go_roundw
           case rel => exact ⟨k + 1,by omega,by rw [Hcn.out],by rw [Hst.out,List.length_append,Hn.out]; exact ⟨Hg.out.own,Hg.out.low _ _ (by rw [Hwx.out,World.drewN_drewN]; exact Low2.out _) (Nat.le_refl _),by simp; omega⟩⟩
           case measure => simp [intOf]; omega
       . obtain rfl:n = j:=by omega
         have hrs:=hru.out
         simp only [if_true] at hrs
         rw [runP_end _ (by rw [Hn.out]; exact Nat.le_refl _)] at hrs
         have hrt:=hrs
         clear hrs hru
         have hstep:prN (k + 1) = prN k ++ [c]:=by
          rw [prN_step k (by omega),<- Hc.out,hrt]; rfl
         have Hst:=lhd hstep
         have hcn:((k + 1:Nat):Int) + 2 = c + 1:=by rw [Hc.out]; omega
         have Hcn:=lhd hcn
         have own2:=fun q => own_stays own.out (Below.drewN (Below.refl wo.heap.size wo) q)
         have low2:=fun q => Below.drewN low.out q
         have Own2:=lhd own2
         have Low2:=lhd low2
         clear hstep hcn hrt own2 low2
         go_wp2
         go_quiet (fail)
         go_wp2_with (at_builtin; refine wpList_append_mine rfl (.tmp 43) (.tmp 45) 212 rfl w.heap.size 25 i64 (.int .u64 0) 8 Tryz.underlying212 gi.out gz0.out gz1.out gz2.out rfl (by decide) _ n (prN k) c rfl (by rw [Hwx.out,World.drewN_drewN]; exact Own2.out _) rfl (by omega) (by rw [Hwx.out,World.drewN_drewN]; exact (Low2.out _).size) ?_; intro v' w' hg; have Hg:=lhd hg; clear hg)
         go_roundw
         case rel => exact ⟨k + 1,by omega,by rw [Hcn.out],by rw [Hst.out,List.length_append,Hn.out]; exact ⟨Hg.out.own,Hg.out.low _ _ (by rw [Hwx.out,World.drewN_drewN]; exact Low2.out _) (Nat.le_refl _),by simp; omega⟩⟩
         case measure => simp [intOf]; omega
  . have e:n = m:=by omega
    subst e
    have hrow:=hr.out.1
    have low:=hr.out.2.1
    obtain ⟨g,c2,hv,_,hg,hrw⟩:=own_rowK hrow rfl (by omega)
    rw [hn] at hv
    injection hv with hA hn2 hc2
    subst hA hc2
    rw [prN_take k (by omega),hn] at hrw
    rw [hn]
    have Hrw:=lhd hrw
    have Low:=lhd low
    have hltI:¬ (n:Int) < n:=by omega
    clear hrw low hrow hr hn Hn
    go_wp2
    go_ret
    exact ⟨g,⟨cap,rfl⟩,hg,Hrw.out,Low.out⟩
end Go.Proofs.YteeghgjkjicjoaaGreatDoor
namespace Go.Proofs.YteeghgjkjicjoaaGreatDoor
open Go.RowKit
theorem bits_or_comm (a b:Int):bits .or .u32 a b = bits .or .u32 b a:=by
 simp [bits,BitVec.or_comm]
theorem rotr_eq2 (x:Int) (n:Nat):bits .or .u32 (x / 2 ^ n) (x * 2 ^ (32 - n) % 4294967296) = rotr x n:=by
 rw [bits_or_comm]; unfold rotr; rfl
theorem rr_any (x:Int) (n:Nat) (h1:1 <= n) (h2:n <= 31) (w:World) :
 Calls Tryz.prog 169 #[.int .u32 x,.int .u64 (n:Int)] w fun e w' => e = .returned (.int .u32 (rotr x n)) /\ w' = w:=by
 have e1:IntKind.u64.wrap (32 - (n:Int)) = ((32 - n:Nat):Int):=by rw [show IntKind.u64.wrap (32 - (n:Int)) = (32 - (n:Int)) % 18446744073709551616 by simp [IntKind.wrap,IntKind.bits,IntKind.signed]]; omega
 have e2:(((32 - n:Nat):Int)).toNat = 32 - n:=by omega
 have b1:((32 - n:Nat):Int) <= 31:=by omega
 have b2:(0:Int) <= ((32 - n:Nat):Int):=by omega
 go_enter Tryz.func169,Tryz.ntmps169
 go_wp2
 go_ret
 exact ⟨ret_u32 (rotr_eq2 x n),rfl⟩
theorem rr_same (x n:Int) (h1:1 <= n) (h2:n <= 31) (w:World) :
 Calls Tryz.prog 169 #[.int .u32 x,.int .u64 n] w fun e w' => e = .returned (.int .u32 (rotr x n.toNat)) /\ w' = w:=by
 obtain ⟨m,rfl⟩:=Int.eq_ofNat_of_zero_le (show 0 <= n by omega)
 exact rr_any x m (by omega) (by omega) w
theorem rs3 (x:Int) (w:World):Calls Tryz.prog 173 #[.int .u32 x,.int .u64 3] w fun e w' => e = .returned (.int .u32 (x / 8)) /\ w' = w:=by
 go_enter Tryz.func173,Tryz.ntmps173
 go_wp2
 go_ret
 exact ⟨rfl,rfl⟩
theorem rs10 (x:Int) (w:World):Calls Tryz.prog 173 #[.int .u32 x,.int .u64 10] w fun e w' => e = .returned (.int .u32 (x / 1024)) /\ w' = w:=by
 go_enter Tryz.func173,Tryz.ntmps173
 go_wp2
 go_ret
 exact ⟨rfl,rfl⟩
def sh (n:Int):Int:=if n = 3 then 8 else 1024
theorem rs_same (x n:Int) (h:n = 3 \/ n = 10) (w:World):Calls Tryz.prog 173 #[.int .u32 x,.int .u64 n] w fun e w' => e = .returned (.int .u32 (x / sh n)) /\ w' = w:=by
 rcases h with rfl | rfl
 . exact rs3 x w
 . exact rs10 x w
theorem or_sum (n:Nat) (hi lo:Int) (b1:0 <= lo) (b2:lo < 4294967296) (b3:0 <= hi) (b4:hi < 4294967296) (h1:hi.toNat % 2 ^ n = 0) (h2:lo.toNat < 2 ^ n):bits .or .u32 hi lo = hi + lo:=by
 rw [u32_or hi lo b3 b4 b1 b2]
 have:hi.toNat ||| lo.toNat = hi.toNat + lo.toNat:=by
  have h3:hi.toNat = 2 ^ n * (hi.toNat / 2 ^ n):=by have:=Nat.div_add_mod hi.toNat (2 ^ n); omega
  rw [h3,<- Nat.two_pow_add_eq_or_of_lt h2]
 rw [this]
 omega
theorem word4_big (a b c d:Int) (ha:0 <= a /\ a < 256) (hb:0 <= b /\ b < 256) (hc:0 <= c /\ c < 256) (hd:0 <= d /\ d < 256):word4 a b c d = a * 16777216 + b * 65536 + c * 256 + d:=by
 unfold word4
 rw [or_sum 24 (a * 16777216) (b * 65536) (by omega) (by omega) (by omega) (by omega) (by omega) (by omega),or_sum 16 (a * 16777216 + b * 65536) (c * 256) (by omega) (by omega) (by omega) (by omega) (by omega) (by omega),or_sum 8 (a * 16777216 + b * 65536 + c * 256) d (by omega) (by omega) (by omega) (by omega) (by omega) (by omega)]
def accB (a b c d:Int):Nat -> Int
 | 0 => 0
 | 1 => a
 | 2 => 256 * a + b
 | 3 => 65536 * a + 256 * b + c
 | _ => 16777216 * a + 65536 * b + 256 * c + d
theorem sched_take (l:List Int) (j:Nat) (h:j < 64):(sched l).take j ++ [W l j] = (sched l).take (j + 1):=by
 rw [W_of_sched]; exact take_getD (by rw [sched_length]; exact h)
theorem rsched_any (l:List Int) (hb:InB l) (g off cap:Nat) (w:World) (hg:g < w.heap.size) (hc:∀ j,j < 64 -> w.cell? ⟨g,off + j,none⟩ = some (.int .u8 (l.getD j 0))) :
 Calls Tryz.prog 168 #[.slice (some ⟨g,off,none⟩) 64 cap] w fun e w' => ∃ g' c',e = .returned (.slice (some ⟨g',0,none⟩) 64 c') /\ w.heap.size <= g' /\ RowK .u32 w' g' (sched l) /\ Below w.heap.size w w':=by
 obtain ⟨i32,hi32,hz320,hz321,hz322⟩:=partsK info32k
 have gi:=lhd hi32
 have gz0:=lhd hz320
 have gz1:=lhd hz321
 have gz2:=lhd hz322
 have HC:=lhd hc
 have HB:=lhd hb
 clear hi32 hz320 hz321 hz322 hc hb
 go_enter Tryz.func168,Tryz.ntmps168
 go_wp2
 go_loopw [3,4] (fun v i wr => ∃ k:Nat,k <= 64 /\ i = .int .i64 k /\ Hid (wr.ownsRow w.heap.size 47 1 v k (valsK .u32 ((sched l).take k)) /\ Below w.heap.size w wr)) (fun _ i _ => 64 - (intOf i).toNat)
 case atStart => exact ⟨0,by omega,rfl,World.ownsRow_nil _ _ _ _,Below.refl _ _⟩
 case round =>
  obtain ⟨k,hk,rfl,hr⟩:=hrel
  by_cases hlt:k < 64
  . have hltI:(k:Int) < 64:=by omega
    by_cases h16:k < 16
    . have h16I:(k:Int) < 16:=by omega
      obtain ⟨a,ha⟩:∃ a,l.getD (4 * k) 0 = a:=⟨_,rfl⟩
      obtain ⟨b,hb⟩:∃ a,l.getD (4 * k + 1) 0 = a:=⟨_,rfl⟩
      obtain ⟨c,hc⟩:∃ a,l.getD (4 * k + 2) 0 = a:=⟨_,rfl⟩
      obtain ⟨d,hd⟩:∃ a,l.getD (4 * k + 3) 0 = a:=⟨_,rfl⟩
      have ra:=HB.out (4 * k)
      have rb:=HB.out (4 * k + 1)
      have rc:=HB.out (4 * k + 2)
      have rd:=HB.out (4 * k + 3)
      rw [ha] at ra
      rw [hb] at rb
      rw [hc] at rc
      rw [hd] at rd
      have hW:W l k = accB a b c d 4:=by
       rw [W_lt l k h16,ha,hb,hc,hd,word4_big a b c d ra rb rc rd]
       simp only [accB]; omega
      have cl:∀ j,j < 64 -> wr.cell? ⟨g,off + j,none⟩ = some (.int .u8 (l.getD j 0)):=fun j hj => (hr.out.2.cell (p:=⟨g,off + j,none⟩) hg).trans (HC.out j hj)
      have ca:=cl (4 * k) (by omega)
      have cb:=cl (4 * k + 1) (by omega)
      have cc:=cl (4 * k + 2) (by omega)
      have cd:=cl (4 * k + 3) (by omega)
      rw [ha] at ca
      rw [hb] at cb
      rw [hc] at cc
      rw [hd] at cd
      have hmore:=sched_take l k hlt
      rw [hW] at hmore
      have Ca:=lhd ca
      have Cb:=lhd cb
      have Cc:=lhd cc
      have Cd:=lhd cd
      have Ra:=lhd ra
      have Rb:=lhd rb
      have Rc:=lhd rc
      have Rd:=lhd rd
      have Hmore:=lhd hmore
      have t0:(4 * (k:Int)).toNat = 4 * k:=by omega
      have t1:(4 * (k:Int) + 1).toNat = 4 * k + 1:=by omega
      have t2:(4 * (k:Int) + 2).toNat = 4 * k + 2:=by omega
      have t3:(4 * (k:Int) + 3).toNat = 4 * k + 3:=by omega
      have l0:(4 * (k:Int)) < 64:=by omega
      have l1:(4 * (k:Int) + 1) < 64:=by omega
      have l2:(4 * (k:Int) + 2) < 64:=by omega
      have l3:(4 * (k:Int) + 3) < 64:=by omega
      clear ha hb hc hd ra rb rc rd hW cl ca cb cc cd hmore
      obtain ⟨wo,hwo⟩:∃ wo,wo = wr:=⟨_,rfl⟩
      subst hwo
      go_wp2
      go_loopw [5,6] (fun n i wx => ∃ j:Nat,j <= 4 /\ i = .int .i64 (4 * (k:Int) + (j:Int)) /\ n = .int .u32 (accB a b c d j) /\ Hid (wx = wo)) (fun _ i _ => (4 * (k:Int) + 4 - intOf i).toNat)
      case atStart => exact ⟨0,by omega,by simp,rfl,rfl⟩
      case round =>
       obtain ⟨j,hj,rfl,rfl,hwx⟩:=hrel
       have hw0:=hwx.out
       subst hw0
       obtain rfl | rfl | rfl | rfl | rfl:j = 0 \/ j = 1 \/ j = 2 \/ j = 3 \/ j = 4:=by omega
       . have cell:=Ca.out
         go_wp2
         go_roundw
         case rel => exact ⟨1,by omega,by go_num,congrArg (Value.int .u32) (by { have:=Ra.out; have:=Rb.out; have:=Rc.out; have:=Rd.out; simp only [accB]; omega }),lhd trivial⟩
         case measure => simp [intOf]; omega
       . have cell:=Cb.out
         go_wp2
         go_roundw
         case rel => exact ⟨2,by omega,by go_num,congrArg (Value.int .u32) (by { have:=Ra.out; have:=Rb.out; have:=Rc.out; have:=Rd.out; simp only [accB]; omega }),lhd trivial⟩
         case measure => simp [intOf]; omega
       . have cell:=Cc.out
         go_wp2
         go_roundw
         case rel => exact ⟨3,by omega,by go_num,congrArg (Value.int .u32) (by { have:=Ra.out; have:=Rb.out; have:=Rc.out; have:=Rd.out; simp only [accB]; omega }),lhd trivial⟩
         case measure => simp [intOf]; omega
       . have cell:=Cd.out
         go_wp2
         go_roundw
         case rel => exact ⟨4,by omega,by go_num,congrArg (Value.int .u32) (by { have:=Ra.out; have:=Rb.out; have:=Rc.out; have:=Rd.out; simp only [accB]; omega }),lhd trivial⟩
         case measure => simp [intOf]; omega
       . obtain ⟨y,hy⟩:∃ y,y = accB a b c d 4:=⟨_,rfl⟩
         rw [<- hy]
         have Hy:=lhd hy
         clear hy Ra Rb Rc Rd Ca Cb Cc Cd
         go_wp2_with (at_builtin; refine wpList_append_mine rfl (.tmp 33) (.tmp 35) 182 rfl w.heap.size 47 i32 (.int .u32 0) 4 Tryz.underlying182 gi.out gz0.out gz1.out gz2.out rfl (by decide) _ k ((sched l).take k) y rfl hr.out.1 rfl (by omega) hr.out.2.size ?_; intro v' w' hgr; have Hgr:=lhd hgr; clear hgr)
         go_roundw
         case rel => exact ⟨k + 1,by omega,by go_num,by rw [<- Hmore.out,<- Hy.out]; exact ⟨Hgr.out.own,Hgr.out.low _ _ hr.out.2 (Nat.le_refl _)⟩⟩
         case measure => simp [intOf]; omega
    . have h16I:¬ (k:Int) < 16:=by omega
      obtain ⟨g2,c2,rfl,_,hg2,hrow⟩:=own_rowK hr.out.1 (by rw [List.length_take,sched_length]; omega) (by omega)
      have cl:∀ j,j < k -> wr.cell? ⟨g2,j,none⟩ = some (.int .u32 (W l j)):=fun j hj => by
       rw [hrow.2 j (by rw [List.length_take,sched_length]; omega),W_of_sched]
       simp [List.getD_eq_getElem?_getD,hj]
      obtain ⟨x,hx⟩:∃ x,W l (k - 15) = x:=⟨_,rfl⟩
      obtain ⟨y,hy⟩:∃ x,W l (k - 2) = x:=⟨_,rfl⟩
      obtain ⟨p,hp⟩:∃ x,W l (k - 16) = x:=⟨_,rfl⟩
      obtain ⟨q,hq⟩:∃ x,W l (k - 7) = x:=⟨_,rfl⟩
      have c15:=cl (k - 15) (by omega)
      have c2':=cl (k - 2) (by omega)
      have c16:=cl (k - 16) (by omega)
      have c7:=cl (k - 7) (by omega)
      rw [hx] at c15
      rw [hy] at c2'
      rw [hp] at c16
      rw [hq] at c7
      have hW:W l k = (p + s0 x + q + s1 y) % 4294967296:=by
       rw [W_ge l k (by omega) hlt]; unfold nextW; rw [hx,hy,hp,hq]
      have hmore:=sched_take l k hlt
      rw [hW] at hmore
      have Hmore:=lhd hmore
      have i15:(0:Int) <= (k:Int) - 15:=by omega
      have i2:(0:Int) <= (k:Int) - 2:=by omega
      have i16:(0:Int) <= (k:Int) - 16:=by omega
      have i7:(0:Int) <= (k:Int) - 7:=by omega
      have t15:((k:Int) - 15).toNat = k - 15:=by omega
      have t2:((k:Int) - 2).toNat = k - 2:=by omega
      have t16:((k:Int) - 16).toNat = k - 16:=by omega
      have t7:((k:Int) - 7).toNat = k - 7:=by omega
      have b15:(k:Int) - 15 < k:=by omega
      have b2:(k:Int) - 2 < k:=by omega
      have b16:(k:Int) - 16 < k:=by omega
      have b7:(k:Int) - 7 < k:=by omega
      clear hx hy hp hq hW hmore cl hrow
      go_wp2
      go_quiet (first | (go_at_call 169; exact Calls.quiet_of_same (rr_same _ _ (by decide) (by decide) _)) | (go_at_call 173; exact Calls.quiet_of_same (rs_same _ _ (by decide) _)))
      go_wp2_with (at_builtin; refine wpList_append_mine rfl (.tmp 76) (.tmp 78) 182 rfl w.heap.size 47 i32 (.int .u32 0) 4 Tryz.underlying182 gi.out gz0.out gz1.out gz2.out rfl (by decide) _ k ((sched l).take k) _ rfl (own_stays hr.out.1 (Below.drewN (Below.refl _ _) nq)) rfl (by omega) (Below.drewN hr.out.2 nq).size ?_; intro v' w' hgr; have Hgr:=lhd hgr; clear hgr)
      go_roundw
      case rel => exact ⟨k + 1,by omega,by go_num,by rw [<- Hmore.out]; exact ⟨Hgr.out.own,Hgr.out.low _ _ (Below.drewN hr.out.2 nq) (Nat.le_refl _)⟩⟩
      case measure => simp [intOf]; omega
  . obtain rfl:k = 64:=by omega
    have own:=hr.out.1
    rw [List.take_of_length_le (Nat.le_of_eq (sched_length l))] at own
    obtain ⟨g2,c2,rfl,_,hg2,hrow2⟩:=own_rowK own (sched_length l) (by decide)
    have low2:=hr.out.2
    have Hrow2:=lhd hrow2
    have Low2:=lhd low2
    clear own hr hrow2 low2
    go_wp2
    go_ret
    exact ⟨g2,c2,rfl,hg2,Hrow2.out,Low2.out⟩
end Go.Proofs.YteeghgjkjicjoaaGreatDoor
namespace Go.Proofs.YteeghgjkjicjoaaGreatDoor
open Go.RowKit
def addN (A B:List Int) (k:Nat):List Int:=(List.range 8).map fun j => if j < k then ad (A.getD j 0) (B.getD j 0) else B.getD j 0
theorem addN_length (A B:List Int) (k:Nat):(addN A B k).length = 8:=by simp [addN]
theorem addN_zero (A B:List Int) (h:B.length = 8):addN A B 0 = B:=by
 apply List.ext_getElem
 . rw [addN_length,h]
 . intro j h1 h2
   simp [addN,h2]
theorem addN_at (A B:List Int) (k:Nat) (h:k < 8):(addN A B k).getD k 0 = B.getD k 0:=by
 simp [addN,h]
theorem addN_next (A B:List Int) (k:Nat):(addN A B k).set k (ad (A.getD k 0) (B.getD k 0)) = addN A B (k + 1):=by
 apply List.ext_getElem
 . simp [addN_length]
 . intro j h1 h2
   rw [List.getElem_set]
   by_cases e:k = j
   . subst e; simp [addN]
   . rw [if_neg e]
     by_cases hj:j < k
     . simp [addN,hj,show j < k + 1 by omega]
     . simp [addN,hj,show ¬ j < k + 1 by omega]
theorem addN_all (s t:W8):addN s.list t.list 8 = [ad s.a t.a,ad s.b t.b,ad s.c t.c,ad s.d t.d,ad s.e t.e,ad s.f t.f,ad s.g t.g,ad s.h t.h]:=rfl
attribute [irreducible] addN
structure MxI (X:List Int) (V N:Nat) (w w2 wr:World):Prop where
 st:wr.heap[V]? = some (.cells (u32s X) 191 (0,0))
 old:∀ g,g < w2.heap.size -> g ≠ V -> wr.heap[g]? = w2.heap[g]?
 low:Below N w wr
theorem MxI.drewN {X:List Int} {V N:Nat} {w w2 wr:World} (h:MxI X V N w w2 wr) (q:Nat):MxI X V N w w2 (wr.drewN q):=⟨h.st,h.old,Below.drewN h.low q⟩
theorem MxI.row {X:List Int} {V N:Nat} {w w2 wr:World} (h:MxI X V N w w2 wr) (hV:N <= V) (Y:List Int):MxI Y V N w w2 (wr.setRow V (u32s Y)) :=
 ⟨setRow_heap wr _ _ _ _ _ h.st,fun g hg hne => by rw [setRow_other wr _ _ _ hne]; exact h.old g hg hne,below_setRow h.low hV _⟩
theorem MxI.set {X:List Int} {V N:Nat} {w w2 wr:World} (h:MxI X V N w w2 wr) (hV:N <= V) (k:Nat) (x:Int):MxI (X.set k x) V N w w2 (wr.setCell ⟨V,k,none⟩ (.int .u32 x)) :=
 ⟨row32_set h.st k x,fun g hg hne => by rw [heap_setCell_other _ _ _ _ (by simp; omega)]; exact h.old g hg hne,h.low.setCell (by simp; omega) _⟩
theorem add_mod1 (a b:Int):(a + b) % 4294967296 = (a % 4294967296 + b % 4294967296) % 4294967296:=by omega
theorem add_mod2 (a b:Int):(a + b) % 4294967296 = (a + b % 4294967296) % 4294967296:=by omega
theorem round_agg (a b c d e f g h Kk Wk Z1 Z5:Int) (h1:Z1 = ad (roundU ⟨a,b,c,d,e,f,g,h⟩ Kk Wk) (roundV ⟨a,b,c,d,e,f,g,h⟩)) (h5:Z5 = ad d (roundU ⟨a,b,c,d,e,f,g,h⟩ Kk Wk)) :
 Value.agg #[.int .u32 Z1,.int .u32 a,.int .u32 b,.int .u32 c,.int .u32 Z5,.int .u32 e,.int .u32 f,.int .u32 g] = .agg (u32s (round ⟨a,b,c,d,e,f,g,h⟩ Kk Wk).list):=by
 rw [h1,h5]; rfl
theorem rmix_any (s:W8) (l:List Int) (hb:InB l) (gb off cap ga capa:Nat) (w:World) (hgb:gb < w.heap.size) (hc:∀ j,j < 64 -> w.cell? ⟨gb,off + j,none⟩ = some (.int .u8 (l.getD j 0))) (hA:RowK .u32 w ga KW) :
 Calls Tryz.prog 162 #[.agg (u32s s.list),.slice (some ⟨gb,off,none⟩) 64 cap,.slice (some ⟨ga,0,none⟩) 64 capa] w
  fun e' w' => e' = .returned (.agg (u32s (mixK KW s l).list)) /\ Below w.heap.size w w':=by
 have Hc:=lhd hc
 have HA:=lhd hA
 have Hb:=lhd hb
 obtain ⟨S,hS⟩:∃ S,S = s.list:=⟨_,rfl⟩
 have hS8:S.length = 8:=by rw [hS]; rfl
 rw [<- hS]
 have HS:=lhd hS
 have HS8:=lhd hS8
 have HI:Hid ((Tryz.prog.info? 191).map (·.size) = some (u32s S).size):=by show _ = _; rw [u32s_size,hS8]; exact info23
 have HZ8:Hid ((#[.int .u32 0,.int .u32 0,.int .u32 0,.int .u32 0,.int .u32 0,.int .u32 0,.int .u32 0,.int .u32 0]:Array Value).size = (u32s S).size):=by show _ = _; rw [u32s_size,hS8]; rfl
 clear hb hc hA hS hS8
 go_enter Tryz.func162,Tryz.ntmps162
 have h2:=two_new w (.cells (u32s S) 191) (.cells #[.int .u32 0,.int .u32 0,.int .u32 0,.int .u32 0,.int .u32 0,.int .u32 0,.int .u32 0,.int .u32 0] 191)
 have k2:Below w.heap.size w ((w.alloc (.cells (u32s S) 191)).alloc (.cells #[.int .u32 0,.int .u32 0,.int .u32 0,.int .u32 0,.int .u32 0,.int .u32 0,.int .u32 0,.int .u32 0] 191)):=((Below.refl _ _).alloc (Nat.le_refl _) _).alloc (by simp) _
 have s2:((w.alloc (.cells (u32s S) 191)).alloc (.cells #[.int .u32 0,.int .u32 0,.int .u32 0,.int .u32 0,.int .u32 0,.int .u32 0,.int .u32 0,.int .u32 0] 191)).heap.size = w.heap.size + 2:=by simp
 have H2:=lhd h2
 have K2:=lhd k2
 have S2:=lhd s2
 clear h2 k2 s2
 go_wp2_with (first
  | (go_at_call 168; refine (rsched_any l Hb.out gb off cap _ (Nat.lt_of_lt_of_le hgb K2.out.size) (fun j hj => (K2.out.cell (p:=⟨gb,off + j,none⟩) hgb).trans (Hc.out j hj))).mono ?_; rintro e w1 ⟨gl,cl,rfl,hgl,hrow,low⟩; have Hrow:=lhd hrow; have Low:=lhd low; have Hgl:=lhd hgl; have HN:=lhd ((low.block _ (by rw [S2.out]; omega)).trans H2.out.1); have HZ:=lhd ((low.block _ (by rw [S2.out]; omega)).trans H2.out.2); clear hrow low hgl)
  | (refine wpList_load_row rfl 191 (.tmp 3) rfl w.heap.size rfl 191 (u32s S) (0,0) _ HN.out Tryz.underlying191 rfl HI.out ?_)
  | (refine wpList_store_row rfl 191 (.tmp 8) (.tmp 23) rfl w1.heap.size (u32s S) rfl rfl 191 _ (Go.heap_alloc_new _ _) HI.out HZ8.out (u32s_one _) ?_; rw [World.setRow_alloc_new]; generalize hw2:World.alloc w1 _ = w2; have Hw2:=lhd hw2; clear hw2))
 have hs1:=Low.out.size
 rw [S2.out] at hs1
 have low1:Below w.heap.size w w1:=K2.out.trans (Low.out.mono K2.out.size)
 have hbase:MxI S w1.heap.size w.heap.size w w2 w2:=by
  rw [<- Hw2.out]
  exact ⟨Go.heap_alloc_new _ _,fun _ _ _ => rfl,low1.alloc low1.size _⟩
 have size2:w2.heap.size = w1.heap.size + 1:=by rw [<- Hw2.out,World.size_alloc]
 have old2:∀ q,q < w1.heap.size -> w2.heap[q]? = w1.heap[q]?:=fun q hq => by rw [<- Hw2.out]; exact Go.heap_alloc_old _ _ hq
 have hsl:∀ wr X,MxI X w1.heap.size w.heap.size w w2 wr -> RowK .u32 wr gl (sched l):=fun wr X hm => by
  have hq:=Hrow.out.1
  have hb2:wr.heap[gl]? = w1.heap[gl]?:=(hm.old gl (by omega) (by omega)).trans (old2 gl hq)
  exact ⟨by have:=(Array.getElem?_eq_some_iff.1 hm.st).1; omega,fun j hj => (World.cell?_of_block hb2).trans (Hrow.out.2 j hj)⟩
 have hsa:∀ wr X,MxI X w1.heap.size w.heap.size w w2 wr -> RowK .u32 wr ga KW:=fun wr X hm => HA.out.later hm.low
 have hsn:∀ wr X,MxI X w1.heap.size w.heap.size w w2 wr -> wr.heap[w.heap.size]? = some (.cells (u32s S) 191 (0,0)):=fun wr X hm => ((hm.old _ (by omega) (by omega)).trans (old2 _ (by omega))).trans HN.out
 have hsz:∀ wr X,MxI X w1.heap.size w.heap.size w w2 wr -> wr.heap[w.heap.size + 1]? = some (.cells #[.int .u32 0,.int .u32 0,.int .u32 0,.int .u32 0,.int .u32 0,.int .u32 0,.int .u32 0,.int .u32 0] 191 (0,0)):=fun wr X hm => ((hm.old _ (by omega) (by omega)).trans (old2 _ (by omega))).trans HZ.out
 have hNV:w.heap.size <= w1.heap.size:=by omega
 have Base:=lhd hbase
 have Hsl:=lhd hsl
 have Hsa:=lhd hsa
 have Hsn:=lhd hsn
 have Hsz:=lhd hsz
 clear hbase hsl hsa hsn hsz size2 old2 low1 hs1 HN HZ Hrow Low Hgl Hw2 H2 K2 S2 HA Hc
 generalize w1.heap.size = V at *
 go_wp2
 go_loopw [9] (fun i wr => ∃ k:Nat,k <= 64 /\ i = .int .i64 k /\ Hid (MxI (rounds KW l s k).list V w.heap.size w w2 wr)) (fun i _ => 64 - (intOf i).toNat)
 case atStart => exact ⟨0,by omega,rfl,by { have h:=Base.out; rw [HS.out] at h; exact h }⟩
 case round =>
  obtain ⟨k,hk,rfl,hm⟩:=hrel
  by_cases hlt:k < 64
  . have hltI:(k:Int) < 64:=by omega
    obtain ⟨t,ht⟩:∃ t,rounds KW l s k = t:=⟨_,rfl⟩
    have hm1:=hm.out
    rw [ht] at hm1
    obtain ⟨a',b',c',d',e',f',g',h'⟩:=t
    have Hst:=lhd ht
    have ck:=(Hsa.out _ _ hm1).2 k hlt
    have cs:=(Hsl.out _ _ hm1).2 k (by rw [sched_length]; exact hlt)
    rw [<- W_of_sched] at cs
    obtain ⟨Kk,hKk⟩:∃ x,x = KW.getD k 0:=⟨_,rfl⟩
    rw [<- hKk] at ck
    have HKk:=lhd hKk
    have c0:=cell_row hm1.st 0
    have c1:=cell_row hm1.st 1
    have c2:=cell_row hm1.st 2
    have c3:=cell_row hm1.st 3
    have c4:=cell_row hm1.st 4
    have c5:=cell_row hm1.st 5
    have c6:=cell_row hm1.st 6
    have c7:=cell_row hm1.st 7
    simp only [u32s,W8.list,List.map_cons,List.map_nil,List.getElem?_toArray,List.getElem?_cons_zero,List.getElem?_cons_succ] at c0 c1 c2 c3 c4 c5 c6 c7
    have Hm1:=lhd hm1
    clear ht hKk hm hm1
    go_wp2
    go_quiet (fail)
    go_wp2
    obtain ⟨wa,hwa⟩:∃ wa,wa = wr.drewN nq:=⟨_,rfl⟩
    rw [<- hwa]
    have Hm2:Hid (MxI (W8.mk a' b' c' d' e' f' g' h').list V w.heap.size w w2 wa):=by rw [hwa]; exact Hm1.out.drewN nq
    have ck2:wa.cell? ⟨ga,k,none⟩ = some (.int .u32 Kk):=by rw [hwa]; exact ck
    have cs2:wa.cell? ⟨gl,k,none⟩ = some (.int .u32 (W l k)):=by rw [hwa]; exact cs
    clear hwa c0 c1 c2 c3 c4 c5 c6 c7 ck cs Hm1
    go_quiet ((go_at_call 169; exact Calls.quiet_of_same (rr_same _ _ (by decide) (by decide) _)))
    go_wp2_with (first
     | (go_at_call 169; refine (rr_same _ _ (by decide) (by decide) _).mono ?_; rintro e0 w0 ⟨rfl,rfl⟩)
     | (refine wpList_store_row rfl 191 (.tmp 8) (.tmp 105) rfl V (u32s (rounds KW l s (k + 1)).list) rfl (by rw [rounds_step Hst.out HKk.out]; exact round_agg a' b' c' d' e' f' g' h' Kk (W l k) _ _ (add_mod1 _ _) (add_mod2 _ _)) 191 _ Hm2.out.st info23 rfl (u32s_one _) ?_))
    go_roundw
    case rel => exact ⟨k + 1,by omega,by go_num,(Hm2.out.drewN _).row hNV _⟩
    case measure => simp [intOf]; omega
  . have hge:¬ (k:Int) < 64:=by omega
    have e64:k = 64:=by omega
    obtain ⟨t,ht⟩:∃ t,rounds KW l s 64 = t:=⟨_,rfl⟩
    have hm1:=hm.out
    rw [e64,ht] at hm1
    have Hst:=lhd ht
    have ht8:t.list.length = 8:=rfl
    obtain ⟨T,hT⟩:∃ T,T = t.list:=⟨_,rfl⟩
    rw [<- hT] at hm1 ht8
    have HT:=lhd hT
    have Ht8:=lhd ht8
    have Hm1:=lhd hm1
    clear ht hT ht8 hm hm1 e64 hk hlt
    obtain ⟨wo,hwo⟩:∃ wo,wo = wr:=⟨_,rfl⟩
    subst hwo
    go_wp2
    go_loopw [20] (fun i wr => ∃ j:Nat,j <= 8 /\ i = .int .i64 j /\ Hid (MxI (addN S T j) V w.heap.size w w2 wr)) (fun i _ => 8 - (intOf i).toNat)
    case atStart => exact ⟨0,by omega,rfl,by rw [addN_zero _ _ Ht8.out]; exact Hm1.out⟩
    case round =>
     obtain ⟨j,hk,rfl,hm⟩:=hrel
     by_cases hlt:j < 8
     . have hltI:(j:Int) < 8:=by omega
       obtain ⟨x,hx⟩:∃ x,x = S.getD j 0:=⟨_,rfl⟩
       obtain ⟨y,hy⟩:∃ y,y = T.getD j 0:=⟨_,rfl⟩
       have cy:wr.cell? ⟨V,j,none⟩ = some (.int .u32 y):=by rw [row32_cell hm.out.st j (by rw [addN_length]; exact hlt),addN_at _ _ _ hlt,hy]
       have cx:wr.cell? ⟨w.heap.size,j,none⟩ = some (.int .u32 x):=by
        rw [row32_cell (Hsn.out _ _ hm.out) j (by rw [HS8.out]; exact hlt),hx]
       have hfz:=free_row hm.out.st j
       have hn:=addN_next S T j
       rw [<- hx,<- hy] at hn
       have hn2:(addN S T j).set j ((y + x) % 4294967296) = addN S T (j + 1):=by rw [<- hn,Int.add_comm]; rfl
       have Hn:=lhd hn2
       clear hx hy hn hn2
       go_wp2
       refine wp_region_still_tail 9 (by kernel_rfl) (by kernel_rfl) ?_
       simp only [List.take_succ_cons,List.take_zero,List.drop_succ_cons,List.drop_zero]
       change wpStill _ _ wr.drew _ _ _
       repeat (refine wpStill_step (fun K hK => ?_); go_simp; refine hK _ ?_; clear hK K)
       refine wpStill_nil ?_
       change wpList _ _ _ _ _ wr.drew
       go_wp2
       go_roundw
       case rel => exact ⟨j + 1,by omega,by go_num,by rw [<- Hn.out]; exact (hm.out.drewN 1).set hNV j _⟩
       case measure => simp [intOf]; omega
     . have hge8:¬ (j:Int) < 8:=by omega
       have e8:j = 8:=by omega
       have hfin:addN S T 8 = (mixK KW s l).list:=by
        rw [HS.out,HT.out,addN_all,mixK_eq Hst.out]; rfl
       have hm1:=hm.out
       rw [e8,hfin] at hm1
       obtain ⟨R,hR⟩:∃ R,R = (mixK KW s l).list:=⟨_,rfl⟩
       have hRl:R.length = 8:=by rw [hR]; rfl
       rw [<- hR] at hm1
       have Hz:=lhd (Hsz.out _ _ hm1)
       have Hsz8:Hid ((Tryz.prog.info? 191).map (·.size) = some (u32s R).size):=by show _ = _; rw [u32s_size,hRl]; exact info23
       have Hzz:Hid ((#[.int .u32 0,.int .u32 0,.int .u32 0,.int .u32 0,.int .u32 0,.int .u32 0,.int .u32 0,.int .u32 0]:Array Value).size = (u32s R).size):=by show _ = _; rw [u32s_size,hRl]; rfl
       have Hm1:=lhd hm1
       have HR:=lhd hR
       have low:=hm1.low
       clear hm hm1 hfin hR hRl e8 hk hlt
       go_wp2_with (first | (refine wpList_load_row rfl 191 (.tmp 8) rfl V rfl 191 (u32s R) (0,0) _ Hm1.out.st Tryz.underlying191 rfl Hsz8.out ?_) | (refine wpList_store_row rfl 191 (.tmp 6) (.tmp 119) rfl (w.heap.size + 1) (u32s R) rfl rfl 191 _ Hz.out Hsz8.out Hzz.out (u32s_one _) ?_))
       rw [<- HR.out]
       exact bodyPost_ret (v:=.agg (u32s R)) (results_cell_row rfl _ _ (w.heap.size + 1) 191 _ (0,0) _ rfl (setRow_heap wr _ _ _ _ _ Hz.out) Tryz.underlying191 rfl Hsz8.out) rfl ⟨rfl,below_setRow low (by omega) _⟩
end Go.Proofs.YteeghgjkjicjoaaGreatDoor
namespace Go.Proofs.YteeghgjkjicjoaaGreatDoor
open Go.RowKit
def mulT (x y:Int):Int:=IntKind.u64.wrap (IntKind.u64.wrap (x / 4294967296 * bits .and .u64 y 4294967295) + IntKind.u64.wrap (bits .and .u64 x 4294967295 * bits .and .u64 y 4294967295) / 4294967296)
def mulHi (x y:Int):Int:=IntKind.u64.wrap (IntKind.u64.wrap (IntKind.u64.wrap (x / 4294967296 * (y / 4294967296)) + mulT x y / 4294967296) + IntKind.u64.wrap (bits .and .u64 (mulT x y) 4294967295 + IntKind.u64.wrap (bits .and .u64 x 4294967295 * (y / 4294967296))) / 4294967296)
def mulLo (x y:Int):Int:=IntKind.u64.wrap (x * y)
theorem mul64_any (x y:Int) (w:World) :
 Calls Tryz.prog 174 #[.int .u64 x,.int .u64 y] w fun e w' => e = .returned (.tuple #[.int .u64 (mulHi x y),.int .u64 (mulLo x y)]) /\ w = w':=by
 go_enter Tryz.func174,Tryz.ntmps174
 go_wp2
 exact bodyPost_ret (results_tmp2 rfl _ _ _) rfl ⟨rfl,rfl⟩
def within2 (x p:Int):Bool:=decide (mulHi x x < p) || (decide (mulHi x x = p) && decide (mulLo x x = 0))
def more3 (x:Int):Int:=IntKind.u64.wrap (mulHi (mulLo x x) x + IntKind.u64.wrap (mulHi x x * x))
def within3 (x p:Int):Bool:=decide (more3 x < 4294967296 * p) || (decide (more3 x = 4294967296 * p) && decide (mulLo (mulLo x x) x = 0))
def withinM (m x p:Int):Bool:=if m = 2 then within2 x p else within3 x p
theorem within2_any (x p:Int) (w:World) :
 Calls Tryz.prog 170 #[.int .u64 x,.int .u64 p,.int .i64 2] w fun e w' => e = .returned (.bool (within2 x p)) /\ w = w':=by
 obtain ⟨hi,hhi⟩:∃ hi,mulHi x x = hi:=⟨_,rfl⟩
 obtain ⟨lo,hlo⟩:∃ lo,mulLo x x = lo:=⟨_,rfl⟩
 have hm:=mul64_any x x w
 rw [hhi,hlo] at hm
 have hs:within2 x p = (decide (hi < p) || (decide (hi = p) && decide (lo = 0))):=by rw [<- hhi,<- hlo]; rfl
 rw [hs]
 have Hm:=lhd hm
 clear hm hhi hlo hs
 by_cases h1:hi < p
 . go_enter Tryz.func170,Tryz.ntmps170
   go_wp2_with (go_at_call 174; refine Hm.out.mono ?_; rintro e w' ⟨rfl,rfl⟩)
   go_ret
   exact ⟨by simp [h1],rfl⟩
 . by_cases h2:hi = p
   . subst h2
     by_cases h3:lo = 0
     . subst h3
       go_enter Tryz.func170,Tryz.ntmps170
       go_wp2_with (go_at_call 174; refine Hm.out.mono ?_; rintro e w' ⟨rfl,rfl⟩)
       go_ret
       exact ⟨by simp,rfl⟩
     . go_enter Tryz.func170,Tryz.ntmps170
       go_wp2_with (go_at_call 174; refine Hm.out.mono ?_; rintro e w' ⟨rfl,rfl⟩)
       go_ret
       exact ⟨by simp [h3],rfl⟩
   . go_enter Tryz.func170,Tryz.ntmps170
     go_wp2_with (go_at_call 174; refine Hm.out.mono ?_; rintro e w' ⟨rfl,rfl⟩)
     go_ret
     exact ⟨by simp [h2],rfl⟩
theorem within3_any (x p:Int) (hp:0 <= p /\ p < 1000) (w:World) :
 Calls Tryz.prog 170 #[.int .u64 x,.int .u64 p,.int .i64 3] w fun e w' => e = .returned (.bool (within3 x p)) /\ w = w':=by
 obtain ⟨p0,p1⟩:=hp
 obtain ⟨hi,hhi⟩:∃ hi,mulHi x x = hi:=⟨_,rfl⟩
 obtain ⟨lo,hlo⟩:∃ lo,mulLo x x = lo:=⟨_,rfl⟩
 obtain ⟨h2,hh2⟩:∃ h2,mulHi lo x = h2:=⟨_,rfl⟩
 obtain ⟨l2,hl2⟩:∃ l2,mulLo lo x = l2:=⟨_,rfl⟩
 have hm:=mul64_any x x w
 have hn:=mul64_any lo x w
 rw [hhi,hlo] at hm
 rw [hh2,hl2] at hn
 obtain ⟨mo,hmo⟩:∃ mo,IntKind.u64.wrap (h2 + IntKind.u64.wrap (hi * x)) = mo:=⟨_,rfl⟩
 have hs:within3 x p = (decide (mo < 4294967296 * p) || (decide (mo = 4294967296 * p) && decide (l2 = 0))):=by
  unfold within3 more3
  rw [hlo,hhi,hh2,hl2,hmo]
 rw [hs]
 have hq:∃ q,q = 4294967296 * p:=⟨_,rfl⟩
 have Hm:=lhd hm
 have Hn:=lhd hn
 clear hm hn hhi hlo hs hh2 hl2
 by_cases h1:mo < 4294967296 * p
 . go_enter Tryz.func170,Tryz.ntmps170
   go_wp2_with (first | (go_at_call 174; refine Hm.out.mono ?_; rintro e w' ⟨rfl,rfl⟩; clear Hm) | (go_at_call 174; refine Hn.out.mono ?_; rintro e w' ⟨rfl,rfl⟩))
   go_ret
   exact ⟨by simp [h1],rfl⟩
 . by_cases h2:mo = 4294967296 * p
   . by_cases h3:l2 = 0
     . subst h3
       go_enter Tryz.func170,Tryz.ntmps170
       go_wp2_with (first | (go_at_call 174; refine Hm.out.mono ?_; rintro e w' ⟨rfl,rfl⟩; clear Hm) | (go_at_call 174; refine Hn.out.mono ?_; rintro e w' ⟨rfl,rfl⟩))
       go_ret
       exact ⟨by simp [h2],rfl⟩
     . go_enter Tryz.func170,Tryz.ntmps170
       go_wp2_with (first | (go_at_call 174; refine Hm.out.mono ?_; rintro e w' ⟨rfl,rfl⟩; clear Hm) | (go_at_call 174; refine Hn.out.mono ?_; rintro e w' ⟨rfl,rfl⟩))
       go_ret
       exact ⟨by simp [h2,h3],rfl⟩
   . go_enter Tryz.func170,Tryz.ntmps170
     go_wp2_with (first | (go_at_call 174; refine Hm.out.mono ?_; rintro e w' ⟨rfl,rfl⟩; clear Hm) | (go_at_call 174; refine Hn.out.mono ?_; rintro e w' ⟨rfl,rfl⟩))
     go_ret
     exact ⟨by simp [h2],rfl⟩
def bitR (j:Nat):Int:=((137438953472 / 2 ^ j:Nat):Int)
def xR (R:Int) (j:Nat):Int:=R - R % 2 ^ (38 - j)
def stepR (m p x b:Int):Int:=if decide (x + b < 137438953472 / (m - 1)) && withinM m (x + b) p then x + b else x
theorem bitR_all:∀ j:Fin 38,bitR j.val / 2 = bitR (j.val + 1) /\ 0 < bitR j.val /\ bitR j.val <= 137438953472:=by decide +kernel
theorem bitR_at (j:Nat) (h:j < 38):bitR j / 2 = bitR (j + 1) /\ 0 < bitR j /\ bitR j <= 137438953472:=bitR_all ⟨j,h⟩
theorem bitR_end:bitR 38 = 0:=by decide +kernel
theorem roots2_all:∀ i:Fin 8,∀ j:Fin 38,stepR 2 (PR.getD i.val 0) (xR (R2.getD i.val 0) j.val) (bitR j.val) = xR (R2.getD i.val 0) (j.val + 1):=by decide +kernel
theorem roots3_all:∀ i:Fin 64,∀ j:Fin 38,stepR 3 (PR.getD i.val 0) (xR (R3.getD i.val 0) j.val) (bitR j.val) = xR (R3.getD i.val 0) (j.val + 1):=by decide +kernel
theorem R2_all:∀ i:Fin 8,0 <= R2.getD i.val 0 /\ R2.getD i.val 0 < 274877906944 /\ R2.getD i.val 0 % 4294967296 = S0.list.getD i.val 0:=by decide +kernel
theorem R3_all:∀ i:Fin 64,0 <= R3.getD i.val 0 /\ R3.getD i.val 0 < 274877906944 /\ R3.getD i.val 0 % 4294967296 = KW.getD i.val 0:=by decide +kernel
theorem xR_in (R:Int) (h0:0 <= R) (h1:R < 274877906944) (j:Nat):0 <= xR R j /\ xR R j < 274877906944:=by
 have h2:(0:Int) < 2 ^ (38 - j):=Int.pow_pos (by decide)
 have h3:=Int.emod_nonneg R (Int.ne_of_gt h2)
 have h4:=Int.mul_ediv_add_emod R (2 ^ (38 - j))
 have h5:0 <= 2 ^ (38 - j) * (R / 2 ^ (38 - j)):=Int.mul_nonneg (Int.le_of_lt h2) (Int.ediv_nonneg h0 (Int.le_of_lt h2))
 unfold xR
 omega
theorem xR_zero (R:Int) (h0:0 <= R) (h1:R < 274877906944):xR R 0 = 0:=by
 have:R % 2 ^ (38 - 0) = R:=Int.emod_eq_of_lt h0 h1
 unfold xR
 omega
theorem xR_end (R:Int):xR R 38 = R:=by
 unfold xR
 simp
attribute [irreducible] bitR xR mulHi mulLo mulT
theorem root_any (m p R:Int) (hm:m = 2 \/ m = 3) (hp:0 <= p /\ p < 1000) (h0:0 <= R) (h1:R < 274877906944) (H:∀ j,j < 38 -> stepR m p (xR R j) (bitR j) = xR R (j + 1)) (w:World) :
 Calls Tryz.prog 164 #[.int .u64 p,.int .i64 m] w fun e w' => e = .returned (.int .u32 (R % 4294967296)) /\ w = w':=by
 have HS:=lhd H
 have HP:=lhd hp
 have hz:=xR_zero R h0 h1
 have Hin:=lhd (xR_in R h0 h1)
 have Hz:=lhd hz
 clear H hz hp
 go_enter Tryz.func164,Tryz.ntmps164
 go_wp2
 go_loopw [5,6] (fun x b wr => ∃ j:Nat,j <= 38 /\ x = .int .u64 (xR R j) /\ b = .int .u64 (bitR j) /\ Hid (wr = w)) (fun _ b _ => (intOf b).toNat)
 case atStart => exact ⟨0,by omega,by rw [Hz.out],by unfold bitR; rfl,rfl⟩
 case round =>
  obtain ⟨j,hj,rfl,rfl,hw⟩:=hrel
  by_cases hlt:j < 38
  . obtain ⟨hb1,hb2,hb3⟩:=bitR_at j hlt
    have hst:=HS.out j hlt
    obtain ⟨hx0,hx1⟩:=Hin.out j
    generalize hX:xR R j = X at *
    generalize hB:bitR j = b at *
    have HX:=lhd hX
    have HB:=lhd hB
    have HB1:=lhd hb1
    have HST:=lhd hst
    clear hX hB hb1 hst
    rcases hm with rfl | rfl
    . have hm2:withinM 2 (X + b) p = within2 (X + b) p:=rfl
      have Hc:=lhd (within2_any (X + b) p wr)
      by_cases hlt2:X + b < 137438953472
      . cases hwi:within2 (X + b) p with
        | true =>
          have hc:=Hc.out
          rw [hwi] at hc
          have Hc2:=lhd hc
          have e:xR R (j + 1) = X + b:=by rw [<- HST.out]; unfold stepR; rw [hm2,hwi]; simp [hlt2]
          have E:=lhd e
          clear hc e Hc hwi hm2
          go_wp2_with (go_at_call 170; refine Hc2.out.mono ?_; rintro e w' ⟨rfl,rfl⟩)
          go_roundw
          case rel => exact ⟨j + 1,by omega,by rw [E.out],by rw [<- HB1.out],hw⟩
          case measure => simp [intOf]; omega
        | false =>
          have hc:=Hc.out
          rw [hwi] at hc
          have Hc2:=lhd hc
          have e:xR R (j + 1) = X:=by rw [<- HST.out]; unfold stepR; rw [hm2,hwi]; simp
          have E:=lhd e
          clear hc e Hc hwi hm2
          go_wp2_with (go_at_call 170; refine Hc2.out.mono ?_; rintro e w' ⟨rfl,rfl⟩)
          go_roundw
          case rel => exact ⟨j + 1,by omega,by rw [E.out],by rw [<- HB1.out],hw⟩
          case measure => simp [intOf]; omega
      . have e:xR R (j + 1) = X:=by rw [<- HST.out]; unfold stepR; simp [hlt2]
        have E:=lhd e
        clear e Hc hm2
        go_wp2
        go_roundw
        case rel => exact ⟨j + 1,by omega,by rw [E.out],by rw [<- HB1.out],hw⟩
        case measure => simp [intOf]; omega
    . have hm2:withinM 3 (X + b) p = within3 (X + b) p:=rfl
      have Hc:=lhd (within3_any (X + b) p HP.out wr)
      by_cases hlt2:X + b < 68719476736
      . cases hwi:within3 (X + b) p with
        | true =>
          have hc:=Hc.out
          rw [hwi] at hc
          have Hc2:=lhd hc
          have e:xR R (j + 1) = X + b:=by rw [<- HST.out]; unfold stepR; rw [hm2,hwi]; simp [hlt2]
          have E:=lhd e
          clear hc e Hc hwi hm2
          go_wp2_with (go_at_call 170; refine Hc2.out.mono ?_; rintro e w' ⟨rfl,rfl⟩)
          go_roundw
          case rel => exact ⟨j + 1,by omega,by rw [E.out],by rw [<- HB1.out],hw⟩
          case measure => simp [intOf]; omega
        | false =>
          have hc:=Hc.out
          rw [hwi] at hc
          have Hc2:=lhd hc
          have e:xR R (j + 1) = X:=by rw [<- HST.out]; unfold stepR; rw [hm2,hwi]; simp
          have E:=lhd e
          clear hc e Hc hwi hm2
          go_wp2_with (go_at_call 170; refine Hc2.out.mono ?_; rintro e w' ⟨rfl,rfl⟩)
          go_roundw
          case rel => exact ⟨j + 1,by omega,by rw [E.out],by rw [<- HB1.out],hw⟩
          case measure => simp [intOf]; omega
      . have e:xR R (j + 1) = X:=by rw [<- HST.out]; unfold stepR; simp [hlt2]
        have E:=lhd e
        clear e Hc hm2
        go_wp2
        go_roundw
        case rel => exact ⟨j + 1,by omega,by rw [E.out],by rw [<- HB1.out],hw⟩
        case measure => simp [intOf]; omega
  . obtain rfl:j = 38:=by omega
    rw [bitR_end,xR_end]
    go_wp2
    go_ret
    exact ⟨rfl,hw.out.symm⟩
end Go.Proofs.YteeghgjkjicjoaaGreatDoor
