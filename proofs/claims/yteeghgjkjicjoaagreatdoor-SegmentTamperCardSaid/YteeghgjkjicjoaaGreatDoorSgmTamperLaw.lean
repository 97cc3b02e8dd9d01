/- What is proved: SegmentTamper (P12.1, P12.6): for all texts, Acts and every Where, the law returns true and its arguments read as before. Conditions: the row's own; the tables of packages sha and chacha hold what the text lays (the card ties it). -/
import Derived.Test.YteeghgjkjicjoaaGreatDoorB11
import Derived.Test.YteeghgjkjicjoaaGreatDoorB14
import Derived.Test.YteeghgjkjicjoaaGreatDoorSgmTamper
namespace Go.Proofs.YteeghgjkjicjoaaGreatDoor.lawTamper12
open Seal Sgm Go.ChangeShapes Go.WideShapes Go.ChangeAt Go.RowKit
set_option maxRecDepth 100000 in
theorem contract (H:Type) (enc:TypeId × Value -> H) (W:World) (base:Nat) (args:Array Value) (ds gs:List (DataW H)) (before:List MemPlace)
 (hval:∀ (j:Nat) t v,Tryz.f4.params[j]? = some t -> args[j]? = some v -> Value.okWide Tryz.prog W .any base t v)
 (hW:DataW.Whole enc Tryz.prog Tryz.f4.params.toList Rows.segmentTamperSpec.vars false W args.toList ds gs before) (hL:laidMetH Tryz.prog Rows.segmentTamperRow.laid W) :
 Calls Tryz.prog 4 args W fun e W' => ∃ v,e = .returned v /\ Rows.segmentTamperSpec.post enc Tryz.prog Tryz.f4 false true false false W args v W':=by
 have hlaid:=laid_of hL
 have hW':=hW
 obtain ⟨p,q,hA0,hV,rfl,hfz,hnd⟩:=hW
 have hA:DataW.TrodAll enc Tryz.prog W 0 (fun _ => true) true Tryz.f4.params.toList args.toList ds p:=hA0
 rw [Tryz.params4] at hA hval
 obtain ⟨v0,vs0,d0,ds0,p0,q0,hargs0,rfl,rfl,h0,r0⟩:=trodAll_cons hA
 obtain ⟨v1,vs1,d1,ds1,p1,q1,hargs1,rfl,rfl,h1,r1⟩:=trodAll_cons r0
 obtain ⟨v2,vs2,d2,ds2,p2,q2,hargs2,rfl,rfl,h2,r2⟩:=trodAll_cons r1
 obtain ⟨rfl,rfl,rfl⟩:=trodAll_nil r2
 obtain rfl:args = #[v0,v1,v2]:=by cases args; simp_all
 obtain ⟨A,c,ps,rfl,hps,hpc,hpn,hmax,hlens⟩:=open_parts9 (hval 0 51 v0 rfl rfl) h0
 obtain ⟨A1,c1,xs,rfl,hok,hacts,hmax1⟩:=open_acts (hval 1 22 v1 rfl rfl) h1
 obtain ⟨s,lv,cp,sc,rfl,hs,hcp,hsc⟩:=open_where (hval 2 29 v2 rfl rfl) h2
 have walk:=tamper_walk A ps.length c (ps.map (·.M)) A1 c1 xs s lv cp sc hcp hsc hs W hlaid hps.tx (by rw [List.length_map]) (by unfold maxLen at hmax; omega) (fun t ht => by
  obtain ⟨x,hx,rfl⟩:=List.mem_map.1 ht
  have:=hlens x hx
  unfold maxLen at this
  omega) hacts hok (by unfold maxLen at hmax1; omega)
 refine walk.mono fun e W' ⟨he,hb⟩ => ?_
 subst he
 exact ⟨_,rfl,law_post hW' rfl rfl (by rw [Tryz.params4]; intro t ht; simp only [List.mem_cons,List.mem_nil_iff,or_false] at ht; rcases ht with rfl | rfl | rfl <;> exact ⟨by kernel_rfl,of_decide_eq_true (by kernel_rfl)⟩) ⟨rfl,rfl,rfl⟩ hb⟩
theorem laid_met (os:Os):laidMet Tryz.prog Rows.segmentTamperRow.laid ((laidWorld os).forCall (fun _ _ => 0) ⟨#[],#[.slice none 0 0,.slice none 0 0,.agg #[.string ⟨#[]⟩,.int .i64 0,.int .u64 0,.int .u8 0]],[]⟩).memory :=
 laidMet_of_run' 8 (by kernel_rfl) (by kernel_rfl)
theorem reads (os:Os) {H:Type} (enc:TypeId × Value -> H):∃ places,DataW.whole enc Tryz.prog ((laidWorld os).forCall (fun _ _ => 0) ⟨#[],#[.slice none 0 0,.slice none 0 0,.agg #[.string ⟨#[]⟩,.int .i64 0,.int .u64 0,.int .u8 0]],[]⟩).memory Tryz.f4.params.toList Rows.segmentTamperSpec.vars false (#[Value.slice none 0 0,Value.slice none 0 0,Value.agg #[Value.string ⟨#[]⟩,Value.int .i64 0,Value.int .u64 0,Value.int .u8 0]]:Array Value).toList 8 = some ([.nil,.nil,.agg [.lit (.string []),.agg [.lit (.int .i64 0),.lit (.int .u64 0)],.lit (.int .u8 0)]],[],places) :=
 ⟨[],by kernel_rfl⟩
set_option maxRecDepth 100000 in
theorem lifted (os:Os) (started:os.Started) (H:Type) (enc:TypeId × Value -> H) (F:Stop.Interp) :
 ReturnsInHanded {} Tryz.checked os 4 .any ((OpenSpec.ofChange Rows.segmentTamperSpec).preRow enc Tryz.prog Tryz.f4 Rows.segmentTamperRow.domain false Rows.segmentTamperRow.laid) (((OpenSpec.ofChange Rows.segmentTamperSpec).at F).post enc Tryz.prog Tryz.f4 false true false false):=by
 obtain ⟨places,hx⟩:=reads os enc
 refine returnsInHanded_of_row (C:=Tryz.checked) (s:=OpenSpec.ofChange Rows.segmentTamperSpec) own started (by kernel_rfl) Tryz.func4
  (witness_row_at (enc:=enc) (C:=Tryz.checked) false (laidWorld os) #[.slice none 0 0,.slice none 0 0,.agg #[.string ⟨#[]⟩,.int .i64 0,.int .u64 0,.int .u8 0]] rfl (by kernel_rfl) (by kernel_rfl) (by kernel_rfl)
   (OpenSpec.preRow_of_cond 8 hx (by kernel_rfl) (fun k hk => by cases hk) (by kernel_rfl) (laid_met os))) ?_
 intro W base args ds gs before hval hW _ _ _ hL _ _
 exact contract H enc W base args ds gs before hval hW hL
theorem said:Rows.SegmentTamperSaid :=
 OpenClaim.holds_of_cond 4 Tryz.f4 rfl rfl rfl rfl rfl rfl rfl ⟨rfl,rfl,rfl,rfl,rfl⟩ rfl rfl rfl rfl rfl (by kernel_rfl) Tryz.func4 (by kernel_rfl)
  (of_decide_eq_true (by kernel_rfl)) (by unfold Func.isWrapper; first | (rw [if_pos (by decide +kernel)]; kernel_rfl) | (rw [if_neg (by decide +kernel)]; exact ⟨rfl,rfl⟩))
  (fun os started H enc _ F => by rw [OpenClaim.pre_eq_preRow]; exact lifted os started H enc F)
theorem card:Rows.SegmentTamperCardSaid :=
 Claim7.holds_tied_plain_at .later [] _ _ _ _ said (fun _ h => by cases h) (by kernel_rfl) (fun _ h => by cases h) segmentTamper_row_tie rfl ⟨rfl,rfl⟩ (by kernel_rfl) rfl
  (plain_of (by kernel_rfl) Tryz.func4 (by rw [Tryz.params4]) (by kernel_rfl) (by kernel_rfl)) (by kernel_rfl)
end Go.Proofs.YteeghgjkjicjoaaGreatDoor.lawTamper12
