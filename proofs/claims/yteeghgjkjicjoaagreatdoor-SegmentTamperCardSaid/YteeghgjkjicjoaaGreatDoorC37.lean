/- Texts of ours, merged. -/
import Derived.Test.YteeghgjkjicjoaaGreatDoorC36
import Derived.Laws.StructEq
set_option maxRecDepth 100000
set_option maxHeartbeats 16000000
namespace Go.Proofs.YteeghgjkjicjoaaGreatDoor.Sgm
open Go.RowKit Dsk Slt Epo Seal
attribute [local go_sem ↓ high] loadAtH loadAtB loadAtW
def BSl (L:List Int) (v:Value) (w:World):Prop:=∃ g c,v = .slice (some ⟨g,0,none⟩) L.length c /\ Byt w (some ⟨g,0,none⟩) c L
theorem BSl.later {L:List Int} {v:Value} {w w':World} (h:BSl L v w) (hb:Below w.heap.size w w'):BSl L v w':=by
 obtain ⟨g,c,e,hB⟩:=h
 exact ⟨g,c,e,hB.below hb (Nat.le_refl _)⟩
theorem bytes_bsl {w:World} {K:DK} {D:DS} (h:Dsk w K D) (h0:0 < D.data.length):Calls Tryz.prog 15 #[.pointer (some ⟨K.g,0,none⟩)] w fun e w' => ∃ v,e = .returned v /\ BSl D.data v w' /\ Below w.heap.size w w':=by
 refine (bytes_any h).mono ?_
 rintro e w' ⟨v,rfl,ho,hb⟩
 obtain ⟨g,c,hv,hc,_,hr⟩:=own_rowK ho rfl h0
 exact ⟨v,rfl,⟨g,c,hv,by omega,(fun h => by cases h),fun _ => ⟨g,0,rfl,hr.1,fun j hj => by rw [Nat.zero_add]; exact hr.2 j hj⟩⟩,hb⟩
def TxS (T:List (List Int)) (v:Value) (w:World):Prop:=∃ A c,v = .slice A T.length c /\ TxAt w A T
theorem TxS.later {T:List (List Int)} {v:Value} {w w':World} (h:TxS T v w) (hb:Below w.heap.size w w'):TxS T v w':=by
 obtain ⟨A,c,e,hx⟩:=h
 exact ⟨A,c,e,hx.later hb⟩
theorem slots_txs {w:World} {D:DS} (hok:D.Ok /\ 9 <= D.secs /\ 0 < D.data.length) {v:Value} (hv:BSl D.data v w) {R:List Int} {cs:List (List Int)} (hr:Reads ((D.data.drop (8 * 128)).take ((D.secs - 8) * 128)) cs R false) {T:List (List Int)} (hT:T = cs.map textC) :
 Calls Tryz.prog 14 #[v] w fun e w' => ∃ u,e = .returned u /\ TxS T u w' /\ Below w.heap.size w w':=by
 obtain ⟨g,c,rfl,hB⟩:=hv
 subst hT
 refine (slots_of hok.1 hok.2.1 g D.data.length c rfl hB hr).mono ?_
 rintro e w' ⟨⟨h,_⟩ | ⟨_,A,c',rfl,hx⟩,hb⟩
 . cases h
 . exact ⟨_,rfl,⟨A,c',by rw [List.length_map],hx⟩,hb⟩
theorem ris_in {most:Nat}:∀ (r:List (List Int × Nat)) (least:Nat),Ris most least r -> ∀ t ∈ r.map (·.1),InB t
 | [],_,_,_,ht => by cases ht
 | x :: r,least,h,t,ht => by
   rcases List.mem_cons.1 ht with rfl | ht
   . exact h.1.1
   . exact ris_in r _ h.2.2.2 t ht
end Go.Proofs.YteeghgjkjicjoaaGreatDoor.Sgm
