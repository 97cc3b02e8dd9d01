/- Texts of ours, merged. -/
import Derived.Test.YteeghgjkjicjoaaGreatDoorB15
namespace Go.Proofs.YteeghgjkjicjoaaGreatDoor.Slt
open Go.RowKit Dsk
theorem step_weak (D:DS) (k:Nat) (b:List Int) (hfit:k * 128 + 128 ≤ D.data.length) (hb:b.length = 128) :
 (∀ j,j < k * 128 ∨ k * 128 + 128 ≤ j → (stepD D k b).data.getD j 0 = D.data.getD j 0) ∧
 (∀ j,k * 128 ≤ j → j < k * 128 + 128 → (stepD D k b).data.getD j 0 = b.getD (j - k * 128) 0 ∨ (stepD D k b).data.getD j 0 = D.data.getD j 0) ∧
 ((stepD D k b).off = false → ∀ j,k * 128 ≤ j → j < k * 128 + 128 → (stepD D k b).data.getD j 0 = b.getD (j - k * 128) 0):=by
 unfold stepD
 by_cases h:D.due = true
 · rw [if_pos h]
   have hl:=torn_len D.mask (secL D.data k) b
   refine ⟨fun j hj => ?_,fun j h1 h2 => ?_,fun ho => by cases ho⟩
   · simp only
     rw [splice_getD _ _ _ (by omega),hl]
     by_cases h1:j < k * 128
     · rw [if_pos h1]
     · rw [if_neg h1,if_neg (by omega)]
   · simp only
     rw [splice_getD _ _ _ (by omega),hl,if_neg (by omega),if_pos h2,torn_get _ _ _ _ (by omega)]
     by_cases hb:bitM D.mask (j - k * 128) = true
     · rw [if_pos hb]; exact .inl rfl
     · rw [if_neg hb,secL_get _ _ _ (by omega)]
       right
       rw [show k * 128 + (j - k * 128) = j by omega]
 · rw [if_neg h]
   refine ⟨fun j hj => ?_,fun j h1 h2 => .inl ?_,fun _ j h1 h2 => ?_⟩
   · simp only
     rw [splice_getD _ _ _ (by omega),hb]
     by_cases h1:j < k * 128
     · rw [if_pos h1]
     · rw [if_neg h1,if_neg (by omega)]
   all_goals
    simp only
    rw [splice_getD _ _ _ (by omega),hb,if_neg (by omega),if_pos h2]
structure WeakQ (D:DS) (k:Nat) (b:List Int) (i n:Nat) (R:DS × Int):Prop where
 out:∀ j,j < (k + i) * 128 ∨ (k + i + n) * 128 ≤ j → R.1.data.getD j 0 = D.data.getD j 0
 ins:∀ j,(k + i) * 128 ≤ j → j < (k + i + n) * 128 → R.1.data.getD j 0 = b.getD (j - k * 128) 0 ∨ R.1.data.getD j 0 = D.data.getD j 0
 ok:R.2 = 0 → ∀ j,(k + i) * 128 ≤ j → j < (k + i + n) * 128 → R.1.data.getD j 0 = b.getD (j - k * 128) 0
theorem weak_run (k:Nat) (b:List Int):∀ (n i:Nat) (D:DS),D.off = false → (k + i + n) * 128 ≤ D.data.length → (i + n) * 128 ≤ b.length → WeakQ D k b i n (runD D k b i n):=by
 intro n
 induction n with
 | zero =>
   intro i D _ _ _
   exact ⟨fun _ _ => rfl,fun j h1 h2 => by omega,fun _ j h1 h2 => by omega⟩
 | succ n ih =>
   intro i D ho hd hb
   have hsl:=secL_len b i (by omega)
   have hl:=step_len D (k + i) (secL b i) (by omega) hsl
   obtain ⟨s1,s2,s3⟩:=step_weak D (k + i) (secL b i) (by omega) hsl
   have hsg:∀ j,(k + i) * 128 ≤ j → j < (k + i) * 128 + 128 → (secL b i).getD (j - (k + i) * 128) 0 = b.getD (j - k * 128) 0:=fun j h1 h2 => by
    rw [secL_get _ _ _ (by omega),show i * 128 + (j - (k + i) * 128) = j - k * 128 by omega]
   cases e:(stepD D (k + i) (secL b i)).off
   · rw [run_on e]
     have h:=ih (i + 1) _ e (by rw [hl]; omega) (by omega)
     refine ⟨fun j hj => ?_,fun j h1 h2 => ?_,fun hz j h1 h2 => ?_⟩
     · rw [h.out j (by omega),s1 j (by omega)]
     · by_cases h3:j < (k + i) * 128 + 128
       · left
         rw [h.out j (by omega),s3 e j h1 h3,hsg j h1 h3]
       · rcases h.ins j (by omega) (by omega) with h4 | h4
         · exact .inl h4
         · exact .inr (h4.trans (s1 j (by omega)))
     · by_cases h3:j < (k + i) * 128 + 128
       · rw [h.out j (by omega),s3 e j h1 h3,hsg j h1 h3]
       · exact h.ok hz j (by omega) (by omega)
   · rw [run_off e]
     refine ⟨fun j hj => s1 j (by omega),fun j h1 h2 => ?_,fun hz => by cases hz⟩
     by_cases h3:j < (k + i) * 128 + 128
     · rcases s2 j h1 h3 with h4 | h4
       · exact .inl (h4.trans (hsg j h1 h3))
       · exact .inr h4
     · exact .inr (s1 j (by omega))
def slotG (m:Int) (t:List Int) (j:Nat):Int:=(m :: (be4 t.length ++ t)).getD j 0
theorem slotB_getD (m:Int) (t:List Int) (k j:Nat):(slotB m t k).getD j 0 = slotG m t j:=by
 have e:slotB m t k = (m :: (be4 t.length ++ t)) ++ List.replicate (k * 128 - 5 - t.length) 0:=by
  simp [slotB]
 rw [e,slotG]
 by_cases h:j < (m :: (be4 t.length ++ t)).length
 · rw [getD_append_lt h]
 · rw [getD_append_ge (by omega),List.getD_eq_getElem?_getD,List.getD_eq_getElem?_getD,List.getElem?_eq_none (l:=m :: _) (by omega),List.getElem?_replicate]
   split <;> rfl
theorem slotG_same (m m':Int) (t:List Int) (j:Nat) (h:j ≠ 0):slotG m t j = slotG m' t j:=by
 cases j with
 | zero => exact absurd rfl h
 | succ j => rfl
theorem slotG_past (m:Int) (t:List Int) (j:Nat) (h:tk t.length * 128 ≤ j):slotG m t j = 0:=by
 have h1:=tk_fit t.length
 unfold slotG
 rw [List.getD_eq_getElem?_getD,List.getElem?_eq_none (by simp [be4]; omega)]
 rfl
def reg (D:DS) (a b:Nat):List Int:=(D.data.drop (a * 128)).take (b * 128)
theorem reg_len {D:DS} {a b:Nat} (h:(a + b) * 128 ≤ D.data.length):(reg D a b).length = b * 128:=by
 unfold reg; rw [List.length_take,List.length_drop]; omega
theorem reg_get {D:DS} {a b j:Nat} (h:j < b * 128):(reg D a b).getD j 0 = D.data.getD (a * 128 + j) 0:=by
 unfold reg; rw [getD_take' h,getD_drop']
def LogAt (L:List Int) (ts:List (List Int)) (u:Nat):Prop:=∃ cs R,Reads L cs R false ∧ cs.map textC = ts ∧ cs.flatten.length = u * 128
theorem list_eq {L M:List Int} (h:L.length = M.length) (hg:∀ j,j < L.length → L.getD j 0 = M.getD j 0):L = M:=by
 apply List.ext_getElem h
 intro j h1 h2
 have:=hg j h1
 simpa [List.getD_eq_getElem?_getD,h1,h2] using this
theorem log_same {L L':List Int} {ts:List (List Int)} {u:Nat} (h:LogAt L ts u) (hl:L'.length = L.length) (hb:∀ j,j < u * 128 → L'.getD j 0 = L.getD j 0) (hz:L'.getD (u * 128) 0 = 0):LogAt L' ts u:=by
 obtain ⟨cs,R,hr,ht,hu⟩:=h
 have hle:=congrArg List.length hr.eq
 rw [List.length_append] at hle
 refine ⟨cs,L'.drop (u * 128),⟨?_,hr.good,.inr ?_⟩,ht,hu⟩
 · have e:L'.take (u * 128) = cs.flatten:=by
    refine list_eq (by rw [List.length_take]; omega) (fun j hj => ?_)
    rw [List.length_take] at hj
    rw [getD_take' (by omega),hb j (by omega),hr.eq,getD_append_lt (by omega)]
   rw [← e,List.take_append_drop]
 · rw [getD_drop',Nat.add_zero]
   exact hz
theorem log_more {L L' t:List Int} {ts:List (List Int)} {u:Nat} (h:LogAt L ts u) (hl:L'.length = L.length) (ht:t.length ≤ 262144) (hf:(u + tk t.length) * 128 ≤ L.length) (hb:∀ j,j < u * 128 → L'.getD j 0 = L.getD j 0)
 (hs:∀ j,j < tk t.length * 128 → L'.getD (u * 128 + j) 0 = slotG 1 t j) (hz:(u + tk t.length) * 128 = L.length ∨ L'.getD ((u + tk t.length) * 128) 0 = 0):LogAt L' (ts ++ [t]) (u + tk t.length):=by
 obtain ⟨cs,R,hr,hts,hu⟩:=h
 have hle:=congrArg List.length hr.eq
 rw [List.length_append] at hle
 have hsl:=slotB_len 1 t (tk t.length) (tk_fit t.length)
 refine ⟨cs ++ [slotB 1 t (tk t.length)],L'.drop ((u + tk t.length) * 128),⟨?_,?_,?_⟩,?_,?_⟩
 · have e:L'.take ((u + tk t.length) * 128) = (cs ++ [slotB 1 t (tk t.length)]).flatten:=by
    rw [List.flatten_append,List.flatten_cons,List.flatten_nil,List.append_nil]
    refine list_eq (by rw [List.length_take,List.length_append]; omega) (fun j hj => ?_)
    rw [List.length_take] at hj
    rw [getD_take' (by omega)]
    by_cases h1:j < u * 128
    · rw [hb j h1,hr.eq,getD_append_lt (by omega),getD_append_lt (by omega)]
    · rw [getD_append_ge (by omega),slotB_getD,hu,← hs _ (by omega),show u * 128 + (j - u * 128) = j by omega]
   rw [← e,List.take_append_drop]
 · intro c hc
   rcases List.mem_append.1 hc with hc | hc
   · exact hr.good c hc
   · rw [List.mem_singleton] at hc
     subst hc
     exact slotB_good t ht
 · rcases hz with hz | hz
   · left; rw [List.drop_eq_nil_iff]; omega
   · right; rw [getD_drop',Nat.add_zero]; exact hz
 · rw [List.map_append,hts,List.map_cons,List.map_nil,slotB_text t ht]
 · rw [List.flatten_append,List.length_append,hu,List.flatten_cons,List.flatten_nil,List.append_nil,hsl]
   omega
structure AppG (D:DS) (S:LS) (t:List Int):Prop where
 len:(appD D S t).1.data.length = D.data.length
 wr:(appD D S t).1.writes ≤ D.writes + (tk t.length + 2)
 get:((appD D S t).2.2 = 0 ∧ (appD D S t).1.off = false ∧ (appD D S t).2.1 = { S with used:=S.used + tk t.length,texts:=S.texts ++ [t] } ∧ LogAt (reg (appD D S t).1 S.from_ S.secs) (S.texts ++ [t]) (S.used + tk t.length)) ∨
  ((appD D S t).2.2 = 12 ∧ (appD D S t).1.off = true ∧ (appD D S t).2.1 = { S with lost:=true } ∧ (LogAt (reg (appD D S t).1 S.from_ S.secs) S.texts S.used ∨ LogAt (reg (appD D S t).1 S.from_ S.secs) (S.texts ++ [t]) (S.used + tk t.length)))
theorem app_log {D:DS} {S:LS} {t:List Int} (hl:LogAt (reg D S.from_ S.secs) S.texts S.used) (hlost:S.lost = false) (ho:D.off = false) (hend:(S.from_ + S.secs) * 128 ≤ D.data.length) (ht:t.length ≤ 262144) (hfit:S.used + tk t.length ≤ S.secs):AppG D S t:=by
 have hk:=run_first (k:=firstK t.length (S.secs - S.used)) (n:=t.length) (F:=S.secs - S.used) (by omega) rfl
 have hkv:firstK t.length (S.secs - S.used) = min (tk t.length + 1) (S.secs - S.used):=rfl
 obtain ⟨k,hke⟩:∃ k,k = firstK t.length (S.secs - S.used):=⟨_,rfl⟩
 have htp:=tk_pos t.length
 have hq:=writ_q (D:=D) (p:=S.from_ + S.used) (k:=k) (t:=t) ho (by rw [hke]; omega) (by rw [hke]; omega)
 have happ:appD D S t = if (writD D (S.from_ + S.used) t k).2 = 0 then ((writD D (S.from_ + S.used) t k).1,{ S with used:=S.used + tk t.length,texts:=S.texts ++ [t] },0) else ((writD D (S.from_ + S.used) t k).1,{ S with lost:=true },(writD D (S.from_ + S.used) t k).2):=by
  unfold appD
  rw [if_neg (by rw [hlost,ho]; simp),if_neg (by omega),if_neg (by omega),← hke]
 rw [← hke] at hk hkv
 have hreg:=reg_len (D:=D) (a:=S.from_) (b:=S.secs) hend
 have hold:D.data.getD ((S.from_ + S.used) * 128) 0 = 0:=by
  obtain ⟨cs,R,hr,_,hu⟩:=hl
  have h1:=congrArg List.length hr.eq
  rw [List.length_append,hreg] at h1
  have h2:R.getD 0 0 = 0:=by
   rcases hr.tail with h | h
   · rw [h]; rfl
   · exact h
  rw [show (S.from_ + S.used) * 128 = S.from_ * 128 + S.used * 128 by omega,← reg_get (b:=S.secs) (by omega),hr.eq,getD_append_ge (by omega),hu,Nat.sub_self]
  exact h2
 have hw:=weak_run (S.from_ + S.used) (slotB 0 t k) k 0 D ho (by omega) (by rw [slotB_len _ _ _ (by omega)]; omega)
 have hq1:=run_q (S.from_ + S.used) (slotB 0 t k) k 0 D ho (by omega) (by rw [slotB_len _ _ _ (by omega)]; omega)
 have key:∀ D':DS,D'.data.length = D.data.length → (∀ j,j < (S.from_ + S.used) * 128 → D'.data.getD j 0 = D.data.getD j 0) →
  (D'.data.getD ((S.from_ + S.used) * 128) 0 = 0 → LogAt (reg D' S.from_ S.secs) S.texts S.used) ∧
  ((∀ j,j < k * 128 → D'.data.getD ((S.from_ + S.used) * 128 + j) 0 = slotG 1 t j) → LogAt (reg D' S.from_ S.secs) (S.texts ++ [t]) (S.used + tk t.length)):=by
  intro D' hl' hb
  have hreg':=reg_len (D:=D') (a:=S.from_) (b:=S.secs) (by omega)
  have hbb:∀ j,j < S.used * 128 → (reg D' S.from_ S.secs).getD j 0 = (reg D S.from_ S.secs).getD j 0:=fun j hj => by
   rw [reg_get (by omega),reg_get (by omega),hb _ (by omega)]
  refine ⟨fun hz => log_same hl (by rw [hreg,hreg']) hbb ?_,fun hs => log_more hl (by rw [hreg,hreg']) ht (by rw [hreg]; omega) hbb (fun j hj => ?_) ?_⟩
  · rw [reg_get (by omega),show S.from_ * 128 + S.used * 128 = (S.from_ + S.used) * 128 by omega]; exact hz
  · rw [reg_get (by omega),show S.from_ * 128 + (S.used * 128 + j) = (S.from_ + S.used) * 128 + j by omega]
    exact hs j (by omega)
  · by_cases h1:(S.used + tk t.length) * 128 = S.secs * 128
    · left; rw [hreg]; exact h1
    · right
      rw [reg_get (by omega),show S.from_ * 128 + (S.used + tk t.length) * 128 = (S.from_ + S.used) * 128 + tk t.length * 128 by omega,hs _ (by omega)]
      exact slotG_past _ _ _ (Nat.le_refl _)
 obtain ⟨W,hW⟩:∃ W,W = writD D (S.from_ + S.used) t k:=⟨_,rfl⟩
 rw [← hW] at happ hq
 have hlen1:W.1.data.length = D.data.length:=hq.len
 have hsl0:∀ j,(slotB 0 t k).getD j 0 = slotG 0 t j:=slotB_getD 0 t k
 have hout:(∀ j,j < (S.from_ + S.used) * 128 → W.1.data.getD j 0 = D.data.getD j 0) ∧ ((W.1.data.getD ((S.from_ + S.used) * 128) 0 = 0 ∧ W.2 ≠ 0) ∨ ∀ j,j < k * 128 → W.1.data.getD ((S.from_ + S.used) * 128 + j) 0 = slotG 1 t j):=by
  rw [hW]
  by_cases e1:(runD D (S.from_ + S.used) (slotB 0 t k) 0 k).2 = 0
  · rw [writD_yes e1]
    have hl1:=hq1.len
    have hb2:=take128_len 1 t k (by omega)
    have hw2:=weak_run (S.from_ + S.used) ((slotB 1 t k).take 128) 1 0 (runD D (S.from_ + S.used) (slotB 0 t k) 0 k).1 (hq1.on e1) (by omega) (by omega)
    have hg2:∀ j,j < 128 → ((slotB 1 t k).take 128).getD j 0 = slotG 1 t j:=fun j hj => by rw [getD_take' hj,slotB_getD]
    have hg1:∀ j,j < k * 128 → (runD D (S.from_ + S.used) (slotB 0 t k) 0 k).1.data.getD ((S.from_ + S.used) * 128 + j) 0 = slotG 0 t j:=fun j hj => by
     rw [hw.ok e1 _ (by omega) (by omega),hsl0,show (S.from_ + S.used) * 128 + j - (S.from_ + S.used) * 128 = j by omega]
    refine ⟨fun j hj => by rw [hw2.out j (by omega),hw.out j (by omega)],?_⟩
    have hrest:∀ j,j ≠ 0 → j < k * 128 → (runD (runD D (S.from_ + S.used) (slotB 0 t k) 0 k).1 (S.from_ + S.used) ((slotB 1 t k).take 128) 0 1).1.data.getD ((S.from_ + S.used) * 128 + j) 0 = slotG 1 t j:=fun j h0 hj => by
     by_cases h1:j < 128
     · rcases hw2.ins ((S.from_ + S.used) * 128 + j) (by omega) (by omega) with h2 | h2
       · rw [h2,show (S.from_ + S.used) * 128 + j - (S.from_ + S.used) * 128 = j by omega,hg2 j h1]
       · rw [h2,hg1 j hj,slotG_same 0 1 t j h0]
     · rw [hw2.out _ (by omega),hg1 j hj,slotG_same 0 1 t j h0]
    by_cases e2:(runD (runD D (S.from_ + S.used) (slotB 0 t k) 0 k).1 (S.from_ + S.used) ((slotB 1 t k).take 128) 0 1).2 = 0
    · right
      intro j hj
      by_cases h0:j = 0
      · subst h0
        rw [hw2.ok e2 _ (by omega) (by omega),show (S.from_ + S.used) * 128 + 0 - (S.from_ + S.used) * 128 = 0 by omega,hg2 0 (by omega)]
      · exact hrest j h0 hj
    · rcases hw2.ins ((S.from_ + S.used) * 128) (by omega) (by omega) with h2 | h2
      · right
        intro j hj
        by_cases h0:j = 0
        · subst h0
          rw [Nat.add_zero,h2,Nat.sub_self,hg2 0 (by omega)]
        · exact hrest j h0 hj
      · left
        have:=hg1 0 (by omega)
        rw [Nat.add_zero] at this
        exact ⟨h2.trans this,e2⟩
  · rw [writD_no e1]
    refine ⟨fun j hj => hw.out j (by omega),.inl ⟨?_,e1⟩⟩
    rcases hw.ins ((S.from_ + S.used) * 128) (by omega) (by omega) with h2 | h2
    · rw [h2,Nat.sub_self,hsl0]; rfl
    · rw [h2,hold]
 obtain ⟨k1,k2⟩:=key W.1 hlen1 hout.1
 have hkk:k ≤ tk t.length + 1:=by omega
 have hwr:=hq.wr
 by_cases e:W.2 = 0
 · rw [if_pos e] at happ
   refine ⟨by rw [happ]; exact hlen1,by rw [happ]; simp only; omega,.inl ⟨by rw [happ],by rw [happ]; exact hq.on e,by rw [happ],?_⟩⟩
   rw [happ]
   rcases hout.2 with h | h
   · exact absurd e h.2
   · exact k2 h
 · rw [if_neg e] at happ
   have hoff:W.1.off = true:=by
    have:=hq.err
    cases h:W.1.off
    · rw [h] at this; exact absurd this e
    · rfl
   have h12:W.2 = 12:=by have:=hq.err; rw [hoff] at this; exact this
   refine ⟨by rw [happ]; exact hlen1,by rw [happ]; simp only; omega,.inr ⟨by rw [happ]; exact h12,by rw [happ]; exact hoff,by rw [happ],?_⟩⟩
   rw [happ]
   rcases hout.2 with h | h
   · exact .inl (k1 h.1)
   · exact .inr (k2 h)
theorem log_reads {L R:List Int} {ts:List (List Int)} {u:Nat} {cs:List (List Int)} {e:Bool} (h:LogAt L ts u) (hr:Reads L cs R e):e = false ∧ cs.map textC = ts ∧ useR cs (List.range cs.length) = u:=by
 obtain ⟨cs',R',hr',ht,hu⟩:=h
 obtain ⟨rfl,rfl,rfl⟩:=reads_one _ _ _ _ _ _ _ hr hr'
 refine ⟨rfl,ht,?_⟩
 have h1:=useR_range hr.good cs.length (Nat.le_refl _)
 have h2:posC cs cs.length = cs.flatten.length:=by unfold posC; rw [List.take_of_length_le (Nat.le_refl _)]
 omega
theorem log_empty (n:Nat):LogAt (List.replicate n 0) [] 0:=by
 refine ⟨[],List.replicate n 0,⟨rfl,by simp,?_⟩,rfl,rfl⟩
 cases n with
 | zero => exact .inl rfl
 | succ n => exact .inr rfl
end Go.Proofs.YteeghgjkjicjoaaGreatDoor.Slt
namespace Go.Proofs.YteeghgjkjicjoaaGreatDoor.Sgm
open Go.RowKit Dsk
def opensL (k C:List Int) (most:Nat):Nat → Nat → List (List Int) → Option (List (List Int))
 | _,_,[] => some []
 | i,least,s :: r => match Seal.openL k C i s with
   | none => none
   | some x => if x.2 < least ∨ most < x.2 then none else (opensL k C most (i + 1) x.2 r).map (x.1 :: ·)
def sealsL (k C:List Int):Nat → List (List Int × Nat) → List (List Int)
 | _,[] => []
 | i,x :: r => Seal.sealL k C i x.2 x.1 :: sealsL k C (i + 1) r
def Ris (most:Nat):Nat → List (List Int × Nat) → Prop
 | _,[] => True
 | least,x :: r => (InB x.1 ∧ x.1.length ≤ 131068) ∧ least ≤ x.2 ∧ x.2 ≤ most ∧ Ris most x.2 r
theorem opens_seals (k C:List Int) (most:Nat) (hm:most < 4294967296):∀ (r:List (List Int × Nat)) (i least:Nat),Ris most least r → opensL k C most i least (sealsL k C i r) = some (r.map (·.1)):=by
 intro r
 induction r with
 | nil => intro i least _; rfl
 | cons x r ih =>
   intro i least h
   obtain ⟨⟨h1,h2⟩,h3,h4,h5⟩:=h
   have he:=Seal.open_seal k C x.1 i x.2 h1 h2 (by omega)
   show opensL k C most i least (Seal.sealL k C i x.2 x.1 :: sealsL k C (i + 1) r) = _
   unfold opensL
   rw [he]
   show (if x.2 < least ∨ most < x.2 then none else _) = _
   rw [if_neg (by omega)]
   show (opensL k C most (i + 1) x.2 (sealsL k C (i + 1) r)).map (x.1 :: ·) = _
   rw [ih (i + 1) x.2 h5]
   rfl
theorem seals_snoc (k C:List Int) (x:List Int × Nat):∀ (r:List (List Int × Nat)) (i:Nat),sealsL k C i (r ++ [x]) = sealsL k C i r ++ [Seal.sealL k C (i + r.length) x.2 x.1]:=by
 intro r
 induction r with
 | nil => intro i; rfl
 | cons y r ih =>
   intro i
   show Seal.sealL k C i y.2 y.1 :: sealsL k C (i + 1) (r ++ [x]) = _
   rw [ih (i + 1),List.length_cons,show i + 1 + r.length = i + (r.length + 1) by omega]
   rfl
theorem seals_len (k C:List Int):∀ (r:List (List Int × Nat)) (i:Nat),(sealsL k C i r).length = r.length:=by
 intro r
 induction r with
 | nil => intro i; rfl
 | cons y r ih => intro i; show _ + 1 = _; rw [ih]; rfl
theorem Ris.mono {most most':Nat} (h:most ≤ most'):∀ {r:List (List Int × Nat)} {least:Nat},Ris most least r → Ris most' least r:=by
 intro r
 induction r with
 | nil => intro least _; trivial
 | cons x r ih => intro least h2; exact ⟨h2.1,h2.2.1,Nat.le_trans h2.2.2.1 h,ih h2.2.2.2⟩
theorem Ris.snoc {most:Nat} {t:List Int} (ht:InB t) (hl:t.length ≤ 131068):∀ {r:List (List Int × Nat)} {least:Nat},least ≤ most → Ris most least r → Ris most least (r ++ [(t,most)]):=by
 intro r
 induction r with
 | nil => intro least h1 _; exact ⟨⟨ht,hl⟩,h1,Nat.le_refl _,trivial⟩
 | cons x r ih => intro least h1 h2; exact ⟨h2.1,h2.2.1,h2.2.2.1,ih h2.2.2.1 h2.2.2.2⟩
def roomA (r:Int):Nat → Nat → Int → Int
 | 0,_,n => n
 | f + 1,b,n => if 36 + (b:Int) ≤ r then roomA r f (2 * b) ((b:Int) - 4) else n
def roomL (r:Int):Int:=roomA r 12 64 (-1)
end Go.Proofs.YteeghgjkjicjoaaGreatDoor.Sgm
namespace Go.Proofs.YteeghgjkjicjoaaGreatDoor.Slt
open Go.RowKit Dsk
attribute [local go_sem] Oper.semAt_some
def OpenR (w:World) (K:DK) (a b:Nat) (cs:List (List Int)) (e:Bool) (v:Ending) (w':World):Prop :=
 (e = true ∧ v = .returned (.tuple #[.pointer none,.int .i64 9])) ∨
 (e = false ∧ ∃ J:LK,v = .returned (.tuple #[.pointer (some ⟨J.g,0,none⟩),.int .i64 0]) ∧ Lg w' K J ⟨a,b,useR cs (List.range cs.length),cs.map textC,false⟩ ∧ (∀ q ∈ J.bl,w.heap.size ≤ q) ∧ (∀ q ∈ J.tx,w.heap.size ≤ q))
def rowN (K:DK) (a b:Int):Array Value:=#[.pointer none,K.ptr,.int .i64 a,.int .i64 b,.int .i64 0,.slice none 0 0,.bool false]
theorem built_log (K:DK) (a b:Int):Tryz.prog.built 125 [(1,K.ptr),(2,.int .i64 a),(3,.int .i64 b)] = some (rowN K a b):=by kernel_rfl
theorem records_stops (m Bb:Nat) (hm:2 ≤ m) (g off n cap:Nat) (L R:List Int) (cs:List (List Int)) (e:Bool) (hn:L.length = n) (hmod:n % 128 = 0) (hsm:n ≤ 4194304) (hi:InB L) (hr:Reads L cs R e) (w:World)
 (hb:Boxed w Bb 38 (.slice (some ⟨g,off,none⟩) n cap)) (hB:Byt w (some ⟨g,off,none⟩) cap L) (hgl:g < w.heap.size) :
 SeqStopsK Fence.wide m Tryz.prog 104 #[.pointer (some ⟨Bb,0,none⟩)] (encR g off cap cs) (KpR Bb g) (fun ys => ys = (if e then List.range (cs.length + 1) else List.range cs.length)) (PreR cs e) (cs.length + 1) w:=fun l J Jx W hW hJ _ hY h0 =>
 records1_in m l Bb hm g off n cap L R cs e hn hmod hsm hi hr J Jx (fun pre W1 W2 h hb => hJ pre W1 W2 none h ⟨hb.os,hb.tape,hb.output,hb.size,fun k hk _ => hb.block k hk⟩ (fun r e => by cases e)) hY W ((hW.block _ hb.lt).trans hb) (hB.below hW (Nat.le_refl _)) (Nat.lt_of_lt_of_le hgl hW.size) h0
theorem others_chg {T:List Nat} {W W':World} (hc:Chg T W W') (hT:∀ q ∈ T,∃ C t fr,W.heap[q]? = some (.cells C t fr)):KeepsOthers W W' :=
 ⟨hc.size,fun k o hk hn => by
  refine (hc.block k (Array.getElem?_eq_some_iff.1 hk).1 (fun hm => ?_)).trans hk
  obtain ⟨C,t,fr,h⟩:=hT k hm
  rw [hk] at h
  cases h
  cases hn⟩
theorem Lg0.cells_of {w:World} {K:DK} {J:LK} {S:LS} (h:Lg0 w K J S):∀ q ∈ J.bl,∃ C t fr,w.heap[q]? = some (.cells C t fr):=by
 intro q hq
 simp only [LK.bl,List.mem_cons,Option.mem_toList] at hq
 rcases hq with rfl | hq
 · exact ⟨_,_,_,h.row⟩
 · rcases h.own.2 with ⟨e,_⟩ | ⟨g,cap,cur,e,_,hh,_⟩
   · rw [e] at hq; cases hq
   · rw [e] at hq; cases hq; exact ⟨_,_,_,hh⟩
theorem text_sl {W:World} {gb cap:Nat} {L R:List Int} {cs:List (List Int)} {e:Bool} (hB:Byt W (some ⟨gb,0,none⟩) cap L) (hr:Reads L cs R e) {x:Nat} (hx:x < cs.length):SlB (textC (cs.getD x [])) (.slice (some ⟨gb,0 + posC cs x + 5,none⟩) (lenB (cs.getD x [])) (cap - posC cs x - 5)) W:=by
 have hg:=hr.good _ (getD_mem hx)
 have hl:=hg.len
 have h4:=(good_at hr hx).2.2.2.2
 rw [posC_next hx] at h4
 have hcap:=hB.1
 have htl:=textC_len hg
 have hfit:=tk_fit (lenB (cs.getD x []))
 have hcl:=hg.2.2
 refine ⟨some ⟨gb,0 + posC cs x + 5,none⟩,cap - posC cs x - 5,by rw [htl],by rw [htl]; omega,(fun h => by cases h),fun h0 => ?_⟩
 obtain ⟨g',o',e',hlt,hb⟩:=hB.2.2 (by omega)
 cases e'
 refine ⟨gb,0 + posC cs x + 5,rfl,hlt,fun j hj => ?_⟩
 rw [htl] at hj
 have h1:(textC (cs.getD x [])).getD j 0 = (cs.getD x []).getD (5 + j) 0:=by
  unfold textC
  rw [getD_take' hj,getD_drop']
 have h2:L.getD (posC cs x + 5 + j) 0 = (cs.getD x []).getD (5 + j) 0:=by
  rw [Nat.add_assoc,← getD_drop',drop_cons hr hx,getD_append_lt (by omega)]
 rw [h1,← h2,Nat.zero_add,← hb (posC cs x + 5 + j) (by omega)]
 rw [Nat.zero_add]
theorem text_in {L R:List Int} {cs:List (List Int)} {e:Bool} (hi:InB L) (hr:Reads L cs R e) {x:Nat} (hx:x < cs.length):InB (textC (cs.getD x [])):=by
 have hg:=hr.good _ (getD_mem hx)
 have h2:cs.getD x [] = (L.drop (posC cs x)).take (cs.getD x []).length:=by rw [drop_cons hr hx,List.take_left]
 unfold textC
 rw [h2]
 exact (((hi.drop _).take _).drop 5).take _
set_option maxRecDepth 100000 in
set_option maxHeartbeats 4000000 in
theorem open_walk {w:World} {K:DK} {D:DS} (hd:Dsk w K D) (a b:Nat) (hab:a + b ≤ D.secs) (hb1:1 ≤ b) (ho:D.off = false) {L R:List Int} {cs:List (List Int)} {e:Bool} (hL:L = (D.data.drop (a * 128)).take (b * 128)) (hr:Reads L cs R e) :
 Calls Tryz.prog 42 #[K.ptr,.int .i64 a,.int .i64 b] w fun v w' => OpenR w K a b cs e v w' ∧ Below w.heap.size w w':=by
 have hs:=fun (w':World) (hb:Below w.heap.size w w') => sectors_count (hd.later hb)
 have hrd:=fun (w':World) (hb:Below w.heap.size w w') => read_own (hd.later hb) a b hab ho
 rw [← hL] at hrd
 have h1:0 < D.secs:=hd.ok.one
 have hmost:=hd.ok.most
 have hn:L.length = b * 128:=by have:=hd.ok.whole128; rw [hL,List.length_take,List.length_drop]; omega
 have hi:InB L:=by rw [hL]; exact (hd.ok.inb.drop _).take _
 have hgK:∀ q ∈ K.bl,q < w.heap.size:=by
  intro q hq; simp [DK.bl] at hq
  rcases hq with rfl | rfl
  · exact hd.glt
  · exact hd.hlt
 obtain ⟨s,hs'⟩:∃ s,s = D.secs:=⟨_,rfl⟩
 rw [← hs'] at hs h1 hab hmost
 have Hs:=Lib.hid hs
 have Hrd:=Lib.hid hrd
 have HgK:=Lib.hid hgK
 have Hr:=Lib.hid hr
 have Hn:=Lib.hid hn
 have Hi:=Lib.hid hi
 have hsI:¬ (s:Int) = 0:=by omega
 have hbI:¬ (b:Int) < 1:=by omega
 have hbu:=built_log K a b
 clear hs hrd hd hs' hL hr hn hi hgK
 unfold DK.ptr rowN at *
 refine (callsIn_wide (n:=8)).1 ?_
 refine callsIn_of_wp_marks Tryz.func42 rfl trivial ?_ rfl
 simp only [Tryz.ntmps42,List.size_toArray,List.length_cons,List.length_nil,Nat.reduceAdd,Nat.reduceSub,Array.replicate_succ,Array.replicate_zero,List.push_toArray,List.append_toArray,List.nil_append,List.cons_append]
 gi_wp2_with (first
  | (refine ⟨trivial,?_⟩; gi_at_call 13; refine (callsIn_wide.2 (Hs.out _ (((Below.refl w.heap.size w).alloc (Nat.le_refl _) _).alloc (by rw [World.size_alloc]; omega) _))).mono ?_; rintro e w' ⟨rfl,rfl⟩)
  | (refine ⟨trivial,?_⟩; gi_at_call 74; refine (callsIn_wide.2 (Hrd.out _ (((Below.refl w.heap.size w).alloc (Nat.le_refl _) _).alloc (by rw [World.size_alloc]; omega) _))).mono ?_; rintro e w1 ⟨v1,rfl,hb1,ho1⟩; obtain ⟨gb,sp,rfl,hgb,hrow1⟩:=own_shape ho1 Hn.out (by omega); have Hb1:=Lib.hid hb1; have Hgb:=Lib.hid hgb; have Hrow1:=Lib.hid hrow1; clear hb1 ho1 hgb hrow1)
  | (refine ⟨trivial,?_⟩; gi_at_call 76; refine (callsIn_wide.2 (records_any _ _ _ _)).mono ?_; rintro e w2 ⟨rfl,rfl⟩))
 have hb1':=Hb1.out
 obtain ⟨q1,q2,q3⟩:=two_boxes w none 0
 have t1:=(two_new w (.cells #[.pointer none] 86) (.cells #[.int .i64 0] 33)).1
 have t2:=(two_new w (.cells #[.pointer none] 86) (.cells #[.int .i64 0] 33)).2
 have hsz2:((w.alloc (.cells #[.pointer none] 86)).alloc (.cells #[.int .i64 0] 33)).heap.size = w.heap.size + 2:=by rw [World.size_alloc,World.size_alloc]
 have hgb':=Hgb.out
 rw [hsz2] at hb1' hgb'
 have hw1:w.heap.size + 2 ≤ w1.heap.size:=by have:=hb1'.size; rw [hsz2] at this; exact this
 have r1:=(hb1'.block w.heap.size (by omega)).trans t1
 have r2:=(hb1'.block (w.heap.size + 1) (by omega)).trans t2
 have low1:Below w.heap.size w w1:=q3.trans (hb1'.mono (by omega))
 have hgbl:gb < w1.heap.size:=(Array.getElem?_eq_some_iff.1 Hrow1.out).1
 obtain ⟨cap,hcap⟩:∃ cap,cap = b * 128 + sp.length:=⟨_,rfl⟩
 have hbyt:Byt w1 (some ⟨gb,0,none⟩) cap L:=⟨by have:=Hn.out; omega,(fun h => by cases h),fun _ => ⟨gb,0,rfl,hgbl,fun j hj => by
  rw [Nat.zero_add,cell_row Hrow1.out,List.getElem?_toArray,List.getElem?_append_left (by rw [vals_length]; exact hj)]
  simp [vals,hj]⟩⟩
 obtain ⟨G,hG⟩:∃ G,G = w1.heap.size:=⟨_,rfl⟩
 rw [← hcap,← hG]
 have hx3:=three_new w1 (.cells #[.pointer (some ⟨G,0,none⟩),.pointer (some ⟨K.g,0,none⟩),.int .i64 a,.int .i64 b,.int .i64 0,.slice none 0 0,.bool false] 125) (.cells #[.pointer (some ⟨G,0,none⟩)] 86) (.cells #[.slice (some ⟨gb,0,none⟩) (b * 128) cap] 38)
 have hb3:=below3 w1 (.cells #[.pointer (some ⟨G,0,none⟩),.pointer (some ⟨K.g,0,none⟩),.int .i64 a,.int .i64 b,.int .i64 0,.slice none 0 0,.bool false] 125) (.cells #[.pointer (some ⟨G,0,none⟩)] 86) (.cells #[.slice (some ⟨gb,0,none⟩) (b * 128) cap] 38)
 obtain ⟨W0,hW0⟩:∃ W0,W0 = ((w1.alloc (.cells #[.pointer (some ⟨G,0,none⟩),.pointer (some ⟨K.g,0,none⟩),.int .i64 a,.int .i64 b,.int .i64 0,.slice none 0 0,.bool false] 125)).alloc (.cells #[.pointer (some ⟨G,0,none⟩)] 86)).alloc (.cells #[.slice (some ⟨gb,0,none⟩) (b * 128) cap] 38):=⟨_,rfl⟩
 have hW0s:W0.heap.size = G + 3:=by rw [hW0,World.size_alloc,World.size_alloc,World.size_alloc,hG]
 rw [← hW0] at hx3 hb3 ⊢
 rw [← hG] at hx3 hb3 hw1 hgbl
 obtain ⟨x1,x2,x3⟩:=hx3
 have hOI:OI w K a b cs L gb cap G [] W0:=by
  refine ⟨(hb3.block _ (by omega)).trans r1,(hb3.block _ (by omega)).trans r2,x2,x3,hbyt.below hb3 (by omega),by simp,⟨⟨G,.slice none 0 0,[]⟩,rfl,?_,?_,?_⟩,low1.trans (hb3.mono (by omega))⟩
  · exact ⟨x1,World.ownsRow_nil _ _ _ _,(fun q h => by cases h),(fun i hi => absurd hi (Nat.not_lt_zero _)),(fun q h => by simp [LK.tx] at h),(fun q h => by simp [LK.tx] at h),(fun q hq hm => by simp [LK.bl,Value.ownBlock] at hq; have:=HgK.out q hm; have:=low1.size; omega),(fun t ht => by simp [txtR] at ht)⟩
  · intro q hq; simp [LK.bl,Value.ownBlock] at hq; exact .inl hq
  · intro q hq; simp [LK.tx] at hq
 have HOI:=Lib.hid hOI
 have HX3:=Lib.hid x3
 have Hlow1:=Lib.hid low1
 clear hOI x1 x2 x3 hb3 low1 hbyt r1 r2 t1 t2 q1 q2 q3 hb1' hW0 Hrow1 Hb1 hcap hgb'
 have HG:=Lib.hid hG
 have Hgbl:=Lib.hid hgbl
 have Hw1:=Lib.hid hw1
 clear hG hgbl hw1
 have hbx:Boxed W0 (G + 1 + 1) 38 (.slice (some ⟨gb,0,none⟩) (b * 128) cap):=HX3.out
 refine wpIn_rangeFunc_ownF rfl (by omega) (gf := 104) (lb:=#[.pointer (some ⟨G + 1 + 1,0,none⟩)]) rfl trivial (Go.Proofs.enters_of Tryz.func104 (by kernel_rfl) rfl)
  (records_stops 7 (G + 1 + 1) (by omega) gb 0 (b * 128) cap L R cs e Hn.out (by omega) (by omega) Hi.out Hr.out W0 hbx HOI.out.by_ (by have:=Hgbl.out; omega)) (fun h k => KpR.trans h k)
  (fun W l' o o' hl' ho hc hw => ⟨World.putObj_heap_other (by omega),World.putObj_heap_other (by have:=Hgbl.out; omega)⟩) (Below.refl _ _) (fun _ => rfl)
  (fun pre W => OI w K a b cs L gb cap G pre W)
  (fun c pre W => OX2 w cs c pre W)
  (OI.own (by have:=HOI.out.low.size; exact this))
  (fun c => OX2.own (by have:=HOI.out.low.size; exact this))
  HOI.out
  (fun x => { tmps:=#[.pointer (some ⟨K.g,0,none⟩),.int .i64 a,.int .i64 b,undef,undef,undef,.pointer (some ⟨w.heap.size,0,none⟩),.pointer (some ⟨w.heap.size + 1,0,none⟩),.slice (some ⟨gb,0,none⟩) (b * 128) cap,.int .i64 0,.pointer (some ⟨G + 1,0,none⟩),recV gb 0 cap cs x,.int .i64 (errR cs x),.bool false,.pointer (some ⟨K.g,0,none⟩),.int .i64 s,.bool false,.bool (decide ((b:Int) < 1)),.int .i64 b,.bool (decide ((b:Int) < 1)),.tuple #[.slice (some ⟨gb,0,none⟩) (b * 128) cap,.int .i64 0],.pointer (some ⟨K.g,0,none⟩),.int .i64 a,.int .i64 b,.tuple #[.slice (some ⟨gb,0,none⟩) (b * 128) cap,.int .i64 0],.slice (some ⟨gb,0,none⟩) (b * 128) cap,.int .i64 0,.int .i64 0,.bool false,undef,.pointer (some ⟨K.g,0,none⟩),.int .i64 a,.int .i64 b,.agg #[.pointer none,.pointer (some ⟨K.g,0,none⟩),.int .i64 a,.int .i64 b,.int .i64 0,.slice none 0 0,.bool false],.pointer (some ⟨G,0,none⟩),.pointer (some ⟨G,0,none⟩),.pointer (some ⟨G,0,none⟩),.pointer (some ⟨G,0,none⟩),.pointer (some ⟨G,0,none⟩),.slice (some ⟨gb,0,none⟩) (b * 128) cap,.func (.func 104) #[] #[.pointer (some ⟨G + 1 + 1,0,none⟩)],recV gb 0 cap cs x,.int .i64 (errR cs x),undef,undef,undef,undef,undef,undef,undef],defers:=[] }) ?assign ?body ?done ?stop
 case assign =>
  intro l x W K' hK
  unfold encR
  gi_wp2
  exact hK
 case body =>
  rintro l pre x W hI hlen
  have hS:OI w K a b cs L gb cap G pre W:=hI
  have hcl:cs.length ≤ 16384:=by
   have h1:=good_len Hr.out.good
   have h2:=congrArg List.length Hr.out.eq
   rw [List.length_append,Hn.out] at h2
   omega
  have hW:=hS.low.size
  by_cases hx:x < cs.length
  · dsimp only
    rw [recV_yes hx,errR_yes hx]
    obtain ⟨J,hJg,hJ,hJb,hJt⟩:=hS.lg
    have hul:=useR_le Hr.out.good pre hS.all
    have hkeep:=keep0 hJ (fun q hq => Nat.lt_of_lt_of_le (HgK.out q hq) hW) (text_sl hS.by_ Hr.out hx) (text_in Hi.out Hr.out hx) (by rw [textC_len (Hr.out.good _ (getD_mem hx))]; exact (Hr.out.good _ (getD_mem hx)).2.1) (by simp only [txtR,List.length_map]; omega) (by show useR cs pre ≤ _; omega)
    unfold LK.ptr at hkeep
    rw [hJg] at hkeep
    have Hkeep:=Lib.hid hkeep
    have hbl:=cell_row hS.bl 0
    rw [show (#[Value.pointer (some ⟨G,0,none⟩)]:Array Value)[0]? = some (.pointer (some ⟨G,0,none⟩)) by rfl] at hbl
    obtain ⟨ox,hox⟩:∃ ox,ox = 0 + posC cs x + 5:=⟨_,rfl⟩
    obtain ⟨lx,hlx⟩:∃ lx,lx = lenB (cs.getD x []):=⟨_,rfl⟩
    obtain ⟨cx,hcx⟩:∃ cx,cx = cap - posC cs x - 5:=⟨_,rfl⟩
    rw [← hox,← hlx,← hcx] at hkeep Hkeep ⊢
    have Hlx:=Lib.hid hlx
    have HS:=Lib.hid hS
    have HJ:=Lib.hid hJ
    have HJb:=Lib.hid hJb
    have HJt:=Lib.hid hJt
    have hlI:(lx:Int) ≤ 262144:=by have:=(Hr.out.good _ (getD_mem hx)).2.1; omega
    clear hI hS hJ hJb hJt hkeep hul hox hlx hcx
    gi_wp2_with (refine ⟨trivial,?_⟩; gi_at_call 77; refine (CallsIn.inRound l (callsIn_wide.2 Hkeep.out)).mono ?_; rintro e2 W3 ⟨rfl,J',hq⟩; have Hq:=Lib.hid hq; clear hq)
    have hS:=HS.out
    have q:=Hq.out
    have hnb:∀ k,k < G → k ∉ J.bl:=fun k hk hm => by rcases HJb.out k hm with h | h <;> omega
    have hn1:G + 1 ∉ J.bl:=fun hm => by rcases HJb.out _ hm with h | h <;> omega
    have hn2:G + 1 + 1 ∉ J.bl:=fun hm => by rcases HJb.out _ hm with h | h <;> omega
    have hbb:=(Array.getElem?_eq_some_iff.1 hS.bb).1
    have hw1:=Hw1.out
    have hgbl:=Hgbl.out
    have htl:(textC (cs.getD x [])).length = lenB (cs.getD x []):=textC_len (Hr.out.good _ (getD_mem hx))
    refine ⟨others_chg q.chg HJ.out.cells_of,⟨q.chg.block _ hbb hn2,q.chg.block _ (by omega) (hnb _ hgbl)⟩,q.chg.at hS.r1 (hnb _ (by omega)),q.chg.at hS.r2 (hnb _ (by omega)),q.chg.at hS.bl hn1,q.chg.at hS.bb hn2,byt_chg hS.by_ q.chg (fun _ a ha => by cases ha; exact hnb _ hgbl),?_,⟨J',q.g.trans hJg,?_,?_,?_⟩,?_⟩
    · intro y hy
      rcases List.mem_append.1 hy with hy | hy
      · exact hS.all y hy
      · simp at hy; subst hy; exact hx
    · rw [useR_next,txtR_next]
      have h0:=q.lg0
      rw [htl] at h0
      exact h0
    · intro k hk
      rcases q.bl k hk with h | h
      · exact HJb.out k h
      · right; omega
    · intro k hk
      rcases q.tx k hk with h | h
      · exact HJt.out k h
      · omega
    · exact q.chg.below hS.low (by omega) (fun k hk => by rcases HJb.out k hk with h | h <;> omega)
  · dsimp only
    rw [recV_no hx,errR_no hx]
    have c1:=cell_row hS.r1 0
    have c2:=cell_row hS.r2 0
    have f1:=free_row hS.r1 0
    have f2:=free_row hS.r2 0
    have HS:=Lib.hid hS
    clear hI hS
    gi_wp2
    have hS:=HS.out
    have hlt:=hS.low.size
    have hr1:=(Array.getElem?_eq_some_iff.1 hS.r1).1
    refine ⟨(KeepsOthers.setCell _ _ _).trans (KeepsOthers.setCell _ _ _),rfl,?_,?_,⟨x,by simp,by omega⟩,(hS.low.setCell (Nat.le_refl _) _).setCell (by simp) _⟩
    · rw [heap_setCell_other _ _ _ _ (by simp),heap_setCell_same _ _ _ _ _ _ hS.r1]
      rfl
    · have h2:(W.setCell ⟨w.heap.size,0,none⟩ (.pointer none)).heap[w.heap.size + 1]? = some (.cells #[.int .i64 0] 33 (0,0)):=by
       rw [heap_setCell_other _ _ _ _ (by simp)]; exact hS.r2
      rw [heap_setCell_same _ _ _ _ _ _ h2]
      rfl
 case done =>
  rintro D' ys W hD hys hI hK
  have hS:OI w K a b cs L gb cap G ys W:=hI
  cases e with
  | true =>
    have:=hS.all cs.length (by rw [hys]; simp)
    omega
  | false =>
    have hys':ys = List.range cs.length:=by simpa using hys
    subst hys'
    have c1:=cell_row hS.r1 0
    have c2:=cell_row hS.r2 0
    have c3:=cell_row hS.bl 0
    have f1:=free_row hS.r1 0
    have f2:=free_row hS.r2 0
    have HS:=Lib.hid hS
    have HK:=Lib.hid hK
    have HD:=Lib.hid hD
    clear hI hS hys hK hD
    gi_wp2
    have hKa:=(KeepsOthers.setCell W ⟨w.heap.size,0,none⟩ (.pointer (some ⟨G,0,none⟩))).same D' _ HK.out rfl
    have hKb:=(KeepsOthers.setCell (W.setCell ⟨w.heap.size,0,none⟩ (.pointer (some ⟨G,0,none⟩))) ⟨w.heap.size + 1,0,none⟩ (.int .i64 0)).same D' _ hKa rfl
    refine ⟨by simp,.inl ⟨_,_,rfl,run_takeDeferred hKb,?_⟩⟩
    have hS:=HS.out
    have hlt:=hS.low.size
    have hw1:=Hw1.out
    have hD0:=HD.out
    obtain ⟨J,hJg,hJ,hJb,hJt⟩:=hS.lg
    have g1:(W.setCell ⟨w.heap.size,0,none⟩ (.pointer (some ⟨G,0,none⟩))).heap[w.heap.size]? = some (.cells #[.pointer (some ⟨G,0,none⟩)] 86 (0,0)):=by
     rw [heap_setCell_same _ _ _ _ _ _ hS.r1]; rfl
    have g2:(W.setCell ⟨w.heap.size,0,none⟩ (.pointer (some ⟨G,0,none⟩))).heap[w.heap.size + 1]? = some (.cells #[.int .i64 0] 33 (0,0)):=by
     rw [heap_setCell_other _ _ _ _ (by simp)]; exact hS.r2
    have g3:((W.setCell ⟨w.heap.size,0,none⟩ (.pointer (some ⟨G,0,none⟩))).setCell ⟨w.heap.size + 1,0,none⟩ (.int .i64 0)).heap[w.heap.size]? = some (.cells #[.pointer (some ⟨G,0,none⟩)] 86 (0,0)):=by
     rw [heap_setCell_other _ _ _ _ (by simp)]; exact g1
    have g4:((W.setCell ⟨w.heap.size,0,none⟩ (.pointer (some ⟨G,0,none⟩))).setCell ⟨w.heap.size + 1,0,none⟩ (.int .i64 0)).heap[w.heap.size + 1]? = some (.cells #[.int .i64 0] 33 (0,0)):=by
     rw [heap_setCell_same _ _ _ _ _ _ g2]; rfl
    have hch:Chg [w.heap.size,w.heap.size + 1] W ((W.setCell ⟨w.heap.size,0,none⟩ (.pointer (some ⟨G,0,none⟩))).setCell ⟨w.heap.size + 1,0,none⟩ (.int .i64 0)):=((Chg.refl _ W).setCell (by simp) _).setCell (by simp) _
    have hJ5:=hJ.chg hch (fun q hq hm => by simp at hm; rcases hJb q hq with h | h <;> omega) (fun q hq hm => by simp at hm; have:=hJt q hq; omega)
    have hlow5:=(hS.low.setCell (p:=⟨w.heap.size,0,none⟩) (Nat.le_refl _) (.pointer (some ⟨G,0,none⟩))).setCell (p:=⟨w.heap.size + 1,0,none⟩) (by simp) (.int .i64 0)
    obtain ⟨W5,hW5⟩:∃ W5,W5 = (W.setCell ⟨w.heap.size,0,none⟩ (.pointer (some ⟨G,0,none⟩))).setCell ⟨w.heap.size + 1,0,none⟩ (.int .i64 0):=⟨_,rfl⟩
    rw [← hW5] at g3 g4 hJ5 hlow5 hKb ⊢
    have hgr:=grownBy_putObj' W5 D' (.deferred none)
    have hrw:∀ r,some D' = some r → ∃ o:Obj,W5.heap[r]? = some o ∧ o.isCells = false:=fun r e => by cases e; exact ⟨_,hKb,rfl⟩
    have hJ6:=hJ5.stays hgr hrw
    rw [txtR_all] at hJ6
    have hur:=useR_range Hr.out.good cs.length (Nat.le_refl _)
    have hpl:=posC_le Hr.out cs.length
    rw [Hn.out] at hpl
    have hge:=useR_ge cs (List.range cs.length)
    rw [List.length_range] at hge
    refine ⟨_,open_results rfl rfl rfl (cell_kept (cell_row g3 0) hgr hrw) (cell_kept (cell_row g4 0) hgr hrw),.inr ⟨rfl,J,by rw [hJg],⟨hJ6,by show useR cs _ ≤ b; omega,by show a + b ≤ 16384; omega,by simp only [List.length_map]; exact hge⟩,?_,?_⟩,hlow5.trans (belowK_b (w:=w) (Nat.le_refl _) W5 D' _ _ (by omega) hKb rfl rfl)⟩
    · intro q hq
      rcases hJb q hq with h | h <;> omega
    · intro q hq
      have:=hJt q hq
      omega
 case stop =>
  rintro D' c pre W hD hpre hI hK
  have hS:OX2 w cs c pre W:=hI
  obtain ⟨rfl,r1,r2,⟨x,hx,hxl⟩,hlow⟩:=hS
  have he:e = true:=by
   rcases (hpre:PreR cs e pre) x hx with h | h
   · omega
   · exact h
  subst he
  have HK:=Lib.hid hK
  have HD:=Lib.hid hD
  clear hI hK hD hpre
  gi_wp2
  refine ⟨by simp,.inl ⟨_,_,rfl,run_takeDeferred HK.out,?_⟩⟩
  have hgr:=grownBy_putObj' W D' (.deferred none)
  have hrw:∀ r,some D' = some r → ∃ o:Obj,W.heap[r]? = some o ∧ o.isCells = false:=fun r e => by cases e; exact ⟨_,HK.out,rfl⟩
  have hlt:=HOI.out.low.size
  have hD0:=HD.out
  exact ⟨_,open_results rfl rfl rfl (cell_kept (cell_row r1 0) hgr hrw) (cell_kept (cell_row r2 0) hgr hrw),.inl ⟨rfl,rfl⟩,hlow.trans (belowK_b (w:=w) (Nat.le_refl _) W D' _ _ (by omega) HK.out rfl rfl)⟩
end Go.Proofs.YteeghgjkjicjoaaGreatDoor.Slt
namespace Go.Proofs.YteeghgjkjicjoaaGreatDoor.Epo
open Go.RowKit Dsk
theorem only_any (x:Int) (w:World):Calls Tryz.prog 103 #[.int .u8 x] w fun e w' => e = .returned (.func (.func 121) #[] #[.pointer (some ⟨w.heap.size,0,none⟩)]) ∧ w' = w.alloc (.cells #[.int .u8 x] 5):=by
 go_enter Tryz.func103,Tryz.ntmps103
 go_wp2
 go_ret
 exact ⟨rfl,rfl⟩
theorem only1_any (x y:Int) (g:Nat) (w:World) (hc:w.cell? ⟨g,0,none⟩ = some (.int .u8 x)):Calls Tryz.prog 121 #[.int .u8 y,.pointer (some ⟨g,0,none⟩)] w fun e w' => e = .returned (.bool (decide (y = x))) ∧ w = w':=by
 by_cases e:y = x
 · subst e
   rw [decide_eq_true rfl]
   go_enter Tryz.func121,Tryz.ntmps121
   go_wp2
   go_ret
   simp
 · have hb:(y == x) = false:=beq_eq_false_iff_ne.2 e
   rw [decide_eq_false e]
   go_enter Tryz.func121,Tryz.ntmps121
   go_wp2
   go_ret
   simp
set_option maxRecDepth 100000 in
theorem leading_any (x:Int) (g:Nat) (w:World) (hc:w.cell? ⟨g,0,none⟩ = some (.int .u8 x)) (A:Option Addr) (c n:Nat) (L:List Int) (hB:Byt w A c L) (hn:L.length = n) (hmax:n ≤ 4194304) :
 Calls Tryz.prog 102 #[.slice A n c,.func (.func 121) #[] #[.pointer (some ⟨g,0,none⟩)]] w fun e w' => e = .returned (.int .i64 (lead x L)) ∧ w = w':=by
 have HB:=Lib.hid hB
 have Hn:=Lib.hid hn
 have HC:=Lib.hid hc
 have Hle:=Lib.hid (lead_le x L)
 clear hB hn hc
 go_enter Tryz.func102,Tryz.ntmps102
 go_upto_region 2 with (fail)
 go_loopw [9] (fun v wr => ∃ k:Nat,k ≤ lead x L ∧ v = .int .i64 k ∧ wr = w) (fun v _ => n - (intOf v).toNat)
 case atStart => exact ⟨0,Nat.zero_le _,rfl,rfl⟩
 case round =>
  obtain ⟨k,hk,rfl,rfl⟩:=hrel
  by_cases hlt:k < n
  · have hltI:(k:Int) < (n:Int):=by omega
    obtain ⟨b,off,rfl,hb,hcell⟩:=HB.out.2.2 (by have:=Hn.out; omega)
    have hck:=hcell k (by have:=Hn.out; omega)
    obtain ⟨y,hy⟩:∃ y,y = L.getD k 0:=⟨_,rfl⟩
    rw [← hy] at hck
    have Hy:=Lib.hid hy
    clear hcell hy hb
    by_cases e:y = x
    · have He:=Lib.hid e
      have Hc:=Lib.hid (only1_any x y g wr HC.out)
      rw [decide_eq_true e] at Hc
      clear e
      go_wp2_with (go_at_call 121; refine Hc.out.mono ?_; rintro e w' ⟨rfl,rfl⟩)
      refine ⟨⟨k + 1,?_,by go_num,trivial⟩,by simp [intOf]; omega⟩
      rcases Nat.lt_or_ge k (lead x L) with h | h
      · omega
      · have e1:lead x L = k:=by omega
        have:=lead_stop x L (by have:=Hn.out; omega)
        rw [e1,← Hy.out] at this
        exact absurd He.out this
    · have He:=Lib.hid e
      have Hc:=Lib.hid (only1_any x y g wr HC.out)
      rw [decide_eq_false e] at Hc
      clear e
      go_wp2_with (go_at_call 121; refine Hc.out.mono ?_; rintro e w' ⟨rfl,rfl⟩)
      go_ret
      refine ⟨?_,rfl⟩
      have e1:lead x L = k:=by
       rcases Nat.lt_or_ge k (lead x L) with h | h
       · have:=lead_get x L k h
         rw [← Hy.out] at this
         exact absurd this He.out
       · omega
      rw [e1]
      rfl
  · have hltI:¬ (k:Int) < (n:Int):=by omega
    go_wp2
    go_ret
    refine ⟨?_,rfl⟩
    have:=Hle.out
    have:=Hn.out
    rw [show lead x L = n by omega]
    rfl
theorem byt_from {w:World} {g off c n:Nat} {L:List Int} (h:Byt w (some ⟨g,off,none⟩) c L) (hn:L.length = n) (p:Nat) (hp:p ≤ n):Byt w (if c = p then some ⟨g,0,none⟩ else some ⟨g,off + p,none⟩) (c - p) (L.drop p):=by
 have h1:=h.1
 refine ⟨by rw [List.length_drop]; omega,(fun h => by split at h <;> cases h),fun hl => ?_⟩
 rw [List.length_drop] at hl
 obtain ⟨g',o',e',hlt,hb⟩:=h.2.2 (by omega)
 cases e'
 rw [if_neg (by omega)]
 refine ⟨g,off + p,rfl,hlt,fun j hj => ?_⟩
 rw [List.length_drop] at hj
 rw [Nat.add_assoc,hb _ (by omega),getD_drop'']
set_option maxRecDepth 100000 in
theorem valueOf_any (w:World) (g c n:Nat) (L:List Int) (hB:Byt w (some ⟨g,0,none⟩) c L) (hn:L.length = n) (hmax:n ≤ 4194304) :
 Calls Tryz.prog 75 #[.slice (some ⟨g,0,none⟩) n c] w fun e w' => e = .returned (.tuple #[.int .i64 (tellV L),.int .i64 (tellE L)]) ∧ Below w.heap.size w w':=by
 have hl1:Below w.heap.size w (w.alloc (.cells #[.int .u8 1] 5)):=(Below.refl _ _).alloc (Nat.le_refl _) _
 have k1:(w.alloc (.cells #[.int .u8 1] 5)).cell? ⟨w.heap.size,0,none⟩ = some (.int .u8 1):=cell_row (Go.heap_alloc_new w _) 0
 obtain ⟨w1,hw1⟩:∃ w1,w1 = w.alloc (.cells #[.int .u8 1] 5):=⟨_,rfl⟩
 rw [← hw1] at hl1 k1
 have Hw1:=Lib.hid hw1.symm
 have H1:=Lib.hid (leading_any 1 _ w1 k1 (some ⟨g,0,none⟩) c n L (hB.below hl1 (Nat.le_refl _)) hn hmax)
 obtain ⟨p,hp⟩:∃ p,p = lead 1 L:=⟨_,rfl⟩
 have hpn:p ≤ n:=by rw [hp,← hn]; exact lead_le 1 L
 have hcn:n ≤ c:=by rw [← hn]; exact hB.1
 have hB2:=byt_from hB hn p hpn
 have hl2:Below w1.heap.size w1 (w1.alloc (.cells #[.int .u8 0] 5)):=(Below.refl _ _).alloc (Nat.le_refl _) _
 have k2:(w1.alloc (.cells #[.int .u8 0] 5)).cell? ⟨w1.heap.size,0,none⟩ = some (.int .u8 0):=cell_row (Go.heap_alloc_new w1 _) 0
 obtain ⟨w2,hw2⟩:∃ w2,w2 = w1.alloc (.cells #[.int .u8 0] 5):=⟨_,rfl⟩
 rw [← hw2] at hl2 k2
 have Hw2:=Lib.hid hw2.symm
 have hl12:=hl1.trans (hl2.mono hl1.size)
 have H2:=Lib.hid (leading_any 0 _ w2 k2 _ (c - p) (n - p) (L.drop p) (hB2.below hl12 (Nat.le_refl _)) (by rw [List.length_drop,hn]) (by omega))
 have Low:=Lib.hid hl12
 rw [← hp] at H1
 have hr:restL L = L.drop p:=by rw [restL,hp]
 have hrl:(restL L).length = n - p:=by rw [hr,List.length_drop,hn]
 rw [tellV,tellE,hrl,← hp]
 rw [← hr] at H2
 obtain ⟨q,hq⟩:∃ q,q = lead 0 (restL L):=⟨_,rfl⟩
 rw [← hq] at H2 ⊢
 have O1:Hid (Calls Tryz.prog 103 #[.int .u8 1] w fun e w' => e = .returned (.func (.func 121) #[] #[.pointer (some ⟨w.heap.size,0,none⟩)]) ∧ w' = w1):=(only_any 1 w).mono (fun e w' h => ⟨h.1,h.2.trans Hw1.out⟩)
 have O2:Hid (Calls Tryz.prog 103 #[.int .u8 0] w1 fun e w' => e = .returned (.func (.func 121) #[] #[.pointer (some ⟨w1.heap.size,0,none⟩)]) ∧ w' = w2):=(only_any 0 w1).mono (fun e w' h => ⟨h.1,h.2.trans Hw2.out⟩)
 obtain ⟨b1,hb1⟩:∃ b,b = w.heap.size:=⟨_,rfl⟩
 obtain ⟨b2,hb2⟩:∃ b,b = w1.heap.size:=⟨_,rfl⟩
 rw [← hb1] at H1 O1
 rw [← hb2] at H2 O2
 clear hB hB2 hn hp hr hrl hq hl1 hl2 hl12 k1 k2 hw1 hw2 hb1 hb2 Hw1 Hw2
 by_cases e:c = p
 · have hpn':p = n:=by omega
   rw [if_pos e,show n - p = 0 by omega,show c - p = 0 by omega] at H2
   rw [if_neg (by omega),if_neg (by omega)]
   subst e hpn'
   have hqI:¬ (q:Int) < 0:=by omega
   go_enter Tryz.func75,Tryz.ntmps75
   go_wp2_with (first
    | (go_at_call 103; with_reducible refine O1.out.mono ?_; rintro e w' ⟨rfl,rfl⟩)
    | (go_at_call 103; with_reducible refine O2.out.mono ?_; rintro e w' ⟨rfl,rfl⟩)
    | (go_at_call 102; with_reducible refine H1.out.mono ?_; rintro e w' ⟨rfl,rfl⟩)
    | (go_at_call 102; with_reducible refine H2.out.mono ?_; rintro e w' ⟨rfl,rfl⟩))
   go_ret2
   exact ⟨rfl,Low.out⟩
 · rw [if_neg e,Nat.zero_add] at H2
   obtain ⟨m,hm⟩:∃ m,m = n - p:=⟨_,rfl⟩
   obtain ⟨d,hd⟩:∃ d,d = c - p:=⟨_,rfl⟩
   have Hd:=Lib.hid hd
   have Hm:=Lib.hid hm
   by_cases hqn:q < n - p
   · rw [if_pos hqn,if_pos hqn]
     have hqI:(q:Int) < ((n - p:Nat):Int):=by omega
     clear hd hm
     go_enter Tryz.func75,Tryz.ntmps75
     go_wp2_with (first
      | (go_at_call 103; with_reducible refine O1.out.mono ?_; rintro e w' ⟨rfl,rfl⟩)
      | (go_at_call 103; with_reducible refine O2.out.mono ?_; rintro e w' ⟨rfl,rfl⟩)
      | (go_at_call 102; with_reducible refine H1.out.mono ?_; rintro e w' ⟨rfl,rfl⟩)
      | (go_at_call 102; with_reducible refine H2.out.mono ?_; rintro e w' ⟨rfl,rfl⟩))
     go_ret2
     exact ⟨rfl,Low.out⟩
   · rw [if_neg hqn,if_neg hqn]
     have hqI:¬ (q:Int) < ((n - p:Nat):Int):=by omega
     clear hd hm
     go_enter Tryz.func75,Tryz.ntmps75
     go_wp2_with (first
      | (go_at_call 103; with_reducible refine O1.out.mono ?_; rintro e w' ⟨rfl,rfl⟩)
      | (go_at_call 103; with_reducible refine O2.out.mono ?_; rintro e w' ⟨rfl,rfl⟩)
      | (go_at_call 102; with_reducible refine H1.out.mono ?_; rintro e w' ⟨rfl,rfl⟩)
      | (go_at_call 102; with_reducible refine H2.out.mono ?_; rintro e w' ⟨rfl,rfl⟩))
     go_ret2
     exact ⟨rfl,Low.out⟩
end Go.Proofs.YteeghgjkjicjoaaGreatDoor.Epo
