/- A region that draws its order, in which two variables are made at whatever moment, and filled by the last steps: all else only reads or calls what leaves old memory alone. It imports nothing of the program. -/
import Derived.StillTail
import Derived.Test.YtkbbhihndigmeaaBasaa
namespace Go.Proofs.Ytkbbhihndigmeaa
open Go Go.RowKit
section
variable {P:Program} {ops:Array Oper} {md:Region.Mode} {w0:World}
def HeadV (P:Program) (md:Region.Mode) (ops:Array Oper) (w0:World) (n m ta tb:Nat) (L:Array Bool→Act→Prop):Nat→Array Bool→Act→Prop
 | 0,done,a=>L done a
 | f+1,done,a=>Region.ready md ops done ≠ [] ∧ ∀ i ∈ Region.ready md ops done,i<n ∧
    ((i=m ∧ ∀ b,w0.heap.size≤b→HeadV P md ops w0 n m ta tb L f (done.setIfInBounds i true) (a.put (some ta) (ptrTo b))) ∨
     (i=m+1 ∧ ∀ b,w0.heap.size≤b→HeadV P md ops w0 n m ta tb L f (done.setIfInBounds i true) (a.put (some tb) (ptrTo b))) ∨
     (i ≠ m∧i ≠ m+1 ∧ ∃ o v,ops[i]? = some o∧Grows P ops w0 o v a∧HeadV P md ops w0 n m ta tb L f (done.setIfInBounds i true) (a.put o.dst v)))
def Fresh2 (w0:World) (ta tb:Nat) (za zb:Obj) (a:Act) (w:World):Prop:=
 Below w0.heap.size w0 w∧(∀ b,a.tmps[ta]? = some (ptrTo b)→w0.heap.size≤b∧w.heap[b]? = some za)∧(∀ b,a.tmps[tb]? = some (ptrTo b)→w0.heap.size≤b∧w.heap[b]? = some zb) ∧
  ∀ b c,a.tmps[ta]? = some (ptrTo b)→a.tmps[tb]? = some (ptrTo c)→b ≠ c
theorem heap_size_lt {w:World} {b:Nat} {z:Obj} (h:w.heap[b]? = some z):b<w.heap.size:=(Array.getElem?_eq_some_iff.1 h).1
theorem put_self {a:Act} {t b c:Nat} (h:(a.put (some t) (ptrTo c)).tmps[t]? = some (ptrTo b)):b=c:=by
 by_cases hlt:t<a.tmps.size
 ·simp [Act.put,hlt] at h
  exact h.symm
 ·simp [Act.put,hlt] at h
theorem fresh2_grow {ta tb:Nat} {za zb:Obj} {a:Act} {w w':World} {d:Option Tmp} {v:Value} (h:Fresh2 w0 ta tb za zb a w) (hb:Below w.heap.size w w') (ha:d ≠ some ta) (hb':d ≠ some tb):Fresh2 w0 ta tb za zb (a.put d v) w':=by
 obtain ⟨h1,h2,h3,h4⟩:=h
 refine ⟨h1.trans (hb.mono h1.size),fun b e => ?_,fun b e => ?_,fun b c e1 e2 => ?_⟩
 ·rw [put_other ha] at e
  have:=h2 b e
  exact ⟨this.1,(hb.block b (heap_size_lt this.2)).trans this.2⟩
 ·rw [put_other hb'] at e
  have:=h3 b e
  exact ⟨this.1,(hb.block b (heap_size_lt this.2)).trans this.2⟩
 ·rw [put_other ha] at e1
  rw [put_other hb'] at e2
  exact h4 b c e1 e2
theorem alloc_block (w:World) (z:Obj) {b:Nat} {o:Obj} (h:w.heap[b]? = some o):(w.alloc z).heap[b]? = some o:=
 ((Below.refl w.heap.size w).alloc (Nat.le_refl _) z).block b (heap_size_lt h) |>.trans h
theorem fresh2_a {ta tb:Nat} {za zb:Obj} {a:Act} {w:World} (h:Fresh2 w0 ta tb za zb a w) (hab:ta ≠ tb):Fresh2 w0 ta tb za zb (a.put (some ta) (ptrTo w.heap.size)) (w.alloc za):=by
 obtain ⟨h1,h2,h3,h4⟩:=h
 have hne:(some ta:Option Tmp) ≠ some tb:=fun e=>hab (Option.some.inj e)
 refine ⟨h1.alloc h1.size za,fun b e => ?_,fun b e => ?_,fun b c e1 e2 => ?_⟩
 ·have:=put_self e
  subst this
  exact ⟨h1.size,World.alloc_heap_new w za⟩
 ·rw [put_other hne] at e
  have:=h3 b e
  exact ⟨this.1,alloc_block w za this.2⟩
 ·have:=put_self e1
  subst this
  rw [put_other hne] at e2
  have:=heap_size_lt (h3 c e2).2
  omega
theorem fresh2_b {ta tb:Nat} {za zb:Obj} {a:Act} {w:World} (h:Fresh2 w0 ta tb za zb a w) (hab:ta ≠ tb):Fresh2 w0 ta tb za zb (a.put (some tb) (ptrTo w.heap.size)) (w.alloc zb):=by
 obtain ⟨h1,h2,h3,h4⟩:=h
 have hne:(some tb:Option Tmp) ≠ some ta:=fun e=>hab (Option.some.inj e).symm
 refine ⟨h1.alloc h1.size zb,fun b e => ?_,fun b e => ?_,fun b c e1 e2 => ?_⟩
 ·rw [put_other hne] at e
  have:=h2 b e
  exact ⟨this.1,alloc_block w zb this.2⟩
 ·have:=put_self e
  subst this
  exact ⟨h1.size,World.alloc_heap_new w zb⟩
 ·have:=put_self e2
  subst this
  rw [put_other hne] at e1
  have:=heap_size_lt (h2 b e1).2
  omega
theorem headV_any {n m ta tb g:Nat} {za zb:Obj} {om ob:Oper} {L:Array Bool→Act→Prop} {Q:Exit→Act→World→Prop} (hm:ops[m]? = some om) (hgd:om.guard=none) (hdm:om.dst=some ta) (hmb:ops[m+1]? = some ob) (hgb:ob.guard=none) (hdb:ob.dst=some tb) (hab:ta ≠ tb)
 (hal : ∀ (a:Act) (w:World),(execOp a.eval om).run P w = .ok (.value (ptrTo w.heap.size)) (w.alloc za)) (hbl : ∀ (a:Act) (w:World),(execOp a.eval ob).run P w = .ok (.value (ptrTo w.heap.size)) (w.alloc zb))
 (hdst : ∀ i o,i ≠ m→i ≠ m+1→ops[i]? = some o→o.dst ≠ some ta∧o.dst ≠ some tb)
 (hL : ∀ done a w,Fresh2 w0 ta tb za zb a w→L done a→wpAny P md ops Q g done a w) :
 ∀ (f:Nat) (done:Array Bool) (a:Act) (w:World),Fresh2 w0 ta tb za zb a w→HeadV P md ops w0 n m ta tb L f done a→wpAny P md ops Q (f+g) done a w:=by
 intro f
 induction f with
 | zero=>intro done a w hw h; rw [Nat.zero_add]; exact hL _ _ _ hw h
 | succ f ih=>
   intro done a w hw h
   rw [Nat.succ_add]
   refine ⟨fun e=>absurd e h.1,fun i hi => ?_⟩
   rcases (h.2 i hi).2 with ⟨rfl,hb⟩ | ⟨rfl,hb⟩ | ⟨hne,hne2,o,v,ho,hg,hK⟩
   ·unfold wpOp
    simp only [hm]
    rw [if_pos (by simp [Region.wanted,hgd])]
    refine .inl ?_
    unfold Oper.wp
    rw [hal,Oper.upon_value,hdm]
    exact ih _ _ _ (fresh2_a hw hab) (hb _ hw.1.size)
   ·unfold wpOp
    simp only [hmb]
    rw [if_pos (by simp [Region.wanted,hgb])]
    refine .inl ?_
    unfold Oper.wp
    rw [hbl,Oper.upon_value,hdb]
    exact ih _ _ _ (fresh2_b hw hab) (hb _ hw.1.size)
   ·have hd:=hdst i o hne hne2 ho
    have fr : ∀ w'',Below w.heap.size w w''→Fresh2 w0 ta tb za zb (a.put o.dst v) w'':=fun w'' hb=>fresh2_grow hw hb hd.1 hd.2
    unfold wpOp
    simp only [ho]
    rcases hg with ⟨hwt,hg⟩ | ⟨hwt,rfl⟩
    ·rw [if_pos hwt]
     refine .inl ?_
     have h3:=hg w hw.1
     unfold Oper.wp
     generalize (execOp a.eval o).run P w=r at h3 ⊢
     cases r with
     | ok x w'=>
       cases x <;> simp only [growUpon] at h3 <;> simp only [Oper.upon]
       case value u=>
        obtain ⟨e1,e2⟩:=h3
        rw [e1,e2]
        exact ih _ _ _ (fr w (Below.refl _ _)) hK
       case skip=>
        obtain ⟨e1,e2⟩:=h3
        rw [e1, ← e2]
        exact ih _ _ _ (fr w (Below.refl _ _)) hK
       case enter f' args=>
        obtain ⟨e1,hc⟩:=h3
        rw [e1]
        exact hc.mono fun e w'' ⟨he,hb⟩=>by subst he; exact ih _ _ _ (fr w'' hb) hK
     | halt x w'=>simp only [growUpon] at h3
    ·rw [if_neg (by simp [hwt])]
     exact ih _ _ _ (fr w (Below.refl _ _)) hK
theorem headV_first {n m ta tb i:Nat} {oi om ob:Oper} {v:Value} {L:Array Bool→Act→Prop} (hm:ops[m]? = some om) (hdm:om.dst=some ta) (hmb:ops[m+1]? = some ob) (hdb:ob.dst=some tb) (hi:ops[i]? = some oi) (him:i ≠ m) (him2:i ≠ m+1) (hsel : ∀ (j:Nat) (o:Oper) cs b,ops[j]? = some o→o.op ≠ .select cs b)
 (hs:Region.sinkB md ops n=true) (hc:Region.chainB md ops n=true) (hn:n<ops.size) (hin:i<n) (hend : ∀ done a,L done a → ∀ j ∈ Region.ready md ops done,n≤j) :
 ∀ (f:Nat) (done:Array Bool) (a:Act),HeadInv md ops n done →
   (∀ j oj,ops[j]? = some oj→j ≠ i→done.getD j true=false→(∀ e ∈ oj.after,Region.binds md e=true→e.on ≠ i)→oi.apart ops oj=true) →
   i ∈ Region.ready md ops done→Grows P ops w0 oi v a →
   HeadV P md ops w0 n m ta tb L f (done.setIfInBounds i true) (a.put oi.dst v)→HeadV P md ops w0 n m ta tb L (f+1) done a:=by
 intro f
 induction f with
 | zero=>
   intro done a inv _ hr hy H
   have open_:=(mem_ready.1 hr).1
   refine ⟨List.ne_nil_of_mem hr,fun j hj => ?_⟩
   have hjn:j<n:=Nat.lt_of_not_le fun h=>tail_waits hs hc hn inv _ i rfl hin open_ j h hj
   refine ⟨hjn,?_⟩
   rcases Nat.decEq j i with h | h
   ·exact absurd (hend _ _ H j (ready_mono hj h)) (Nat.not_le_of_lt hjn)
   ·subst h
    exact .inr (.inr ⟨him,him2,oi,v,hi,hy,H⟩)
 | succ f ih=>
   intro done a inv free hr hy H
   have open_:=(mem_ready.1 hr).1
   refine ⟨List.ne_nil_of_mem hr,fun j hj => ?_⟩
   have hjn:j<n:=Nat.lt_of_not_le fun h=>tail_waits hs hc hn inv _ i rfl hin open_ j h hj
   refine ⟨hjn,?_⟩
   rcases Nat.decEq j i with h | h
   ·obtain ⟨jopen,oj,hoj,hall⟩:=mem_ready.1 hj
    have waits : ∀ e ∈ oj.after,Region.binds md e=true→e.on ≠ i:=by
     intro e he hb heq
     have:=hall e he hb
     rw [heq,getD_both open_] at this
     cases this
    obtain ⟨p1,p2,p3⟩:=Oper.apart_spec (free j oj hoj h jopen waits)
    have keep : ∀ u,Grows P ops w0 oi v (a.put oj.dst u):=fun u=>hy.of_same (execOp_put oi (fun cs b=>hsel i oi cs b hi) a oj.dst u p3) (wanted_put oi a oj.dst u p3)
    have free' : ∀ k ok,ops[k]? = some ok→k ≠ i→(done.setIfInBounds j true).getD k true=false→(∀ e ∈ ok.after,Region.binds md e=true→e.on ≠ i)→oi.apart ops ok=true:=by
     intro k ok hk hki kopen hno
     refine free k ok hk hki ?_ hno
     rcases Nat.decEq j k with e | e
     ·rwa [getD_set_ne true e] at kopen
     ·rw [← e]; exact jopen
    rcases (H.2 j (ready_mono hj h)).2 with ⟨rfl,hb⟩ | ⟨rfl,hb⟩ | ⟨hjm,hjm2,o,u,ho,hg,hK⟩
    ·obtain rfl:oj=om:=Option.some.inj (hoj.symm.trans hm)
     refine .inl ⟨rfl,fun b hbb=>ih _ _ (inv.set hj hjn) free' (ready_mono hr (Ne.symm h)) ?_ ?_⟩
     ·rw [← hdm]; exact keep _
     ·have:=hb b hbb
      rw [← hdm,Act.put_comm a v _ p2] at this
      rw [← hdm,Array.setIfInBounds_comm _ _ h]
      exact this
    ·obtain rfl:oj=ob:=Option.some.inj (hoj.symm.trans hmb)
     refine .inr (.inl ⟨rfl,fun b hbb=>ih _ _ (inv.set hj hjn) free' (ready_mono hr (Ne.symm h)) ?_ ?_⟩)
     ·rw [← hdb]; exact keep _
     ·have:=hb b hbb
      rw [← hdb,Act.put_comm a v _ p2] at this
      rw [← hdb,Array.setIfInBounds_comm _ _ h]
      exact this
    ·obtain rfl:oj=o:=Option.some.inj (hoj.symm.trans ho)
     refine .inr (.inr ⟨hjm,hjm2,oj,u,hoj,?_,ih _ _ (inv.set hj hjn) free' (ready_mono hr (Ne.symm h)) (keep u) ?_⟩)
     ·exact hg.of_same (execOp_put oj (fun cs b=>hsel j oj cs b hoj) a oi.dst v p1).symm (wanted_put oj a oi.dst v p1).symm
     ·rw [Act.put_comm a v u p2] at hK
      rw [Array.setIfInBounds_comm _ _ h]
      exact hK
   ·subst h
    exact .inr (.inr ⟨him,him2,oi,v,hi,hy,H⟩)
theorem headV_lex {m ta tb g:Nat} {om ob:Oper} {Lq:Act→Prop} (hm:ops[m]? = some om) (hdm:om.dst=some ta) (hmb:ops[m+1]? = some ob) (hdb:ob.dst=some tb) (hab:ta ≠ tb) (hsel:Region.noSelect ops=true) (hs:Region.sinkB md ops (m+2)=true) (hc:Region.chainB md ops (m+2)=true) (hn:m+2<ops.size) :
 ∀ (l:List Oper) (k:Nat) (done:Array Bool) (a:Act),(∀ j,j<l.length→l[j]? = ops[k+j]?)→k+l.length=m→HeadInv md ops (m+2) done→(∀ j,j<k→done.getD j true=true) →
 Region.lexHead md ops g (l.length+2) k done=true→WalkG P ops w0 (fun a'=> ∀ b c,w0.heap.size≤b→w0.heap.size≤c→Lq ((a'.put (some ta) (ptrTo b)).put (some tb) (ptrTo c))) l a →
 HeadV P md ops w0 (m+2) m ta tb (fun done' a'=>Region.seqB md ops g (m+2) done'=true∧Lq a') (l.length+2) done a:=by
 intro l
 induction l with
 | nil=>
   intro k done a _ hk inv hd hB h
   obtain rfl:k=m:=by simpa using hk
   simp only [List.length_nil,Region.lexHead,Bool.and_eq_true] at hB
   have hr:k ∈ Region.ready md ops done:=by simpa using hB.1.1
   have hr2:k+1 ∈ Region.ready md ops (done.setIfInBounds k true):=by simpa using hB.2.1.1
   have open_:=(mem_ready.1 hr).1
   have low : ∀ j ∈ Region.ready md ops done,¬ j<k:=fun j hj h=>by
    have h1:=hd j h
    rw [(mem_ready.1 hj).1] at h1
    cases h1
   refine ⟨List.ne_nil_of_mem hr,fun j hj => ?_⟩
   have hjn:j<k+2:=Nat.lt_of_not_le fun h=>tail_waits hs hc hn inv _ k rfl (by omega) open_ j h hj
   have hjk:=low j hj
   have hcase:j=k∨j=k+1:=by omega
   rcases hcase with rfl | rfl
   ·refine ⟨hjn, .inl ⟨rfl,fun b hb => ?_⟩⟩
    have inv':=inv.set hj hjn
    have open2:=(mem_ready.1 hr2).1
    refine ⟨List.ne_nil_of_mem hr2,fun i hi => ?_⟩
    have hin:i<j+2:=Nat.lt_of_not_le fun h=>tail_waits hs hc hn inv' _ (j+1) rfl (by omega) open2 i h hi
    have:i=j+1:=by
     have h1:=(mem_ready.1 hi).1
     rcases Nat.lt_trichotomy i j with h | h | h
     ·rw [getD_set_ne true (by omega),hd i h] at h1
      cases h1
     ·subst h
      have hsz:i<done.size:=by rw [inv.size]; omega
      simp [hsz] at h1
     ·omega
    subst this
    exact ⟨hin, .inr (.inl ⟨rfl,fun c hc'=>⟨hB.2.2,h b c hb hc'⟩⟩)⟩
   ·refine ⟨hjn, .inr (.inl ⟨rfl,fun c hc' => ?_⟩)⟩
    have inv':=inv.set hj hjn
    have hr3:k ∈ Region.ready md ops (done.setIfInBounds (k+1) true):=ready_mono hr (by omega)
    have open3:=(mem_ready.1 hr3).1
    refine ⟨List.ne_nil_of_mem hr3,fun i hi => ?_⟩
    have hin:i<k+2:=Nat.lt_of_not_le fun h=>tail_waits hs hc hn inv' _ k rfl (by omega) open3 i h hi
    have:i=k:=by
     have h1:=(mem_ready.1 hi).1
     rcases Nat.lt_trichotomy i k with h | h | h
     ·rw [getD_set_ne true (by omega),hd i h] at h1
      cases h1
     ·exact h
     ·have:i=k+1:=by omega
      subst this
      have hsz:k+1<done.size:=by rw [inv.size]; omega
      simp [hsz] at h1
    subst this
    refine ⟨hin, .inl ⟨rfl,fun b hb=>⟨?_,?_⟩⟩⟩
    ·rw [Array.setIfInBounds_comm _ _ (by omega)]
     exact hB.2.2
    ·rw [Act.put_comm a _ _ (fun d hd' e=>by cases hd'; exact hab (Option.some.inj e))]
     exact h b c hb hc'
 | cons o l ih=>
   intro k done a hl hk inv hd hB h
   have h0:ops[k]? = some o:=by simpa using (hl 0 (by simp)).symm
   rw [List.length_cons] at hk
   rw [show (o :: l).length+2=(l.length+2)+1 from rfl,Region.lexHead] at hB
   simp only [Bool.and_eq_true] at hB
   have hkn:k<m+2:=by omega
   have hr:k ∈ Region.ready md ops done:=by simpa using hB.1.1
   obtain ⟨v,hy,hK⟩:=h
   have hsz:k<done.size:=by rw [inv.size]; exact (Array.getElem?_eq_some_iff.1 h0).1
   rw [show (o :: l).length+2=(l.length+2)+1 from rfl]
   refine headV_first hm hdm hmb hdb h0 (by omega) (by omega) (Region.noSelect_spec hsel) hs hc hn hkn (fun _ _ hL=>seqB_ready hL.1) (l.length+2) done a inv (Region.free_spec h0 hB.1.2) hr hy (ih (k+1) _ _ ?_ (by omega) (inv.set hr hkn) ?_ hB.2 hK)
   ·intro j hj
    have:=hl (j+1) (by simp; omega)
    simpa [Nat.add_assoc,Nat.add_comm 1 j] using this
   ·intro j hj
    by_cases e:j=k
    ·subst e; simp [hsz]
    ·rw [getD_set_ne true (Ne.symm e)]; exact hd j (by omega)
def offDst2 (ta tb m:Nat) (l:List Oper):Bool:=(List.range l.length).all fun i=>i==m || i==m+1 || (decide ((l[i]?.bind (·.dst)) ≠ some ta) && decide ((l[i]?.bind (·.dst)) ≠ some tb))
theorem wp_region_float2 {id:Nat} {Q:Exit→Act→World→Prop} {a:Act} {w:World} {l:List Oper} (m ta tb s:Nat) (za zb:Obj) (om ob:Oper) (hmo:P.follows .mixedOrders=true) (hB:Region.lexTailB .any l.toArray (m+2)=true) (hm:l[m]? = some om) (hgd:om.guard=none) (hdm:om.dst=some ta) (hmb:l[m+1]? = some ob) (hgb:ob.guard=none) (hdb:ob.dst=some tb) (hab:ta ≠ tb)
 (hal : ∀ (a:Act) (w:World),(execOp a.eval om).run P w = .ok (.value (ptrTo w.heap.size)) (w.alloc za)) (hbl : ∀ (a:Act) (w:World),(execOp a.eval ob).run P w = .ok (.value (ptrTo w.heap.size)) (w.alloc zb)) (hoff:offDst2 ta tb m l=true) (hown:ownDst s (l.take m)=true) (hs:a.tmps.size=s) (hta:a.tmps[ta]? = some undef) (htb:a.tmps[tb]? = some undef)
 (h : ∃ af,(∀ w1,Below w.heap.size w w1 → ∀ K:Act→Prop,K af→wpQuiet P l.toArray (fun w'=> ∃ x:Later w1,w'=x.w) K (l.take m) a) ∧
   ∀ (b c:Nat) (w':World),w.heap.size≤b→w.heap.size≤c→b ≠ c→Below w.heap.size w w'→w'.heap[b]? = some za→w'.heap[c]? = some zb→wpList P l.toArray Q (l.drop (m+2)) ((af.put (some ta) (ptrTo b)).put (some tb) (ptrTo c)) w') :
 (Code.region id l.toArray true).wp P Q a w:=by
 refine wp_region_any hmo ?_
 obtain ⟨af,h1',h2⟩:=h
 have h1:=fun w1 hb=>h1' w1 hb (fun a'=>a'=af) rfl
 simp only [Region.lexTailB,Bool.and_eq_true,decide_eq_true_eq] at hB
 obtain ⟨⟨⟨⟨hsel,hn⟩,hsk⟩,hc⟩,hlex⟩:=hB
 have hn':m+2<l.length:=by simpa using hn
 have htl:(l.take m).length=m:=by simp; omega
 have hdl:(l.drop (m+2)).length=l.toArray.size-(m+2):=by simp
 have hm':l.toArray[m]? = some om:=by simpa using hm
 have hmb':l.toArray[m+1]? = some ob:=by simpa using hmb
 have inv0:HeadInv .any l.toArray (m+2) (Array.replicate l.toArray.size false):=
  ⟨by simp,fun j oj _ hl=>(by rw [getD_replicate_false] at hl; cases hl),fun t _ ht=>getD_in (by simpa using ht) (getD_replicate_false _ _)⟩
 have hW:=walkG_of (K:=fun a'=> ∀ b c,w.heap.size≤b→w.heap.size≤c→(fun a''=> ∃ b c,a''=(af.put (some ta) (ptrTo b)).put (some tb) (ptrTo c)) ((a'.put (some ta) (ptrTo b)).put (some tb) (ptrTo c))) (fun b c _ _=>⟨b,c,rfl⟩) (l.take m) a hs hown h1
 have H:=headV_lex (md:= .any) (g:=l.toArray.size-(m+2)) (Lq:=fun a''=> ∃ b c,a''=(af.put (some ta) (ptrTo b)).put (some tb) (ptrTo c)) hm' hdm hmb' hdb hab hsel hsk hc hn (l.take m) 0 _ a (fun j hj=>by
  rw [htl] at hj
  simp [hj]) (by simpa using htl) inv0 (fun j hj=>absurd hj (Nat.not_lt_zero _)) (by rw [htl]; exact hlex) hW
 have hta':ta<a.tmps.size:=(Array.getElem?_eq_some_iff.1 hta).1
 have htb':tb<a.tmps.size:=(Array.getElem?_eq_some_iff.1 htb).1
 have hasz:af.tmps.size=s:=by
  have key : ∀ (l':List Oper) (a':Act),wpQuiet P l.toArray (fun w'=> ∃ x:Later w,w'=x.w) (fun a'=>a'=af) l' a'→af.tmps.size=a'.tmps.size:=by
   intro l'
   induction l' with
   | nil=>intro a' h; rw [← (show a'=af from h)]
   | cons o l' ih=>
     intro a' h
     simp only [wpQuiet] at h
     split at h
     ·obtain ⟨v,_,hK⟩:=h
      rw [ih _ hK]
      cases o.dst <;> simp [Act.put]
     ·rw [ih _ h]
      cases o.dst <;> simp [Act.put]
  rw [key _ _ (h1 w (Below.refl _ w)),hs]
 have hdst : ∀ i o,i ≠ m→i ≠ m+1→l.toArray[i]? = some o→o.dst ≠ some ta∧o.dst ≠ some tb:=fun i o hi hi2 ho=>by
  have hil:i<l.length:=by have:=(Array.getElem?_eq_some_iff.1 ho).1; simpa using this
  have:=List.all_eq_true.1 hoff i (by simpa using hil)
  have ho':l[i]? = some o:=by simpa using ho
  simpa [ho',hi,hi2] using this
 have hne:(some ta:Option Tmp) ≠ some tb:=fun e=>hab (Option.some.inj e)
 have:=headV_any (Q:=Q) (za:=za) (zb:=zb) (g:=l.toArray.size-(m+2)) hm' hgd hdm hmb' hgb hdb hab hal hbl hdst (fun done a' w' hw' hL=>by
  obtain ⟨hq,b,c,rfl⟩:=hL
  have eb:((af.put (some ta) (ptrTo b)).put (some tb) (ptrTo c)).tmps[ta]? = some (ptrTo b):=by
   rw [put_other (Ne.symm hne)]
   simp [Act.put,hasz, ← hs,hta']
  have ec:((af.put (some ta) (ptrTo b)).put (some tb) (ptrTo c)).tmps[tb]? = some (ptrTo c):=by
   simp [Act.put,hasz, ← hs,htb']
  have hfa:=hw'.2.1 b eb
  have hfb:=hw'.2.2.1 c ec
  have:=wpAny_of_seq (md:= .any) (Q':=Q) (l.drop (m+2)) (m+2) done _ w' (fun j=>by simp [List.getElem?_drop]) (by rw [hdl]; exact hq) (h2 b c w' hfa.1 hfb.1 (hw'.2.2.2 b c eb ec) hw'.1 hfa.2 hfb.2)
  rwa [hdl] at this) _ _ _ { w with drawn:=w.drawn+1 } ⟨(Below.refl _ w).drew,fun b hb=>(by rw [hta] at hb; cases hb),fun b hb=>(by rw [htb] at hb; cases hb),fun b c hb=>(by rw [hta] at hb; cases hb)⟩ H
 rw [htl,show m+2+(l.toArray.size-(m+2))=l.toArray.size by omega] at this
 exact this
end
end Go.Proofs.Ytkbbhihndigmeaa

namespace Go.Proofs.Ytkbbhihndigmeaa
open Go Go.RowKit
section
variable {P:Program} {ops:Array Oper} {md:Region.Mode} {Q:Exit→Act→World→Prop} {C:World→Prop}
def Stable (F:World→Prop):Prop:= ∀ w w',F w→Below w.heap.size w w'→F w'
theorem stable_below (w0:World):Stable (fun w=>Below w0.heap.size w0 w):=fun _ _ h hb=>h.trans (hb.mono h.size)
theorem stable_and {F G:World→Prop} (hF:Stable F) (hG:Stable G):Stable (fun w=>F w∧G w):=fun w w' h hb=>⟨hF w w' h.1 hb,hG w w' h.2 hb⟩
theorem stable3 (w0:World) (b c:Nat) (o o':Obj):Stable (fun w=>Below w0.heap.size w0 w∧w.heap[b]? = some o∧w.heap[c]? = some o'):=fun _ _ h hb=>
 ⟨h.1.trans (hb.mono h.1.size),(hb.block b (heap_size_lt h.2.1)).trans h.2.1,(hb.block c (heap_size_lt h.2.2)).trans h.2.2⟩
theorem stable_block (b:Nat) (o:Obj) (p:Prop):Stable (fun w=>p∧w.heap[b]? = some o):=fun _ _ h hb=>⟨h.1,(hb.block b (heap_size_lt h.2)).trans h.2⟩
def QuietIn (P:Program) (ops:Array Oper) (F:World→Prop) (o:Oper) (v:Value) (a:Act):Prop:=
 (Region.wanted o (yielded ops a.tmps)=true ∧ ∀ w,F w→growUpon P w v ((execOp a.eval o).run P w)) ∨
 (Region.wanted o (yielded ops a.tmps)=false∧v=undef)
theorem QuietIn.of_same {F:World→Prop} {o:Oper} {v:Value} {a a':Act} (h:QuietIn P ops F o v a) (he:execOp a'.eval o=execOp a.eval o) (hw:Region.wanted o (yielded ops a'.tmps)=Region.wanted o (yielded ops a.tmps)):QuietIn P ops F o v a':=by
 unfold QuietIn at *
 rw [he,hw]
 exact h
theorem QuietIn.mono {F F':World→Prop} {o:Oper} {v:Value} {a:Act} (h:QuietIn P ops F o v a) (hF : ∀ w,F' w→F w):QuietIn P ops F' o v a:=
 h.imp (fun ⟨h1,h2⟩=>⟨h1,fun w hw=>h2 w (hF w hw)⟩) id
def NewIn (P:Program) (ops:Array Oper) (F:World→Prop) (o:Oper) (G:Value→World→Prop) (a:Act):Prop:=
 Region.wanted o (yielded ops a.tmps)=true∧(∀ v,Stable (G v)) ∧ ∀ w,F w → ∃ v w',(execOp a.eval o).run P w = .ok (.value v) w'∧Below w.heap.size w w'∧G v w'
def StoreIn (P:Program) (ops:Array Oper) (C F:World→Prop) (o:Oper) (F':World→Prop) (a:Act):Prop:=
 Region.wanted o (yielded ops a.tmps)=true∧Stable F'∧(∀ w,F' w→C w) ∧ ∀ w,F w → ∃ w',(execOp a.eval o).run P w = .ok .skip w'∧F' w'
def UpdIn (P:Program) (ops:Array Oper) (C F:World→Prop) (o:Oper) (F':Value→World→Prop) (a:Act):Prop:=
 Region.wanted o (yielded ops a.tmps)=true∧(∀ v,Stable (F' v))∧(∀ v w,F' v w→C w) ∧ ∀ w,F w → ∃ v w',(execOp a.eval o).run P w = .ok (.value v) w'∧F' v w'
def Run (P:Program) (md:Region.Mode) (ops:Array Oper) (Q:Exit→Act→World→Prop) (C:World→Prop):Nat→Array Bool→Act→(World→Prop)→Prop
 | 0,done,a,F=>Region.ready md ops done=[] ∧ ∀ w,F w→Q .normal a w
 | f+1,done,a,F=>Region.ready md ops done ≠ [] ∧ ∀ i ∈ Region.ready md ops done,∃ o,ops[i]? = some o ∧
    ((∃ v,QuietIn P ops F o v a∧Run P md ops Q C f (done.setIfInBounds i true) (a.put o.dst v) F) ∨
     (∃ G,NewIn P ops F o G a ∧ ∀ v,(∃ w,G v w)→Run P md ops Q C f (done.setIfInBounds i true) (a.put o.dst v) (fun w=>F w∧G v w)) ∨
     (∃ F',StoreIn P ops C F o F' a∧Run P md ops Q C f (done.setIfInBounds i true) (a.put o.dst undef) F') ∨
     (∃ F',UpdIn P ops C F o F' a ∧ ∀ v,(∃ w,F' v w)→Run P md ops Q C f (done.setIfInBounds i true) (a.put o.dst v) (F' v)))
theorem run_any : ∀ (f:Nat) (done:Array Bool) (a:Act) (F:World→Prop) (w:World),Stable F→F w→Run P md ops Q C f done a F→wpAny P md ops Q f done a w:=by
 intro f
 induction f with
 | zero=>intro done a F w _ hw h; exact ⟨h.1,h.2 w hw⟩
 | succ f ih=>
   intro done a F w hF hw h
   refine ⟨fun e=>absurd e h.1,fun i hi => ?_⟩
   obtain ⟨o,ho,h⟩:=h.2 i hi
   unfold wpOp
   simp only [ho]
   rcases h with ⟨v,hq,hK⟩ | ⟨G,⟨hwt,hG,hr⟩,hK⟩ | ⟨F',⟨hwt,hS,_,hr⟩,hK⟩ | ⟨F',⟨hwt,hS,_,hr⟩,hK⟩
   ·rcases hq with ⟨hwt,hg⟩ | ⟨hwt,rfl⟩
    ·rw [if_pos hwt]
     refine .inl ?_
     have h3:=hg w hw
     unfold Oper.wp
     generalize (execOp a.eval o).run P w=r at h3 ⊢
     cases r with
     | ok x w'=>
       cases x <;> simp only [growUpon] at h3 <;> simp only [Oper.upon]
       case value u=>
        obtain ⟨e1,e2⟩:=h3
        rw [e1,e2]
        exact ih _ _ F _ hF hw hK
       case skip=>
        obtain ⟨e1,e2⟩:=h3
        rw [e1, ← e2]
        exact ih _ _ F _ hF hw hK
       case enter f' args=>
        obtain ⟨e1,hc⟩:=h3
        rw [e1]
        exact hc.mono fun e w'' ⟨he,hb⟩=>by subst he; exact ih _ _ F _ hF (hF _ _ hw hb) hK
     | halt x w'=>simp only [growUpon] at h3
    ·rw [if_neg (by simp [hwt])]
     exact ih _ _ F _ hF hw hK
   ·rw [if_pos hwt]
    refine .inl ?_
    obtain ⟨v,w',e,hb,hg⟩:=hr w hw
    unfold Oper.wp
    rw [e,Oper.upon_value]
    exact ih _ _ _ _ (stable_and hF (hG v)) ⟨hF _ _ hw hb,hg⟩ (hK v ⟨w',hg⟩)
   ·rw [if_pos hwt]
    refine .inl ?_
    obtain ⟨w',e,hf⟩:=hr w hw
    unfold Oper.wp
    rw [e]
    simp only [Oper.upon]
    exact ih _ _ _ _ hS hf hK
   ·rw [if_pos hwt]
    refine .inl ?_
    obtain ⟨v,w',e,hf⟩:=hr w hw
    unfold Oper.wp
    rw [e,Oper.upon_value]
    exact ih _ _ _ _ (hS v) hf (hK v ⟨w',hf⟩)
theorem run_mono : ∀ (f:Nat) (done:Array Bool) (a:Act) (F F':World→Prop),(∀ w,F' w→F w)→Run P md ops Q C f done a F→Run P md ops Q C f done a F':=by
 intro f
 induction f with
 | zero=>intro done a F F' hF h; exact ⟨h.1,fun w hw=>h.2 w (hF w hw)⟩
 | succ f ih=>
   intro done a F F' hF h
   refine ⟨h.1,fun i hi => ?_⟩
   obtain ⟨o,ho,h⟩:=h.2 i hi
   refine ⟨o,ho,?_⟩
   rcases h with ⟨v,hq,hK⟩ | ⟨G,⟨hwt,hG,hr⟩,hK⟩ | ⟨F2,⟨hwt,hS,hC,hr⟩,hK⟩ | ⟨F2,⟨hwt,hS,hC,hr⟩,hK⟩
   ·exact .inl ⟨v,hq.mono hF,ih _ _ _ _ hF hK⟩
   ·exact .inr (.inl ⟨G,⟨hwt,hG,fun w hw=>hr w (hF w hw)⟩,fun v hv=>ih _ _ _ _ (fun w hw=>⟨hF w hw.1,hw.2⟩) (hK v hv)⟩)
   ·exact .inr (.inr (.inl ⟨F2,⟨hwt,hS,hC,fun w hw=>hr w (hF w hw)⟩,hK⟩))
   ·exact .inr (.inr (.inr ⟨F2,⟨hwt,hS,hC,fun w hw=>hr w (hF w hw)⟩,hK⟩))
theorem run_first {i:Nat} {oi:Oper} {v:Value} (hi:ops[i]? = some oi) (hsel : ∀ (j:Nat) (o:Oper) cs b,ops[j]? = some o→o.op ≠ .select cs b) :
 ∀ (f:Nat) (done:Array Bool) (a:Act) (F:World→Prop),
   (∀ j oj,ops[j]? = some oj→j ≠ i→done.getD j true=false→(∀ e ∈ oj.after,Region.binds md e=true→e.on ≠ i)→oi.apart ops oj=true) →
   i ∈ Region.ready md ops done→QuietIn P ops C oi v a→(∀ w,F w→C w) →
   Run P md ops Q C f (done.setIfInBounds i true) (a.put oi.dst v) F→Run P md ops Q C (f+1) done a F:=by
 intro f
 induction f with
 | zero=>
   intro done a F _ hr hy hC H
   refine ⟨List.ne_nil_of_mem hr,fun j hj => ?_⟩
   rcases Nat.decEq j i with h | h
   ·have:=ready_mono hj h
    rw [H.1] at this
    cases this
   ·subst h
    exact ⟨oi,hi, .inl ⟨v,hy.mono hC,H⟩⟩
 | succ f ih=>
   intro done a F free hr hy hC H
   refine ⟨List.ne_nil_of_mem hr,fun j hj => ?_⟩
   rcases Nat.decEq j i with h | h
   ·obtain ⟨oj,hoj,HS⟩:=H.2 j (ready_mono hj h)
    obtain ⟨jopen,oj',hoj',hall⟩:=mem_ready.1 hj
    obtain rfl:oj'=oj:=Option.some.inj (hoj'.symm.trans hoj)
    have open_:=(mem_ready.1 hr).1
    have waits : ∀ e ∈ oj'.after,Region.binds md e=true→e.on ≠ i:=by
     intro e he hb heq
     have:=hall e he hb
     rw [heq,getD_both open_] at this
     cases this
    obtain ⟨p1,p2,p3⟩:=Oper.apart_spec (free j oj' hoj h jopen waits)
    have keep : ∀ u,QuietIn P ops C oi v (a.put oj'.dst u):=fun u=>hy.of_same (execOp_put oi (fun cs b=>hsel i oi cs b hi) a oj'.dst u p3) (wanted_put oi a oj'.dst u p3)
    have free' : ∀ k ok,ops[k]? = some ok→k ≠ i→(done.setIfInBounds j true).getD k true=false→(∀ e ∈ ok.after,Region.binds md e=true→e.on ≠ i)→oi.apart ops ok=true:=by
     intro k ok hk hki kopen hno
     refine free k ok hk hki ?_ hno
     rcases Nat.decEq j k with e | e
     ·rwa [getD_set_ne true e] at kopen
     ·rw [← e]; exact jopen
    have e1:=execOp_put oj' (fun cs b=>hsel j oj' cs b hoj) a oi.dst v p1
    have e2:=wanted_put oj' a oi.dst v p1
    refine ⟨oj',hoj,?_⟩
    rcases HS with ⟨u,hq,hK⟩ | ⟨G,⟨hwt,hG,hrun⟩,hK⟩ | ⟨F2,⟨hwt,hS,hC2,hrun⟩,hK⟩ | ⟨F2,⟨hwt,hS,hC2,hrun⟩,hK⟩
    ·refine .inl ⟨u,hq.of_same e1.symm e2.symm,ih _ _ _ free' (ready_mono hr (Ne.symm h)) (keep u) hC ?_⟩
     rw [Act.put_comm a v u p2,Array.setIfInBounds_comm _ _ (Ne.symm h)] at hK
     exact hK
    ·refine .inr (.inl ⟨G,⟨by rw [← e2]; exact hwt,hG,fun w hw=>by rw [← e1]; exact hrun w hw⟩,fun u hu=>ih _ _ _ free' (ready_mono hr (Ne.symm h)) (keep u) (fun w hw=>hC w hw.1) ?_⟩)
     have:=hK u hu
     rw [Act.put_comm a v u p2,Array.setIfInBounds_comm _ _ (Ne.symm h)] at this
     exact this
    ·refine .inr (.inr (.inl ⟨F2,⟨by rw [← e2]; exact hwt,hS,hC2,fun w hw=>by rw [← e1]; exact hrun w hw⟩,ih _ _ _ free' (ready_mono hr (Ne.symm h)) (keep _) hC2 ?_⟩))
     rw [Act.put_comm a v undef p2,Array.setIfInBounds_comm _ _ (Ne.symm h)] at hK
     exact hK
    ·refine .inr (.inr (.inr ⟨F2,⟨by rw [← e2]; exact hwt,hS,hC2,fun w hw=>by rw [← e1]; exact hrun w hw⟩,fun u hu=>ih _ _ _ free' (ready_mono hr (Ne.symm h)) (keep _) (hC2 u) ?_⟩))
     have:=hK u hu
     rw [Act.put_comm a v u p2,Array.setIfInBounds_comm _ _ (Ne.symm h)] at this
     exact this
   ·subst h
    exact ⟨oi,hi, .inl ⟨v,hy.mono hC,H⟩⟩
def lexPre (md:Region.Mode) (ops:Array Oper):Nat→Nat→Array Bool→Bool
 | 0,_,_=>true
 | f+1,k,listed=>(Region.ready md ops listed).contains k && Region.free md ops listed k && lexPre md ops f (k+1) (listed.setIfInBounds k true)
def markN:Nat→Nat→Array Bool→Array Bool
 | 0,_,d=>d
 | f+1,k,d=>markN f (k+1) (d.setIfInBounds k true)
theorem run_lex {w0:World} {F:World→Prop} {K:Act→Prop} {g:Nat} (hsel:Region.noSelect ops=true) (hF : ∀ w,F w→Below w0.heap.size w0 w) :
 ∀ (l:List Oper) (k:Nat) (done:Array Bool) (a:Act),(∀ j,j<l.length→l[j]? = ops[k+j]?)→lexPre md ops l.length k done=true →
 (∀ af,K af→Run P md ops Q (fun w=>Below w0.heap.size w0 w) g (markN l.length k done) af F)→WalkG P ops w0 K l a→Run P md ops Q (fun w=>Below w0.heap.size w0 w) (l.length+g) done a F:=by
 intro l
 induction l with
 | nil=>
   intro k done a _ _ hK h
   have:=hK a h
   simpa [markN] using this
 | cons o l ih=>
   intro k done a hl hB hK h
   have h0:ops[k]? = some o:=by simpa using (hl 0 (by simp)).symm
   simp only [List.length_cons,lexPre,Bool.and_eq_true] at hB
   have hr:k ∈ Region.ready md ops done:=by simpa using hB.1.1
   obtain ⟨v,hy,hW⟩:=h
   rw [show (o :: l).length+g=(l.length+g)+1 by simp; omega]
   refine run_first h0 (Region.noSelect_spec hsel) _ _ _ _ (Region.free_spec h0 hB.1.2) hr hy hF (ih (k+1) _ _ ?_ hB.2 hK hW)
   intro j hj
   have:=hl (j+1) (by simp; omega)
   simpa [Nat.add_assoc,Nat.add_comm 1 j] using this
theorem ptr_inj {b c:Nat} (h:ptrTo b=ptrTo c):b=c:=by
 unfold ptrTo at h
 injection h with h
 injection h with h
 injection h with h
theorem run_half {w0:World} {f m n ta tb:Nat} {za zb:Obj} {om ob:Oper} {done:Array Bool} {a:Act} {F:World→Prop} (hgm:om.guard=none) (hdm:om.dst=some ta) (hn:ops[n]? = some ob) (hgn:ob.guard=none) (hdn:ob.dst=some tb)
 (hal : ∀ (a:Act) (w:World),(execOp a.eval om).run P w = .ok (.value (ptrTo w.heap.size)) (w.alloc za)) (hbl : ∀ (a:Act) (w:World),(execOp a.eval ob).run P w = .ok (.value (ptrTo w.heap.size)) (w.alloc zb))
 (hF : ∀ w,F w→w0.heap.size≤w.heap.size) (r2:Region.ready md ops (done.setIfInBounds m true)=[n])
 (h : ∀ b c,w0.heap.size≤b→w0.heap.size≤c→b ≠ c→Run P md ops Q C f ((done.setIfInBounds m true).setIfInBounds n true) ((a.put (some ta) (ptrTo b)).put (some tb) (ptrTo c)) (fun w=>F w∧w.heap[b]? = some za∧w.heap[c]? = some zb)) :
 ∃ G,NewIn P ops F om G a ∧ ∀ v,(∃ w,G v w)→Run P md ops Q C (f+1) (done.setIfInBounds m true) (a.put om.dst v) (fun w=>F w∧G v w):=by
 have wm : ∀ a:Act,Region.wanted om (yielded ops a.tmps)=true:=fun a=>by simp [Region.wanted,hgm]
 have wn : ∀ a:Act,Region.wanted ob (yielded ops a.tmps)=true:=fun a=>by simp [Region.wanted,hgn]
 refine ⟨fun v w=> ∃ b,v=ptrTo b∧(w0.heap.size≤b)∧w.heap[b]? = some za,⟨wm a,fun v w w' h hb => ?_,fun w hw=>⟨_,_,hal a w,(Below.refl _ w).alloc (Nat.le_refl _) za,w.heap.size,rfl,hF w hw,World.alloc_heap_new w za⟩⟩,fun v hv => ?_⟩
 ·obtain ⟨b,e,h1,h2⟩:=h
  exact ⟨b,e,h1,(hb.block b (heap_size_lt h2)).trans h2⟩
 obtain ⟨_,b,rfl,hb0,_⟩:=hv
 rw [hdm]
 refine ⟨by rw [r2]; simp,fun j hj => ?_⟩
 rw [r2] at hj
 simp only [List.mem_cons,List.not_mem_nil,or_false] at hj
 subst hj
 refine ⟨ob,hn, .inr (.inl ⟨fun v w=> ∃ c,v=ptrTo c∧(w0.heap.size≤c∧b ≠ c)∧w.heap[c]? = some zb,⟨wn _,fun v w w' h hb => ?_,fun w hw=>⟨_,_,hbl _ w,(Below.refl _ w).alloc (Nat.le_refl _) zb,w.heap.size,rfl,⟨hF w hw.1,?_⟩,World.alloc_heap_new w zb⟩⟩,fun v hv => ?_⟩)⟩
 ·obtain ⟨c,e,h1,h2⟩:=h
  exact ⟨c,e,h1,(hb.block c (heap_size_lt h2)).trans h2⟩
 ·obtain ⟨b',e,_,h2⟩:=hw.2
  have:=ptr_inj e
  have:=heap_size_lt h2
  omega
 obtain ⟨_,c,rfl,⟨hc0,hbc⟩,_⟩:=hv
 rw [hdn]
 refine run_mono _ _ _ _ _ ?_ (h b c hb0 hc0 hbc)
 rintro w ⟨⟨h1,b',e1,_,h2⟩,c',e2,_,h3⟩
 have eb:=ptr_inj e1
 have ec:=ptr_inj e2
 subst eb ec
 exact ⟨h1,h2,h3⟩
theorem run_two {w0:World} {f m n ta tb:Nat} {za zb:Obj} {om ob:Oper} {done:Array Bool} {a:Act} {F:World→Prop} (hm:ops[m]? = some om) (hgm:om.guard=none) (hdm:om.dst=some ta) (hn:ops[n]? = some ob) (hgn:ob.guard=none) (hdn:ob.dst=some tb) (hab:ta ≠ tb) (hmn:m ≠ n)
 (hal : ∀ (a:Act) (w:World),(execOp a.eval om).run P w = .ok (.value (ptrTo w.heap.size)) (w.alloc za)) (hbl : ∀ (a:Act) (w:World),(execOp a.eval ob).run P w = .ok (.value (ptrTo w.heap.size)) (w.alloc zb))
 (hF : ∀ w,F w→w0.heap.size≤w.heap.size)
 (r1:Region.ready md ops done=[m,n]) (r2:Region.ready md ops (done.setIfInBounds m true)=[n]) (r3:Region.ready md ops (done.setIfInBounds n true)=[m])
 (h : ∀ b c,w0.heap.size≤b→w0.heap.size≤c→b ≠ c→Run P md ops Q C f ((done.setIfInBounds m true).setIfInBounds n true) ((a.put (some ta) (ptrTo b)).put (some tb) (ptrTo c)) (fun w=>F w∧w.heap[b]? = some za∧w.heap[c]? = some zb)) :
 Run P md ops Q C (f+2) done a F:=by
 refine ⟨by rw [r1]; simp,fun i hi => ?_⟩
 rw [r1] at hi
 simp only [List.mem_cons,List.not_mem_nil,or_false] at hi
 rcases hi with rfl | rfl
 ·exact ⟨om,hm, .inr (.inl (run_half hgm hdm hn hgn hdn hal hbl hF r2 h))⟩
 ·refine ⟨ob,hn, .inr (.inl (run_half hgn hdn hm hgm hdm hbl hal hF r3 fun c b hc hb hcb => ?_))⟩
  have:=h b c hb hc (Ne.symm hcb)
  rw [Act.put_comm a _ _ (fun d hd e=>by cases hd; exact hab (Option.some.inj e).symm),Array.setIfInBounds_comm _ _ hmn] at this
  exact run_mono _ _ _ _ _ (fun w hw=>⟨hw.1,hw.2.2,hw.2.1⟩) this
theorem run_store {f i:Nat} {o:Oper} {done:Array Bool} {a:Act} {F:World→Prop} (F':World→Prop) (hr:Region.ready md ops done=[i]) (ho:ops[i]? = some o) (hg:o.guard=none) (hS:Stable F') (hC : ∀ w,F' w→C w) (hrun : ∀ w,F w → ∃ w',(execOp a.eval o).run P w = .ok .skip w'∧F' w')
 (h:Run P md ops Q C f (done.setIfInBounds i true) (a.put o.dst undef) F'):Run P md ops Q C (f+1) done a F:=by
 refine ⟨by rw [hr]; simp,fun j hj => ?_⟩
 rw [hr] at hj
 simp only [List.mem_cons,List.not_mem_nil,or_false] at hj
 subst hj
 exact ⟨o,ho, .inr (.inr (.inl ⟨F',⟨by simp [Region.wanted,hg],hS,hC,hrun⟩,h⟩))⟩
theorem run_quiet {f i:Nat} {o:Oper} {done:Array Bool} {a:Act} {F:World→Prop} (v:Value) (hr:Region.ready md ops done=[i]) (ho:ops[i]? = some o) (hg:o.guard=none) (hrun : ∀ w,F w→(execOp a.eval o).run P w = .ok (.value v) w)
 (h:Run P md ops Q C f (done.setIfInBounds i true) (a.put o.dst v) F):Run P md ops Q C (f+1) done a F:=by
 refine ⟨by rw [hr]; simp,fun j hj => ?_⟩
 rw [hr] at hj
 simp only [List.mem_cons,List.not_mem_nil,or_false] at hj
 subst hj
 exact ⟨o,ho, .inl ⟨v, .inl ⟨by simp [Region.wanted,hg],fun w hw=>by rw [hrun w hw]; exact ⟨rfl,rfl⟩⟩,h⟩⟩
theorem run_take {f i:Nat} {o:Oper} {done:Array Bool} {a:Act} {F:World→Prop} (v:Value) (ho:ops[i]? = some o) (hsel:Region.noSelect ops=true) (hf:Region.free md ops done i=true) (hr:(Region.ready md ops done).contains i=true) (hg:o.guard=none) (hC : ∀ w,F w→C w)
 (hrun : ∀ w,C w→(execOp a.eval o).run P w = .ok (.value v) w) (h:Run P md ops Q C f (done.setIfInBounds i true) (a.put o.dst v) F):Run P md ops Q C (f+1) done a F:=
 run_first ho (Region.noSelect_spec hsel) f done a F (Region.free_spec ho hf) (by simpa using hr) (.inl ⟨by simp [Region.wanted,hg],fun w hw=>by rw [hrun w hw]; exact ⟨rfl,rfl⟩⟩) hC h
theorem run_alloc {w0:World} {f i t:Nat} {o:Oper} {z:Obj} {done:Array Bool} {a:Act} {F:World→Prop} (hr:Region.ready md ops done=[i]) (ho:ops[i]? = some o) (hg:o.guard=none) (hd:o.dst=some t) (hal : ∀ (a:Act) (w:World),(execOp a.eval o).run P w = .ok (.value (ptrTo w.heap.size)) (w.alloc z)) (hF : ∀ w,F w→w0.heap.size≤w.heap.size)
 (h : ∀ b,w0.heap.size≤b→Run P md ops Q C f (done.setIfInBounds i true) (a.put (some t) (ptrTo b)) (fun w=>F w∧w.heap[b]? = some z)):Run P md ops Q C (f+1) done a F:=by
 refine ⟨by rw [hr]; simp,fun j hj => ?_⟩
 rw [hr] at hj
 simp only [List.mem_cons,List.not_mem_nil,or_false] at hj
 subst hj
 refine ⟨o,ho, .inr (.inl ⟨fun v w=> ∃ b,v=ptrTo b∧(w0.heap.size≤b)∧w.heap[b]? = some z,⟨by simp [Region.wanted,hg],fun v w w' h hb => ?_,fun w hw=>⟨_,_,hal a w,(Below.refl _ w).alloc (Nat.le_refl _) z,w.heap.size,rfl,hF w hw,World.alloc_heap_new w z⟩⟩,fun v hv => ?_⟩)⟩
 ·obtain ⟨b,e,h1,h2⟩:=h
  exact ⟨b,e,h1,(hb.block b (heap_size_lt h2)).trans h2⟩
 obtain ⟨_,b,rfl,hb0,_⟩:=hv
 rw [hd]
 refine run_mono _ _ _ _ _ ?_ (h b hb0)
 rintro w ⟨h1,b',e1,_,h2⟩
 have eb:=ptr_inj e1
 subst eb
 exact ⟨h1,h2⟩
def RunAt (P:Program) (md:Region.Mode) (ops:Array Oper) (Q:Exit→Act→World→Prop) (C:World→Prop) (f:Nat) (done:Array Bool) (a:Act) (F:World→Prop) (i:Nat):Prop:=
 ∃ o,ops[i]? = some o ∧
  ((∃ v,QuietIn P ops F o v a∧Run P md ops Q C f (done.setIfInBounds i true) (a.put o.dst v) F) ∨
   (∃ G,NewIn P ops F o G a ∧ ∀ v,(∃ w,G v w)→Run P md ops Q C f (done.setIfInBounds i true) (a.put o.dst v) (fun w=>F w∧G v w)) ∨
   (∃ F',StoreIn P ops C F o F' a∧Run P md ops Q C f (done.setIfInBounds i true) (a.put o.dst undef) F') ∨
   (∃ F',UpdIn P ops C F o F' a ∧ ∀ v,(∃ w,F' v w)→Run P md ops Q C f (done.setIfInBounds i true) (a.put o.dst v) (F' v)))
theorem run_each {f:Nat} {done:Array Bool} {a:Act} {F:World→Prop} (rs:List Nat) (hr:Region.ready md ops done=rs) (hne:rs ≠ []) (h : ∀ i ∈ rs,RunAt P md ops Q C f done a F i):Run P md ops Q C (f+1) done a F:=by
 subst hr
 exact ⟨hne,h⟩
theorem at_upd {f i:Nat} {o:Oper} {done:Array Bool} {a:Act} {F:World→Prop} (F':Value→World→Prop) (ho:ops[i]? = some o) (hg:o.guard=none) (hS : ∀ v,Stable (F' v)) (hC : ∀ v w,F' v w→C w) (hrun : ∀ w,F w → ∃ v w',(execOp a.eval o).run P w = .ok (.value v) w'∧F' v w')
 (h : ∀ v,(∃ w,F' v w)→Run P md ops Q C f (done.setIfInBounds i true) (a.put o.dst v) (F' v)):RunAt P md ops Q C f done a F i:=
 ⟨o,ho, .inr (.inr (.inr ⟨F',⟨by simp [Region.wanted,hg],hS,hC,hrun⟩,h⟩))⟩
theorem at_quiet {f i:Nat} {o:Oper} {done:Array Bool} {a:Act} {F:World→Prop} (v:Value) (ho:ops[i]? = some o) (hq:QuietIn P ops F o v a) (h:Run P md ops Q C f (done.setIfInBounds i true) (a.put o.dst v) F):RunAt P md ops Q C f done a F i:=
 ⟨o,ho, .inl ⟨v,hq,h⟩⟩
theorem quiet_of_walk {F:World→Prop} {o:Oper} {d:Tmp} {v:Value} {a:Act} (hg:o.guard=none) (hd:o.dst=some d) (hs:d<a.tmps.size) (h : ∀ w,F w → ∀ K:Act→Prop,K (a.put (some d) v)→wpQuiet P ops (fun w'=> ∃ x:Later w,w'=x.w) K [o] a):QuietIn P ops F o v a:=by
 have hw:Region.wanted o (yielded ops a.tmps)=true:=by simp [Region.wanted,hg]
 refine .inl ⟨hw,fun w hF => ?_⟩
 have h1:=h w hF (fun a'=>a'=a.put (some d) v) rfl
 simp only [wpQuiet] at h1
 rw [if_pos hw] at h1
 obtain ⟨v',hv,hq⟩:=h1
 have he:v'=v:=by
  rw [hd] at hq
  have h2:=congrArg (fun (x:Act)=>x.tmps[d]?) hq
  simpa [Act.put,hs] using h2
 subst he
 have h2:=hv w ⟨⟨w,Below.refl _ _⟩,rfl⟩
 unfold Oper.quietAt at h2
 generalize (execOp a.eval o).run P w=r at h2 ⊢
 cases r with
 | ok x w'=>
   cases x <;> simp only [Oper.quietUpon] at h2 <;> simp only [growUpon]
   case value=>exact h2
   case skip=>exact h2
   case enter f args=>exact ⟨h2.1,h2.2.mono fun e w'' ⟨he,y,hy⟩=>⟨he,hy ▸ y.h⟩⟩
 | halt x w'=>simp only [Oper.quietUpon] at h2
theorem wp_region_run0 {id:Nat} {a:Act} {w:World} {l:List Oper} (hmo:P.follows .mixedOrders=true)
 (h:Run P .any l.toArray Q (fun x=>Below w.heap.size w x) l.length (Array.replicate l.toArray.size false) a (fun x=>Below w.heap.size w x)):(Code.region id l.toArray true).wp P Q a w:=
 wp_region_any hmo (by
  rw [show l.toArray.size=l.length by simp] at *
  exact run_any _ _ _ _ _ (stable_below w) ((Below.refl _ w).drew) h)
theorem wp_region_run {id:Nat} {a:Act} {w:World} {l:List Oper} (m s:Nat) (hmo:P.follows .mixedOrders=true) (hsel:Region.noSelect l.toArray=true) (hB:lexPre .any l.toArray m 0 (Array.replicate l.toArray.size false)=true) (hm:m≤l.length) (hown:ownDst s (l.take m)=true) (hs:a.tmps.size=s)
 (h : ∃ af,(∀ w1,Below w.heap.size w w1 → ∀ K:Act→Prop,K af→wpQuiet P l.toArray (fun w'=> ∃ x:Later w1,w'=x.w) K (l.take m) a) ∧
   Run P .any l.toArray Q (fun x=>Below w.heap.size w x) (l.length-m) (markN m 0 (Array.replicate l.toArray.size false)) af (fun x=>Below w.heap.size w x)) :
 (Code.region id l.toArray true).wp P Q a w:=by
 obtain ⟨af,h1,h2⟩:=h
 refine wp_region_any hmo ?_
 have htl:(l.take m).length=m:=by simp; omega
 have hW:=walkG_of (K:=fun a'=>a'=af) rfl (l.take m) a hs hown (fun w1 hb=>h1 w1 hb (fun a'=>a'=af) rfl)
 have key:=run_lex (md:= .any) (Q:=Q) (F:=fun x=>Below w.heap.size w x) (K:=fun a'=>a'=af) (g:=l.length-m) hsel (fun _ h=>h) (l.take m) 0 (Array.replicate l.toArray.size false) a (fun j hj=>by
  rw [htl] at hj
  simp [hj]) (by rw [htl]; exact hB) (fun a' ha=>by rw [ha,htl]; exact h2) hW
 rw [htl,show m+(l.length-m)=l.toArray.size by simp; omega] at key
 exact run_any _ _ _ _ _ (stable_below w) ((Below.refl _ w).drew) key
end
end Go.Proofs.Ytkbbhihndigmeaa

namespace Go.Proofs.Ytkbbhihndigmeaa
open Go Go.RowKit
section
variable {P:Program} {ops:Array Oper} {md:Region.Mode} {Q:Exit→Act→World→Prop} {C:World→Prop}
theorem at_make {w0:World} {f i t:Nat} {o:Oper} {z:Obj} {done:Array Bool} {a:Act} {F:World→Prop} (va:Nat→Value) (X:Nat→Prop) (inj : ∀ b c,va b=va c→b=c) (ho:ops[i]? = some o) (hg:o.guard=none) (hd:o.dst=some t)
 (hal : ∀ w,F w→(execOp a.eval o).run P w = .ok (.value (va w.heap.size)) (w.alloc z)) (hF : ∀ w,F w→w0.heap.size≤w.heap.size) (hX : ∀ w,F w → ∀ k,X k→k<w.heap.size)
 (h : ∀ b,w0.heap.size≤b → ¬ X b→Run P md ops Q C f (done.setIfInBounds i true) (a.put (some t) (va b)) (fun w=>F w∧w.heap[b]? = some z)):RunAt P md ops Q C f done a F i:=by
 refine ⟨o,ho, .inr (.inl ⟨fun v w=> ∃ b,v=va b∧(w0.heap.size≤b ∧ ¬ X b)∧w.heap[b]? = some z,⟨by simp [Region.wanted,hg],fun v w w' h hb => ?_,fun w hw=>⟨_,_,hal w hw,(Below.refl _ w).alloc (Nat.le_refl _) z,w.heap.size,rfl,⟨hF w hw,fun hx=>Nat.lt_irrefl _ (hX w hw _ hx)⟩,World.alloc_heap_new w z⟩⟩,fun v hv => ?_⟩)⟩
 ·obtain ⟨b,e,h1,h2⟩:=h
  exact ⟨b,e,h1,(hb.block b (heap_size_lt h2)).trans h2⟩
 obtain ⟨_,b,rfl,⟨hb0,hbX⟩,_⟩:=hv
 rw [hd]
 refine run_mono _ _ _ _ _ ?_ (h b hb0 hbX)
 rintro w ⟨h1,b',e1,_,h2⟩
 have eb:=inj _ _ e1
 subst eb
 exact ⟨h1,h2⟩
theorem run_only {f i:Nat} {done:Array Bool} {a:Act} {F:World→Prop} (hr:Region.ready md ops done=[i]) (h:RunAt P md ops Q C f done a F i):Run P md ops Q C (f+1) done a F:=
 run_each [i] hr (by simp) (fun j hj=>by rw [List.mem_singleton] at hj; rw [hj]; exact h)
theorem run_both {f i j:Nat} {done:Array Bool} {a:Act} {F:World→Prop} (hr:Region.ready md ops done=[i,j]) (h1:RunAt P md ops Q C f done a F i) (h2:RunAt P md ops Q C f done a F j):Run P md ops Q C (f+1) done a F:=
 run_each [i,j] hr (by simp) (fun k hk=>by
  simp only [List.mem_cons,List.not_mem_nil,or_false] at hk
  rcases hk with rfl | rfl
  ·exact h1
  ·exact h2)
theorem slice_inj {n c:Nat} : ∀ b1 b2:Nat,Value.slice (some ⟨b1,0,none⟩) n c=Value.slice (some ⟨b2,0,none⟩) n c→b1=b2:=fun b1 b2 h=>by
 injection h with h
 injection h with h
 injection h with h
theorem ptrTo_inj : ∀ b1 b2:Nat,ptrTo b1=ptrTo b2→b1=b2:=fun _ _ h=>ptr_inj h
theorem stable_two {w0:World} {b:Nat} {z:Obj} : Stable (fun w=>Below w0.heap.size w0 w∧w.heap[b]? = some z):=fun _ _ h hb=>⟨h.1.trans (hb.mono h.1.size),(hb.block b (heap_size_lt h.2)).trans h.2⟩
end
end Go.Proofs.Ytkbbhihndigmeaa
