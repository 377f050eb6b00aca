/- A region that draws its order, walked without its worlds, in which a call may give what hangs on the world. As law Run, with one more kind of step. It imports nothing of the program. -/
import Derived.StillTail
import Derived.Test.YtkbbhihndigmeaaBasaa
import Derived.Test.YtkbbhihndigmeaaBasab
import Derived.Test.YtkbbhihndigmeaaProg
import Derived.RangeFuncNested
import Derived.RangeFuncCalls
import Derived.RangeFuncLeaves
namespace Go.Proofs.Ytkbbhihndigmeaa.RC
open Go Go.RowKit Go.Proofs.Ytkbbhihndigmeaa
section
variable {P:Program} {ops:Array Oper} {md:Region.Mode} {Q:Exit→Act→World→Prop} {C C':World→Prop}
def CallIn (P:Program) (ops:Array Oper) (C F:World→Prop) (o:Oper) (F':Value→World→Prop) (a:Act):Prop:=
 Region.wanted o (yielded ops a.tmps)=true∧(∀ v,Stable (F' v))∧(∀ v w,F' v w→C w) ∧ ∀ w,F w → ∃ fn args,(execOp a.eval o).run P w = .ok (.enter fn args) w∧Calls P fn args w fun e w'=> ∃ v,e = .returned v∧F' v w'
def Run (P:Program) (md:Region.Mode) (ops:Array Oper) (Q:Exit→Act→World→Prop) (C:World→Prop):Nat→Array Bool→Act→(World→Prop)→Prop
 | 0,done,a,F=>Region.ready md ops done=[] ∧ ∀ w,F w→Q .normal a w
 | f+1,done,a,F=>Region.ready md ops done ≠ [] ∧ ∀ i ∈ Region.ready md ops done,∃ o,ops[i]? = some o ∧
    ((∃ v,QuietIn P ops F o v a∧Run P md ops Q C f (done.setIfInBounds i true) (a.put o.dst v) F) ∨
     (∃ G,NewIn P ops F o G a ∧ ∀ v,(∃ w,G v w)→Run P md ops Q C f (done.setIfInBounds i true) (a.put o.dst v) (fun w=>F w∧G v w)) ∨
     (∃ F',StoreIn P ops C F o F' a∧Run P md ops Q C f (done.setIfInBounds i true) (a.put o.dst undef) F') ∨
     (∃ F',UpdIn P ops C F o F' a ∧ ∀ v,(∃ w,F' v w)→Run P md ops Q C f (done.setIfInBounds i true) (a.put o.dst v) (F' v)) ∨
     (∃ F',CallIn P ops C F o F' a ∧ ∀ v,(∃ w,F' v w)→Run P md ops Q C f (done.setIfInBounds i true) (a.put o.dst v) (F' v)))
theorem run_any : ∀ (f:Nat) (done:Array Bool) (a:Act) (F:World→Prop) (w:World),Stable F→F w→Run P md ops Q C f done a F→wpAny P md ops Q f done a w:=by
 intro f
 induction f with
 | zero=>intro done a F w _ hw h; exact ⟨h.1,h.2 w hw⟩
 | succ f ih=>
   intro done a F w hF hw h
   refine ⟨fun e=>absurd e h.1,fun i hi => ?_⟩
   obtain ⟨o,ho,h⟩:=h.2 i hi
   unfold wpOp
   simp only [ho]
   rcases h with ⟨v,hq,hK⟩ | ⟨G,⟨hwt,hG,hr⟩,hK⟩ | ⟨F',⟨hwt,hS,_,hr⟩,hK⟩ | ⟨F',⟨hwt,hS,_,hr⟩,hK⟩ | ⟨F',⟨hwt,hS,_,hr⟩,hK⟩
   ·rcases hq with ⟨hwt,hg⟩ | ⟨hwt,rfl⟩
    ·rw [if_pos hwt]
     refine .inl ?_
     have h3:=hg w hw
     unfold Oper.wp
     generalize (execOp a.eval o).run P w=r at h3 ⊢
     cases r with
     | ok x w'=>
       cases x <;> simp only [growUpon] at h3 <;> simp only [Oper.upon]
       case value u=>
        obtain ⟨e1,e2⟩:=h3
        rw [e1,e2]
        exact ih _ _ F _ hF hw hK
       case skip=>
        obtain ⟨e1,e2⟩:=h3
        rw [e1, ← e2]
        exact ih _ _ F _ hF hw hK
       case enter f' args=>
        obtain ⟨e1,hc⟩:=h3
        rw [e1]
        exact hc.mono fun e w'' ⟨he,hb⟩=>by subst he; exact ih _ _ F _ hF (hF _ _ hw hb) hK
     | halt x w'=>simp only [growUpon] at h3
    ·rw [if_neg (by simp [hwt])]
     exact ih _ _ F _ hF hw hK
   ·rw [if_pos hwt]
    refine .inl ?_
    obtain ⟨v,w',e,hb,hg⟩:=hr w hw
    unfold Oper.wp
    rw [e,Oper.upon_value]
    exact ih _ _ _ _ (stable_and hF (hG v)) ⟨hF _ _ hw hb,hg⟩ (hK v ⟨w',hg⟩)
   ·rw [if_pos hwt]
    refine .inl ?_
    obtain ⟨w',e,hf⟩:=hr w hw
    unfold Oper.wp
    rw [e]
    simp only [Oper.upon]
    exact ih _ _ _ _ hS hf hK
   ·rw [if_pos hwt]
    refine .inl ?_
    obtain ⟨v,w',e,hf⟩:=hr w hw
    unfold Oper.wp
    rw [e,Oper.upon_value]
    exact ih _ _ _ _ (hS v) hf (hK v ⟨w',hf⟩)
   ·rw [if_pos hwt]
    refine .inl ?_
    obtain ⟨fn,args,e,hc⟩:=hr w hw
    unfold Oper.wp
    rw [e]
    simp only [Oper.upon]
    exact hc.mono fun e w'' ⟨v,he,hf⟩=>by subst he; exact ih _ _ _ _ (hS v) hf (hK v ⟨w'',hf⟩)
theorem run_mono : ∀ (f:Nat) (done:Array Bool) (a:Act) (F F':World→Prop),(∀ w,F' w→F w)→Run P md ops Q C f done a F→Run P md ops Q C f done a F':=by
 intro f
 induction f with
 | zero=>intro done a F F' hF h; exact ⟨h.1,fun w hw=>h.2 w (hF w hw)⟩
 | succ f ih=>
   intro done a F F' hF h
   refine ⟨h.1,fun i hi => ?_⟩
   obtain ⟨o,ho,h⟩:=h.2 i hi
   refine ⟨o,ho,?_⟩
   rcases h with ⟨v,hq,hK⟩ | ⟨G,⟨hwt,hG,hr⟩,hK⟩ | ⟨F2,⟨hwt,hS,hC,hr⟩,hK⟩ | ⟨F2,⟨hwt,hS,hC,hr⟩,hK⟩ | ⟨F2,⟨hwt,hS,hC,hr⟩,hK⟩
   ·exact .inl ⟨v,hq.mono hF,ih _ _ _ _ hF hK⟩
   ·exact .inr (.inl ⟨G,⟨hwt,hG,fun w hw=>hr w (hF w hw)⟩,fun v hv=>ih _ _ _ _ (fun w hw=>⟨hF w hw.1,hw.2⟩) (hK v hv)⟩)
   ·exact .inr (.inr (.inl ⟨F2,⟨hwt,hS,hC,fun w hw=>hr w (hF w hw)⟩,hK⟩))
   ·exact .inr (.inr (.inr (.inl ⟨F2,⟨hwt,hS,hC,fun w hw=>hr w (hF w hw)⟩,hK⟩)))
   ·exact .inr (.inr (.inr (.inr ⟨F2,⟨hwt,hS,hC,fun w hw=>hr w (hF w hw)⟩,hK⟩)))
theorem run_first {i:Nat} {oi:Oper} {v:Value} (hi:ops[i]? = some oi) (hsel : ∀ (j:Nat) (o:Oper) cs b,ops[j]? = some o→o.op ≠ .select cs b) :
 ∀ (f:Nat) (done:Array Bool) (a:Act) (F:World→Prop),
   (∀ j oj,ops[j]? = some oj→j ≠ i→done.getD j true=false→(∀ e ∈ oj.after,Region.binds md e=true→e.on ≠ i)→oi.apart ops oj=true) →
   i ∈ Region.ready md ops done→QuietIn P ops C oi v a→(∀ w,F w→C w) →
   Run P md ops Q C f (done.setIfInBounds i true) (a.put oi.dst v) F→Run P md ops Q C (f+1) done a F:=by
 intro f
 induction f with
 | zero=>
   intro done a F _ hr hy hC H
   refine ⟨List.ne_nil_of_mem hr,fun j hj => ?_⟩
   rcases Nat.decEq j i with h | h
   ·have:=ready_mono hj h
    rw [H.1] at this
    cases this
   ·subst h
    exact ⟨oi,hi, .inl ⟨v,hy.mono hC,H⟩⟩
 | succ f ih=>
   intro done a F free hr hy hC H
   refine ⟨List.ne_nil_of_mem hr,fun j hj => ?_⟩
   rcases Nat.decEq j i with h | h
   ·obtain ⟨oj,hoj,HS⟩:=H.2 j (ready_mono hj h)
    obtain ⟨jopen,oj',hoj',hall⟩:=mem_ready.1 hj
    obtain rfl:oj'=oj:=Option.some.inj (hoj'.symm.trans hoj)
    have open_:=(mem_ready.1 hr).1
    have waits : ∀ e ∈ oj'.after,Region.binds md e=true→e.on ≠ i:=by
     intro e he hb heq
     have:=hall e he hb
     rw [heq,getD_both open_] at this
     cases this
    obtain ⟨p1,p2,p3⟩:=Oper.apart_spec (free j oj' hoj h jopen waits)
    have keep : ∀ u,QuietIn P ops C oi v (a.put oj'.dst u):=fun u=>hy.of_same (execOp_put oi (fun cs b=>hsel i oi cs b hi) a oj'.dst u p3) (wanted_put oi a oj'.dst u p3)
    have free' : ∀ k ok,ops[k]? = some ok→k ≠ i→(done.setIfInBounds j true).getD k true=false→(∀ e ∈ ok.after,Region.binds md e=true→e.on ≠ i)→oi.apart ops ok=true:=by
     intro k ok hk hki kopen hno
     refine free k ok hk hki ?_ hno
     rcases Nat.decEq j k with e | e
     ·rwa [getD_set_ne true e] at kopen
     ·rw [← e]; exact jopen
    have e1:=execOp_put oj' (fun cs b=>hsel j oj' cs b hoj) a oi.dst v p1
    have e2:=wanted_put oj' a oi.dst v p1
    refine ⟨oj',hoj,?_⟩
    rcases HS with ⟨u,hq,hK⟩ | ⟨G,⟨hwt,hG,hrun⟩,hK⟩ | ⟨F2,⟨hwt,hS,hC2,hrun⟩,hK⟩ | ⟨F2,⟨hwt,hS,hC2,hrun⟩,hK⟩ | ⟨F2,⟨hwt,hS,hC2,hrun⟩,hK⟩
    ·refine .inl ⟨u,hq.of_same e1.symm e2.symm,ih _ _ _ free' (ready_mono hr (Ne.symm h)) (keep u) hC ?_⟩
     rw [Act.put_comm a v u p2,Array.setIfInBounds_comm _ _ (Ne.symm h)] at hK
     exact hK
    ·refine .inr (.inl ⟨G,⟨by rw [← e2]; exact hwt,hG,fun w hw=>by rw [← e1]; exact hrun w hw⟩,fun u hu=>ih _ _ _ free' (ready_mono hr (Ne.symm h)) (keep u) (fun w hw=>hC w hw.1) ?_⟩)
     have:=hK u hu
     rw [Act.put_comm a v u p2,Array.setIfInBounds_comm _ _ (Ne.symm h)] at this
     exact this
    ·refine .inr (.inr (.inl ⟨F2,⟨by rw [← e2]; exact hwt,hS,hC2,fun w hw=>by rw [← e1]; exact hrun w hw⟩,ih _ _ _ free' (ready_mono hr (Ne.symm h)) (keep _) hC2 ?_⟩))
     rw [Act.put_comm a v undef p2,Array.setIfInBounds_comm _ _ (Ne.symm h)] at hK
     exact hK
    ·refine .inr (.inr (.inr (.inl ⟨F2,⟨by rw [← e2]; exact hwt,hS,hC2,fun w hw=>by rw [← e1]; exact hrun w hw⟩,fun u hu=>ih _ _ _ free' (ready_mono hr (Ne.symm h)) (keep _) (hC2 u) ?_⟩)))
     have:=hK u hu
     rw [Act.put_comm a v u p2,Array.setIfInBounds_comm _ _ (Ne.symm h)] at this
     exact this
    ·refine .inr (.inr (.inr (.inr ⟨F2,⟨by rw [← e2]; exact hwt,hS,hC2,fun w hw=>by rw [← e1]; exact hrun w hw⟩,fun u hu=>ih _ _ _ free' (ready_mono hr (Ne.symm h)) (keep _) (hC2 u) ?_⟩)))
     have:=hK u hu
     rw [Act.put_comm a v u p2,Array.setIfInBounds_comm _ _ (Ne.symm h)] at this
     exact this
   ·subst h
    exact ⟨oi,hi, .inl ⟨v,hy.mono hC,H⟩⟩
theorem run_store {f i:Nat} {o:Oper} {done:Array Bool} {a:Act} {F:World→Prop} (F':World→Prop) (hr:Region.ready md ops done=[i]) (ho:ops[i]? = some o) (hg:o.guard=none) (hS:Stable F') (hC : ∀ w,F' w→C w) (hrun : ∀ w,F w → ∃ w',(execOp a.eval o).run P w = .ok .skip w'∧F' w')
 (h:Run P md ops Q C f (done.setIfInBounds i true) (a.put o.dst undef) F'):Run P md ops Q C (f+1) done a F:=by
 refine ⟨by rw [hr]; simp,fun j hj => ?_⟩
 rw [hr] at hj
 simp only [List.mem_cons,List.not_mem_nil,or_false] at hj
 subst hj
 exact ⟨o,ho, .inr (.inr (.inl ⟨F',⟨by simp [Region.wanted,hg],hS,hC,hrun⟩,h⟩))⟩
theorem run_quiet {f i:Nat} {o:Oper} {done:Array Bool} {a:Act} {F:World→Prop} (v:Value) (hr:Region.ready md ops done=[i]) (ho:ops[i]? = some o) (hg:o.guard=none) (hrun : ∀ w,F w→(execOp a.eval o).run P w = .ok (.value v) w)
 (h:Run P md ops Q C f (done.setIfInBounds i true) (a.put o.dst v) F):Run P md ops Q C (f+1) done a F:=by
 refine ⟨by rw [hr]; simp,fun j hj => ?_⟩
 rw [hr] at hj
 simp only [List.mem_cons,List.not_mem_nil,or_false] at hj
 subst hj
 exact ⟨o,ho, .inl ⟨v, .inl ⟨by simp [Region.wanted,hg],fun w hw=>by rw [hrun w hw]; exact ⟨rfl,rfl⟩⟩,h⟩⟩
theorem run_take {f i:Nat} {o:Oper} {done:Array Bool} {a:Act} {F:World→Prop} (v:Value) (ho:ops[i]? = some o) (hsel:Region.noSelect ops=true) (hf:Region.free md ops done i=true) (hr:(Region.ready md ops done).contains i=true) (hg:o.guard=none) (hC : ∀ w,F w→C w)
 (hrun : ∀ w,C w→(execOp a.eval o).run P w = .ok (.value v) w) (h:Run P md ops Q C f (done.setIfInBounds i true) (a.put o.dst v) F):Run P md ops Q C (f+1) done a F:=
 run_first ho (Region.noSelect_spec hsel) f done a F (Region.free_spec ho hf) (by simpa using hr) (.inl ⟨by simp [Region.wanted,hg],fun w hw=>by rw [hrun w hw]; exact ⟨rfl,rfl⟩⟩) hC h
def RunAt (P:Program) (md:Region.Mode) (ops:Array Oper) (Q:Exit→Act→World→Prop) (C:World→Prop) (f:Nat) (done:Array Bool) (a:Act) (F:World→Prop) (i:Nat):Prop:=
 ∃ o,ops[i]? = some o ∧
  ((∃ v,QuietIn P ops F o v a∧Run P md ops Q C f (done.setIfInBounds i true) (a.put o.dst v) F) ∨
   (∃ G,NewIn P ops F o G a ∧ ∀ v,(∃ w,G v w)→Run P md ops Q C f (done.setIfInBounds i true) (a.put o.dst v) (fun w=>F w∧G v w)) ∨
   (∃ F',StoreIn P ops C F o F' a∧Run P md ops Q C f (done.setIfInBounds i true) (a.put o.dst undef) F') ∨
   (∃ F',UpdIn P ops C F o F' a ∧ ∀ v,(∃ w,F' v w)→Run P md ops Q C f (done.setIfInBounds i true) (a.put o.dst v) (F' v)) ∨
   (∃ F',CallIn P ops C F o F' a ∧ ∀ v,(∃ w,F' v w)→Run P md ops Q C f (done.setIfInBounds i true) (a.put o.dst v) (F' v)))
theorem run_each {f:Nat} {done:Array Bool} {a:Act} {F:World→Prop} (rs:List Nat) (hr:Region.ready md ops done=rs) (hne:rs ≠ []) (h : ∀ i ∈ rs,RunAt P md ops Q C f done a F i):Run P md ops Q C (f+1) done a F:=by
 subst hr
 exact ⟨hne,h⟩
theorem at_upd {f i:Nat} {o:Oper} {done:Array Bool} {a:Act} {F:World→Prop} (F':Value→World→Prop) (ho:ops[i]? = some o) (hg:o.guard=none) (hS : ∀ v,Stable (F' v)) (hC : ∀ v w,F' v w→C w) (hrun : ∀ w,F w → ∃ v w',(execOp a.eval o).run P w = .ok (.value v) w'∧F' v w')
 (h : ∀ v,(∃ w,F' v w)→Run P md ops Q C f (done.setIfInBounds i true) (a.put o.dst v) (F' v)):RunAt P md ops Q C f done a F i:=
 ⟨o,ho, .inr (.inr (.inr (.inl ⟨F',⟨by simp [Region.wanted,hg],hS,hC,hrun⟩,h⟩)))⟩
theorem at_quiet {f i:Nat} {o:Oper} {done:Array Bool} {a:Act} {F:World→Prop} (v:Value) (ho:ops[i]? = some o) (hq:QuietIn P ops F o v a) (h:Run P md ops Q C f (done.setIfInBounds i true) (a.put o.dst v) F):RunAt P md ops Q C f done a F i:=
 ⟨o,ho, .inl ⟨v,hq,h⟩⟩
theorem at_call {f i:Nat} {o:Oper} {done:Array Bool} {a:Act} {F:World→Prop} (F':Value→World→Prop) (ho:ops[i]? = some o) (hg:o.guard=none) (hS : ∀ v,Stable (F' v)) (hC : ∀ v w,F' v w→C w)
 (hrun : ∀ w,F w → ∃ fn args,(execOp a.eval o).run P w = .ok (.enter fn args) w∧Calls P fn args w fun e w'=> ∃ v,e = .returned v∧F' v w')
 (h : ∀ v,(∃ w,F' v w)→Run P md ops Q C f (done.setIfInBounds i true) (a.put o.dst v) (F' v)):RunAt P md ops Q C f done a F i:=
 ⟨o,ho, .inr (.inr (.inr (.inr ⟨F',⟨by simp [Region.wanted,hg],hS,hC,hrun⟩,h⟩)))⟩
theorem at_make {w0:World} {f i t:Nat} {o:Oper} {z:Obj} {done:Array Bool} {a:Act} {F:World→Prop} (va:Nat→Value) (X:Nat→Prop) (inj : ∀ b c,va b=va c→b=c) (ho:ops[i]? = some o) (hg:o.guard=none) (hd:o.dst=some t)
 (hal : ∀ w,F w→(execOp a.eval o).run P w = .ok (.value (va w.heap.size)) (w.alloc z)) (hF : ∀ w,F w→w0.heap.size≤w.heap.size) (hX : ∀ w,F w → ∀ k,X k→k<w.heap.size)
 (h : ∀ b,w0.heap.size≤b → ¬ X b→Run P md ops Q C f (done.setIfInBounds i true) (a.put (some t) (va b)) (fun w=>F w∧w.heap[b]? = some z)):RunAt P md ops Q C f done a F i:=by
 refine ⟨o,ho, .inr (.inl ⟨fun v w=> ∃ b,v=va b∧(w0.heap.size≤b ∧ ¬ X b)∧w.heap[b]? = some z,⟨by simp [Region.wanted,hg],fun v w w' h hb => ?_,fun w hw=>⟨_,_,hal w hw,(Below.refl _ w).alloc (Nat.le_refl _) z,w.heap.size,rfl,⟨hF w hw,fun hx=>Nat.lt_irrefl _ (hX w hw _ hx)⟩,World.alloc_heap_new w z⟩⟩,fun v hv => ?_⟩)⟩
 ·obtain ⟨b,e,h1,h2⟩:=h
  exact ⟨b,e,h1,(hb.block b (heap_size_lt h2)).trans h2⟩
 obtain ⟨_,b,rfl,⟨hb0,hbX⟩,_⟩:=hv
 rw [hd]
 refine run_mono _ _ _ _ _ ?_ (h b hb0 hbX)
 rintro w ⟨h1,b',e1,_,h2⟩
 have eb:=inj _ _ e1
 subst eb
 exact ⟨h1,h2⟩
theorem run_only {f i:Nat} {done:Array Bool} {a:Act} {F:World→Prop} (hr:Region.ready md ops done=[i]) (h:RunAt P md ops Q C f done a F i):Run P md ops Q C (f+1) done a F:=
 run_each [i] hr (by simp) (fun j hj=>by rw [List.mem_singleton] at hj; rw [hj]; exact h)
theorem run_both {f i j:Nat} {done:Array Bool} {a:Act} {F:World→Prop} (hr:Region.ready md ops done=[i,j]) (h1:RunAt P md ops Q C f done a F i) (h2:RunAt P md ops Q C f done a F j):Run P md ops Q C (f+1) done a F:=
 run_each [i,j] hr (by simp) (fun k hk=>by
  simp only [List.mem_cons,List.not_mem_nil,or_false] at hk
  rcases hk with rfl | rfl
  ·exact h1
  ·exact h2)
theorem wp_region_runF {id:Nat} {a:Act} {w:World} {l:List Oper} (F:World→Prop) (hmo:P.follows .mixedOrders=true) (hF:Stable F) (h0:F w) (h:Run P .any l.toArray Q C l.length (Array.replicate l.toArray.size false) a F):(Code.region id l.toArray true).wp P Q a w:=
 wp_region_any hmo (by
  rw [show l.toArray.size=l.length by simp] at *
  exact run_any _ _ _ _ _ hF (hF _ _ h0 ((Below.refl _ w).drew)) h)
end
end Go.Proofs.Ytkbbhihndigmeaa.RC

namespace Go.Proofs.Ytkbbhihndigmeaa
open Go Go.RowKit
section
variable {P:Program} {Q:Exit→Act→World→Prop} {C:World→Prop}
theorem wp_region_runF {id:Nat} {a:Act} {w:World} {l:List Oper} (F:World→Prop) (hmo:P.follows .mixedOrders=true) (hF:Stable F) (h0:F w) (h:Run P .any l.toArray Q C l.length (Array.replicate l.toArray.size false) a F):(Code.region id l.toArray true).wp P Q a w:=
 wp_region_any hmo (by
  rw [show l.toArray.size=l.length by simp] at *
  exact run_any _ _ _ _ _ hF (hF _ _ h0 ((Below.refl _ w).drew)) h)
theorem quiet_read {ops:Array Oper} {F:World→Prop} {o:Oper} {v:Value} {a:Act} (hg:o.guard=none) (hrun : ∀ w,F w→(execOp a.eval o).run P w = .ok (.value v) w):QuietIn P ops F o v a:=
 .inl ⟨by simp [Region.wanted,hg],fun w hw=>by rw [hrun w hw]; exact ⟨rfl,rfl⟩⟩
theorem exec_app {o:Oper} {a:Act} (s x:Operand) (t:TypeId) (ho:o.op = .call { callee:= .builtin .append,args := #[s,x],argTypes := #[t,t] }) (v u:Value) (hs:a.eval s=v) (hx:a.eval x=u) {w w':World} {r:Value}
 (hr:(Builtin.append_ #[t,t] o.type #[v,u]).run P w = .ok r w'):(execOp a.eval o).run P w = .ok (.value r) w':=by
 unfold execOp
 simp only [ho,resolve,invoke,builtin,Sem.run_bind,Sem.run_pure,Result.andThen_ok,List.map_toArray,List.map_cons,List.map_nil,hs,hx,hr]
end
section
variable {P:Program} {ops:Array Oper} {md:Region.Mode} {Q:Exit→Act→World→Prop} {C:World→Prop}
theorem run_takeG {f i:Nat} {o:Oper} {done:Array Bool} {a:Act} {F:World→Prop} (v:Value) (ho:ops[i]? = some o) (hsel:Region.noSelect ops=true) (hf:Region.free md ops done i=true) (hr:(Region.ready md ops done).contains i=true) (hC : ∀ w,F w→C w)
 (hq:QuietIn P ops C o v a) (h:Run P md ops Q C f (done.setIfInBounds i true) (a.put o.dst v) F):Run P md ops Q C (f+1) done a F:=
 run_first ho (Region.noSelect_spec hsel) f done a F (Region.free_spec ho hf) (by simpa using hr) hq hC h
theorem quiet_yes {o:Oper} {a:Act} (v:Value) (hw:Region.wanted o (yielded ops a.tmps)=true) (hrun : ∀ w,C w→(execOp a.eval o).run P w = .ok (.value v) w):QuietIn P ops C o v a:=
 .inl ⟨hw,fun w h=>by rw [hrun w h]; exact ⟨rfl,rfl⟩⟩
theorem quiet_no {o:Oper} {a:Act} (hw:Region.wanted o (yielded ops a.tmps)=false):QuietIn P ops C o undef a:= .inr ⟨hw,rfl⟩
theorem at_store {f i:Nat} {o:Oper} {done:Array Bool} {a:Act} {F:World→Prop} (F':World→Prop) (ho:ops[i]? = some o) (hg:o.guard=none) (hS:Stable F') (hC : ∀ w,F' w→C w) (hrun : ∀ w,F w → ∃ w',(execOp a.eval o).run P w = .ok .skip w'∧F' w')
 (h:Run P md ops Q C f (done.setIfInBounds i true) (a.put o.dst undef) F'):RunAt P md ops Q C f done a F i:=
 ⟨o,ho, .inr (.inr (.inl ⟨F',⟨by simp [Region.wanted,hg],hS,hC,hrun⟩,h⟩))⟩
end
end Go.Proofs.Ytkbbhihndigmeaa

namespace Go.Proofs.Ytkbbhihndigmeaa
open Go Go.RowKit
section
variable {P:Program} {ops:Array Oper} {md:Region.Mode} {Q:Exit→Act→World→Prop} {C:World→Prop}
def UpdX (P:Program) (ops:Array Oper) (C F:World→Prop) (X:Nat→Prop) (o:Oper) (F':Value→World→Prop) (X':Value→Nat→Prop) (a:Act):Prop:=
 Region.wanted o (yielded ops a.tmps)=true∧(∀ v,Stable (F' v))∧(∀ v w,F' v w→C w)∧(∀ v w,F' v w → ∀ b,X' v b→b<w.heap.size) ∧
  ∀ w,F w → ∃ v w',(execOp a.eval o).run P w = .ok (.value v) w'∧F' v w'∧(∀ b z,¬ X b→w.heap[b]? = some z→w'.heap[b]? = some z) ∧ ∀ b,X' v b→X b∨w.heap.size≤b
def RunX (P:Program) (md:Region.Mode) (ops:Array Oper) (Q:Exit→Act→World→Prop) (C:World→Prop) (w0:World) (x c tx:Nat) (z:Obj) (g:Nat):Nat→Array Bool→Act→(World→Prop)→(Nat→Prop)→Prop
 | 0,done,a,F,X=>Run P md ops Q C (g+1) done a F ∧ ∀ b,w0.heap.size≤b → ¬ X b→Run P md ops Q C g (done.setIfInBounds x true) (a.put (some tx) (ptrTo b)) (fun w=>F w∧w.heap[b]? = some z)
 | f+1,done,a,F,X=>done.getD c true=false∧x ∈ Region.ready md ops done∧(∃ i ∈ Region.ready md ops done,i ≠ x) ∧ ∀ i ∈ Region.ready md ops done,i ≠ x → ∃ o,ops[i]? = some o ∧
    ((∃ v,QuietIn P ops F o v a∧RunX P md ops Q C w0 x c tx z g f (done.setIfInBounds i true) (a.put o.dst v) F X) ∨
     (∃ F' X',UpdX P ops C F X o F' X' a ∧ ∀ v,(∃ w,F' v w)→RunX P md ops Q C w0 x c tx z g f (done.setIfInBounds i true) (a.put o.dst v) (F' v) (X' v)))
variable {w0:World} {x c tx:Nat} {z:Obj} {g:Nat} {ox:Oper}
def waitsB (md:Region.Mode) (ops:Array Oper) (x c:Nat):Bool:=(List.range ops.size).all fun t => !(Region.waitsFor md ops t x) || Region.waitsFor md ops t c
def apartXB (md:Region.Mode) (ops:Array Oper) (x:Nat):Bool:=(List.range ops.size).all fun j=>j==x || Region.waitsFor md ops j x || (match ops[x]?,ops[j]? with
 | some ox,some oj=>ox.apart ops oj
 | _,_=>true)
theorem not_ready_waits {t i:Nat} {done:Array Bool} (hw:Region.waitsFor md ops t i=true) (hd:done.getD i false=false):t ∉ Region.ready md ops done:=fun h=>by
 obtain ⟨_,o,ho,hall⟩:=mem_ready.1 h
 obtain ⟨o',ho',e,he,hb,hi⟩:=Region.waitsFor_spec hw
 obtain rfl:o'=o:=Option.some.inj (ho'.symm.trans ho)
 have:=hall e he hb
 rw [hi,hd] at this
 cases this
theorem not_waits {t i:Nat} {o:Oper} (ho:ops[t]? = some o) (hw:Region.waitsFor md ops t i=false) : ∀ e ∈ o.after,Region.binds md e=true→e.on ≠ i:=fun e he hb hi=>by
 unfold Region.waitsFor at hw
 simp only [ho] at hw
 rw [← Bool.not_eq_true,Array.any_eq_true'] at hw
 exact hw ⟨e,he,by simp [hb,hi]⟩
theorem ready_back {done:Array Bool} {i:Nat} (hW:waitsB md ops x c=true) (hc:done.getD c true=false) (hxc:x ≠ c) (hxs:x<done.size) (hi:i ∈ Region.ready md ops (done.setIfInBounds x true)):i ∈ Region.ready md ops done∧i ≠ x:=by
 obtain ⟨h0,o,ho,hall⟩:=mem_ready.1 hi
 have hix:i ≠ x:=fun e=>by
  subst e
  simp [hxs] at h0
 have hil:i<ops.size:=(Array.getElem?_eq_some_iff.1 ho).1
 have hnw:Region.waitsFor md ops i x=false:=by
  cases e:Region.waitsFor md ops i x with
  | false=>rfl
  | true=>
    have h1:=List.all_eq_true.1 hW i (by simpa using hil)
    simp only [e,Bool.not_true,Bool.false_or] at h1
    exact absurd hi (not_ready_waits h1 (by rw [getD_set_ne false hxc]; exact getD_both hc))
 refine ⟨mem_ready.2 ⟨by rwa [getD_set_ne true (Ne.symm hix)] at h0,o,ho,fun e he hb => ?_⟩,hix⟩
 have h2:=hall e he hb
 have hx:=not_waits ho hnw e he hb
 rwa [getD_set_ne false (Ne.symm hx)] at h2
theorem apart_of {done:Array Bool} {i:Nat} {oi:Oper} (hA:apartXB md ops x=true) (hox:ops[x]? = some ox) (hoi:ops[i]? = some oi) (hix:i ≠ x) (hr:i ∈ Region.ready md ops done) (hx:done.getD x false=false):ox.apart ops oi=true:=by
 have hil:i<ops.size:=(Array.getElem?_eq_some_iff.1 hoi).1
 have h1:=List.all_eq_true.1 hA i (by simpa using hil)
 simp only [hox,hoi,Bool.or_eq_true,beq_iff_eq] at h1
 rcases h1 with (h1 | h1) | h1
 ·exact absurd h1 hix
 ·exact absurd hr (not_ready_waits h1 hx)
 ·exact h1
theorem runX_made (hox:ops[x]? = some ox) (hdx:ox.dst=some tx) (hsel : ∀ (j:Nat) (o:Oper) cs b,ops[j]? = some o→o.op ≠ .select cs b) (hW:waitsB md ops x c=true) (hA:apartXB md ops x=true) (hxc:x ≠ c) :
 ∀ (f:Nat) (done:Array Bool) (a:Act) (F:World→Prop) (X:Nat→Prop) (b:Nat),done.size=ops.size→w0.heap.size≤b → ¬ X b→(∀ w,F w→C w)→RunX P md ops Q C w0 x c tx z g f done a F X →
   Run P md ops Q C (f+g) (done.setIfInBounds x true) (a.put (some tx) (ptrTo b)) (fun w=>F w∧w.heap[b]? = some z):=by
 intro f
 induction f with
 | zero=>intro done a F X b _ hb hX _ h; rw [Nat.zero_add]; exact h.2 b hb hX
 | succ f ih=>
   intro done a F X b hds hb hX hC h
   obtain ⟨hc,hxr,⟨i0,hi0,hi0x⟩,hall⟩:=h
   have hxs:x<done.size:=by rw [hds]; exact (Array.getElem?_eq_some_iff.1 hox).1
   have hx0:done.getD x false=false:=getD_both (mem_ready.1 hxr).1
   rw [Nat.succ_add]
   refine ⟨List.ne_nil_of_mem (ready_mono hi0 hi0x),fun i hi => ?_⟩
   obtain ⟨hir,hix⟩:=ready_back hW hc hxc hxs hi
   obtain ⟨o,ho,hstep⟩:=hall i hir hix
   obtain ⟨p1,p2,p3⟩:=Oper.apart_spec (apart_of hA hox ho hix hir hx0)
   rw [hdx] at p1 p2
   have e1:=execOp_put o (fun cs b=>hsel i o cs b ho) a (some tx) (ptrTo b) p1
   have e2:=wanted_put o a (some tx) (ptrTo b) p1
   refine ⟨o,ho,?_⟩
   rcases hstep with ⟨v,hq,hK⟩ | ⟨F',X',⟨hwt,hS,hC',hX',hrun⟩,hK⟩
   ·refine .inl ⟨v,(hq.of_same e1 e2).mono (fun w hw=>hw.1),?_⟩
    have:=ih _ _ F X b (by simpa using hds) hb hX hC hK
    rw [Act.put_comm a _ _ (fun d hd e=>p2 d hd e),Array.setIfInBounds_comm _ _ hix.symm]
    exact this
   ·refine .inr (.inr (.inr ⟨fun v w=>F' v w∧w.heap[b]? = some z ∧ ¬ X' v b,⟨by rw [e2]; exact hwt,fun v w w' h hb'=>⟨hS v w w' h.1 hb',(hb'.block b (heap_size_lt h.2.1)).trans h.2.1,h.2.2⟩,fun v w hw=>hC' v w hw.1,fun w hw => ?_⟩,fun v hv => ?_⟩))
    ·obtain ⟨v,w',e,hf,hkeep,hnew⟩:=hrun w hw.1
     rw [e1]
     refine ⟨v,w',e,hf,hkeep b z hX hw.2,fun hxb => ?_⟩
     rcases hnew b hxb with h1 | h1
     ·exact hX h1
     ·have:=heap_size_lt hw.2
      omega
    ·obtain ⟨w,hf,_,hnx⟩:=hv
     have:=ih _ _ (F' v) (X' v) b (by simpa using hds) hb hnx (hC' v) (hK v ⟨w,hf⟩)
     rw [Act.put_comm a _ _ (fun d hd e=>p2 d hd e),Array.setIfInBounds_comm _ _ hix.symm]
     exact run_mono _ _ _ _ _ (fun w hw=>⟨hw.1,hw.2.1⟩) this
theorem runX_float (hox:ops[x]? = some ox) (hgx:ox.guard=none) (hdx:ox.dst=some tx) (hal : ∀ (a:Act) (w:World),(execOp a.eval ox).run P w = .ok (.value (ptrTo w.heap.size)) (w.alloc z)) (hsel : ∀ (j:Nat) (o:Oper) cs b,ops[j]? = some o→o.op ≠ .select cs b) (hW:waitsB md ops x c=true) (hA:apartXB md ops x=true) (hxc:x ≠ c) (hC0 : ∀ w,C w→w0.heap.size≤w.heap.size) :
 ∀ (f:Nat) (done:Array Bool) (a:Act) (F:World→Prop) (X:Nat→Prop),done.size=ops.size→(∀ w,F w→C w)→(∀ w,F w → ∀ b,X b→b<w.heap.size)→RunX P md ops Q C w0 x c tx z g f done a F X→Run P md ops Q C (f+g+1) done a F:=by
 intro f
 induction f with
 | zero=>intro done a F X _ _ _ h; rw [Nat.zero_add]; exact h.1
 | succ f ih=>
   intro done a F X hds hC hXs H
   have H':=H
   obtain ⟨hc,hxr,⟨i0,hi0,hi0x⟩,hall⟩:=H
   refine ⟨List.ne_nil_of_mem hxr,fun i hi => ?_⟩
   by_cases hix:i=x
   ·subst hix
    refine ⟨ox,hox, .inr (.inl ⟨fun v w=> ∃ b,v=ptrTo b∧(w0.heap.size≤b ∧ ¬ X b)∧w.heap[b]? = some z,⟨by simp [Region.wanted,hgx],fun v w w' h hb => ?_,fun w hw=>⟨_,_,hal a w,(Below.refl _ w).alloc (Nat.le_refl _) z,w.heap.size,rfl,⟨hC0 w (hC w hw),fun hx=>Nat.lt_irrefl _ (hXs w hw _ hx)⟩,World.alloc_heap_new w z⟩⟩,fun v hv => ?_⟩)⟩
    ·obtain ⟨b,e,h1,h2⟩:=h
     exact ⟨b,e,h1,(hb.block b (heap_size_lt h2)).trans h2⟩
    obtain ⟨_,b,rfl,⟨hb0,hbX⟩,_⟩:=hv
    rw [hdx]
    refine run_mono _ _ _ _ _ ?_ (runX_made hox hdx hsel hW hA hxc (f+1) done a F X b hds hb0 hbX hC H')
    rintro w ⟨h1,b',e1,_,h2⟩
    have eb:=ptr_inj e1
    subst eb
    exact ⟨h1,h2⟩
   ·obtain ⟨o,ho,hstep⟩:=hall i hi hix
    refine ⟨o,ho,?_⟩
    rcases hstep with ⟨v,hq,hK⟩ | ⟨F',X',⟨hwt,hS,hC',hX',hrun⟩,hK⟩
    ·refine .inl ⟨v,hq,?_⟩
     have:=ih _ _ F X (by simpa using hds) hC hXs hK
     rw [show f+1+g=f+g+1 by omega]
     exact this
    ·refine .inr (.inr (.inr ⟨F',⟨hwt,hS,hC',fun w hw => ?_⟩,fun v hv => ?_⟩))
     ·obtain ⟨v,w',e,hf,_,_⟩:=hrun w hw
      exact ⟨v,w',e,hf⟩
     ·have:=ih _ _ (F' v) (X' v) (by simpa using hds) (hC' v) (hX' v) (hK v hv)
      rw [show f+1+g=f+g+1 by omega]
      exact this
def RunXAt (P:Program) (md:Region.Mode) (ops:Array Oper) (Q:Exit→Act→World→Prop) (C:World→Prop) (w0:World) (x c tx:Nat) (z:Obj) (g f:Nat) (done:Array Bool) (a:Act) (F:World→Prop) (X:Nat→Prop) (i:Nat):Prop:=
 ∃ o,ops[i]? = some o ∧
  ((∃ v,QuietIn P ops F o v a∧RunX P md ops Q C w0 x c tx z g f (done.setIfInBounds i true) (a.put o.dst v) F X) ∨
   (∃ F' X',UpdX P ops C F X o F' X' a ∧ ∀ v,(∃ w,F' v w)→RunX P md ops Q C w0 x c tx z g f (done.setIfInBounds i true) (a.put o.dst v) (F' v) (X' v)))
theorem runX_each {f:Nat} {done:Array Bool} {a:Act} {F:World→Prop} {X:Nat→Prop} (rs:List Nat) (hc:done.getD c true=false) (hr:(Region.ready md ops done).filter (· != x)=rs) (hxr:(Region.ready md ops done).contains x=true) (hne:rs ≠ []) (h : ∀ i ∈ rs,RunXAt P md ops Q C w0 x c tx z g f done a F X i):RunX P md ops Q C w0 x c tx z g (f+1) done a F X:=by
 subst hr
 refine ⟨hc,by simpa using hxr,?_,fun i hi hix=>h i (by simp [hi,hix])⟩
 cases e:(Region.ready md ops done).filter (· != x) with
 | nil=>exact absurd e hne
 | cons i r=>
   have:i ∈ (Region.ready md ops done).filter (· != x):=by rw [e]; exact List.mem_cons_self
   simp only [List.mem_filter,bne_iff_ne,ne_eq] at this
   exact ⟨i,this.1,this.2⟩
theorem atX_upd {f i:Nat} {o:Oper} {done:Array Bool} {a:Act} {F:World→Prop} {X:Nat→Prop} (F':Value→World→Prop) (X':Value→Nat→Prop) (ho:ops[i]? = some o) (hg:o.guard=none) (hS : ∀ v,Stable (F' v)) (hC : ∀ v w,F' v w→C w) (hX : ∀ v w,F' v w → ∀ b,X' v b→b<w.heap.size)
 (hrun : ∀ w,F w → ∃ v w',(execOp a.eval o).run P w = .ok (.value v) w'∧F' v w'∧(∀ b z,¬ X b→w.heap[b]? = some z→w'.heap[b]? = some z) ∧ ∀ b,X' v b→X b∨w.heap.size≤b)
 (h : ∀ v,(∃ w,F' v w)→RunX P md ops Q C w0 x c tx z g f (done.setIfInBounds i true) (a.put o.dst v) (F' v) (X' v)):RunXAt P md ops Q C w0 x c tx z g f done a F X i:=
 ⟨o,ho, .inr ⟨F',X',⟨by simp [Region.wanted,hg],hS,hC,hX,hrun⟩,h⟩⟩
theorem atX_quiet {f i:Nat} {o:Oper} {done:Array Bool} {a:Act} {F:World→Prop} {X:Nat→Prop} (v:Value) (ho:ops[i]? = some o) (hq:QuietIn P ops F o v a) (h:RunX P md ops Q C w0 x c tx z g f (done.setIfInBounds i true) (a.put o.dst v) F X):RunXAt P md ops Q C w0 x c tx z g f done a F X i:=
 ⟨o,ho, .inl ⟨v,hq,h⟩⟩
theorem runX_mono : ∀ (f:Nat) (done:Array Bool) (a:Act) (F F':World→Prop) (X X':Nat→Prop),(∀ w,F' w→F w)→(∀ b,X b→X' b)→(∀ b,X' b→X b)→RunX P md ops Q C w0 x c tx z g f done a F X→RunX P md ops Q C w0 x c tx z g f done a F' X':=by
 intro f
 induction f with
 | zero=>intro done a F F' X X' hF hX _ h; exact ⟨run_mono _ _ _ _ _ hF h.1,fun b hb hb'=>run_mono _ _ _ _ _ (fun w hw=>⟨hF w hw.1,hw.2⟩) (h.2 b hb fun hh=>hb' (hX b hh))⟩
 | succ f ih=>
   intro done a F F' X X' hF hX hX2 h
   refine ⟨h.1,h.2.1,h.2.2.1,fun i hi hix => ?_⟩
   obtain ⟨o,ho,hs⟩:=h.2.2.2 i hi hix
   refine ⟨o,ho,?_⟩
   rcases hs with ⟨v,hq,hK⟩ | ⟨F2,X2,⟨hwt,hS,hC,hXs,hrun⟩,hK⟩
   ·exact .inl ⟨v,hq.mono hF,ih _ _ _ _ _ _ hF hX hX2 hK⟩
   ·refine .inr ⟨F2,X2,⟨hwt,hS,hC,hXs,fun w hw => ?_⟩,hK⟩
    obtain ⟨v,w',e,h1,h2,h3⟩:=hrun w (hF w hw)
    exact ⟨v,w',e,h1,fun b z hb=>h2 b z fun hh=>hb (hX b hh),fun b hb=>(h3 b hb).imp (hX b) id⟩
end
end Go.Proofs.Ytkbbhihndigmeaa

namespace Go.Proofs.Ytkbbhihndigmeaa
open Go Go.RowKit
structure Row3 where
 a:Option Addr
 n:Nat
 cap:Nat
 g:Nat→Int
instance:Inhabited Row3:=⟨⟨none,0,0,fun _=>0⟩⟩
def Tab (w:World) (a:Option Addr) (n:Nat) (f:Nat→Row3):Prop:=
 Cells w a n (fun i=> .slice (f i).a (f i).n (f i).cap) ∧ ∀ i,i<n→Ints w (f i).a (f i).n (f i).g
theorem Tab.below {w w':World} {a:Option Addr} {n:Nat} {f:Nat→Row3} (h:Tab w a n f) (hb:Below w.heap.size w w'):Tab w' a n f:=⟨Cells.below h.1 hb,fun i hi=>Cells.below (h.2 i hi) hb⟩
theorem Tab.at {w:World} {a:Option Addr} {n:Nat} {f:Nat→Row3} (h:Tab w a n f) (i:Nat) (hi:i<n) :
 ∃ b off,a=some ⟨b,off,none⟩∧b<w.heap.size ∧ ∀ i,i<n→w.cell? ⟨b,off+i,none⟩=some (.slice (f i).a (f i).n (f i).cap):=Cells.at h.1 i hi
abbrev tabV (a:Option Addr) (n cap:Nat):Value:= .agg #[.slice a n cap]
abbrev RowIs (w:World) (b:Nat) (c:Array Value) (e:TypeId):Prop:=w.heap[b]? = some (.cells c e (0,0))
theorem RowIs.cell {w:World} {b:Nat} {c:Array Value} {e:TypeId} (h:RowIs w b c e) (j:Nat):w.cell? ⟨b,j,none⟩=c[j]? := by
 simp [World.cell?,h]
def allB (p:Nat→Bool):Nat→Bool
 | 0=>true
 | k+1=>allB p k && p k
theorem allB_iff (p:Nat→Bool) : ∀ n,allB p n=true ↔ ∀ i,i<n→p i=true
 | 0=>⟨fun _ i hi=>absurd hi (Nat.not_lt_zero _),fun _=>rfl⟩
 | n+1=>by
   rw [allB,Bool.and_eq_true,allB_iff p n]
   exact ⟨fun ⟨h1,h2⟩ i hi=>by
    by_cases e:i=n
    ·rw [e]; exact h2
    ·exact h1 i (by omega),fun h=>⟨fun i hi=>h i (by omega),h n (by omega)⟩⟩
theorem allB_no {p:Nat→Bool} {n i:Nat} (hi:i<n) (h:p i=false):allB p n=false:=by
 cases hb:allB p n with
 | false=>rfl
 | true=>rw [(allB_iff p n).1 hb i hi] at h; cases h
def lenB (f:Nat→Row3) (i:Nat):Bool:=decide (1≤(f i).n∧(f i).n≤4)
def sameB (f:Nat→Row3) (i:Nat):Bool:=decide ((f i).n=(f 0).n)
def numB (f:Nat→Row3) (i:Nat):Bool:=allB (fun j=>decide (-100≤(f i).g j∧(f i).g j≤100)) (f i).n
def tableE (n:Nat) (f:Nat→Row3):Int:=
 if 1≤n∧n≤4 then (if allB (lenB f) n=true then (if allB (sameB f) n=true then (if allB (numB f) n=true then 0 else 3) else 15) else 6) else 6
theorem table_ok {n:Nat} {f:Nat→Row3} (h:tableE n f=0):(1≤n∧n≤4)∧(1≤(f 0).n∧(f 0).n≤4)∧(∀ i,i<n→(f i).n=(f 0).n) ∧ ∀ i,i<n → ∀ j,j<(f 0).n → -100≤(f i).g j∧(f i).g j≤100:=by
 unfold tableE at h
 by_cases h1:1≤n∧n≤4
 ·rw [if_pos h1] at h
  by_cases h2:allB (lenB f) n=true
  ·rw [if_pos h2] at h
   by_cases h3:allB (sameB f) n=true
   ·rw [if_pos h3] at h
    by_cases h4:allB (numB f) n=true
    ·have a2:=(allB_iff _ _).1 h2
     have a3:=(allB_iff _ _).1 h3
     have a4:=(allB_iff _ _).1 h4
     refine ⟨h1,by have:=a2 0 (by omega); simpa [lenB] using this,fun i hi=>by have:=a3 i hi; simpa [sameB] using this,fun i hi j hj => ?_⟩
     have e:(f i).n=(f 0).n:=by have:=a3 i hi; simpa [sameB] using this
     have a5:=(allB_iff _ _).1 (a4 i hi) j (by omega)
     simpa using a5
    ·rw [if_neg h4] at h; cases h
   ·rw [if_neg h3] at h; cases h
  ·rw [if_neg h2] at h; cases h
 ·rw [if_neg h1] at h; cases h
end Go.Proofs.Ytkbbhihndigmeaa

namespace Go.Proofs.Ytkbbhihndigmeaa
open Go Go.RowKit
theorem tableE_len {n:Nat} {f:Nat→Row3} (h : ¬ (1≤n∧n≤4)):tableE n f=6:=if_neg h
theorem tableE_row {n k:Nat} {f:Nat→Row3} (hk:k<n) (h : ¬ (1≤(f k).n∧(f k).n≤4)):tableE n f=6:=by
 unfold tableE
 rw [allB_no hk (show lenB f k=false from decide_eq_false h)]
 split <;> rfl
theorem tableE_same {n k:Nat} {f:Nat→Row3} (h1:1≤n∧n≤4) (h2:allB (lenB f) n=true) (hk:k<n) (h:(f k).n ≠ (f 0).n):tableE n f=15:=by
 unfold tableE
 rw [if_pos h1,if_pos h2,allB_no hk (show sameB f k=false from decide_eq_false h)]
 rfl
theorem tableE_num {n k j:Nat} {f:Nat→Row3} (h1:1≤n∧n≤4) (h2:allB (lenB f) n=true) (h3:allB (sameB f) n=true) (hk:k<n) (hj:j<(f k).n) (h : ¬ (-100≤(f k).g j∧(f k).g j≤100)):tableE n f=3:=by
 unfold tableE
 rw [if_pos h1,if_pos h2,if_pos h3,allB_no hk (show numB f k=false from allB_no hj (decide_eq_false h))]
 rfl
theorem tableE_yes {n:Nat} {f:Nat→Row3} (h1:1≤n∧n≤4) (h2:allB (lenB f) n=true) (h3:allB (sameB f) n=true) (h4:allB (numB f) n=true):tableE n f=0:=by
 unfold tableE
 rw [if_pos h1,if_pos h2,if_pos h3,if_pos h4]
set_option maxHeartbeats 4000000 in
theorem rcheckTable_c (a:Option Addr) (n cap:Nat) (f:Nat→Row3) (w:World) (hf:Tab w a n f) (hn:n≤1048576) :
 Calls Try.prog 24 #[tabV a n cap] w fun e w'=>e = .returned (.int .i64 (tableE n f))∧Below w.heap.size w w':=by
 obtain ⟨W,hW⟩ : ∃ W,w.alloc (.cells #[.slice a n cap] 24)=W:=⟨_,rfl⟩
 have hB:Below w.heap.size w W:=by rw [← hW]; exact Below.alloc1 (Below.refl _ _) _ (Nat.le_refl _)
 have hR:RowIs W w.heap.size #[.slice a n cap] 24:=by rw [← hW]; exact heap_new_at _ _ _ rfl
 have r0:W.cell? ⟨w.heap.size,0,none⟩=some (.slice a n cap):=RowIs.cell hR 0
 have rz:w.heap.size<W.heap.size:=(Array.getElem?_eq_some_iff.1 hR).1
 have HF:=Lib.hid (hf.below hB)
 have HB:=Lib.hid hB
 clear hR hf hB
 by_cases h1:1≤n∧n≤4
 ·obtain ⟨h11,h12⟩:=h1
  go_enter Try.func24,Try.ntmps24
  go_wp2
  go_loop [4] (fun i=> ∃ k:Nat,k≤n∧i = .int .i64 k∧allB (lenB f) k=true) (fun i=>n-(intOf i).toNat)
  case atStart=>exact ⟨0,Nat.zero_le _,rfl,rfl⟩
  case round=>
   obtain ⟨k,hk,rfl,ho⟩:=hrel
   have Ho:=Lib.hid ho
   clear ho
   by_cases hlt:k<n
   ·obtain ⟨b,off,rfl,hbs,hc⟩:=Tab.at HF.out k hlt
    have hck:=hc k hlt
    clear hc
    by_cases h2:(f k).n<1
    ·have ev:tableE n f=6:=tableE_row hlt (by omega)
     go_wp2
     go_ret
     exact ⟨rfl,HB.out⟩
    by_cases h3:4<(f k).n
    ·have ev:tableE n f=6:=tableE_row hlt (by omega)
     go_wp2
     go_ret
     exact ⟨rfl,HB.out⟩
    go_wp2
    go_round
    case rel=>exact ⟨k+1,by omega,by go_num,by rw [allB,Ho.out,Bool.true_and,lenB]; simp; omega⟩
    case measure=>simp [intOf]; omega
   ·obtain rfl:k=n:=by omega
    obtain ⟨b,off,rfl,hbs,hc⟩:=Tab.at HF.out 0 (by omega)
    have hck0:=hc 0 (by omega)
    have HCk:=Lib.hid hc
    clear hc
    go_wp2
    clear hck0 HCk
    go_loopw [5] (fun i wr=> ∃ j:Nat,j≤k∧i = .int .i64 j∧allB (sameB f) j=true∧Below W.heap.size W wr) (fun i _=>k-(intOf i).toNat)
    case atStart=>exact ⟨0,Nat.zero_le _,rfl,rfl,Below.refl _ _⟩
    case round=>
     obtain ⟨j,hj,rfl,ho,hbw⟩:=hrel
     have Hs:=Lib.hid ho
     have Hbw:=Lib.hid hbw
     have hT:=HF.out.below hbw
     obtain ⟨b',off',he,hbs',hc⟩:=Tab.at hT 0 (by omega)
     obtain ⟨rfl,rfl⟩:b'=b∧off'=off:=by injection he with he; injection he with h1 h2 _; exact ⟨h1.symm,h2.symm⟩
     have hk0:0<k:=by omega
     have hck0:=hc 0 hk0
     rw [Nat.add_zero] at hck0
     have r0:wr.cell? ⟨w.heap.size,0,none⟩=some (.slice (some ⟨b',off',none⟩) k cap):=(hbw.cell (p:=⟨w.heap.size,0,none⟩) rz).trans r0
     have rz:w.heap.size<wr.heap.size:=Nat.lt_of_lt_of_le rz hbw.size
     have HCk:=Lib.hid hc
     have HT:=Lib.hid hT
     clear ho hbw hc hT he
     by_cases hlt:j<k
     ·have hck:=HCk.out j hlt
      by_cases h2:(f j).n=(f 0).n
      ·have t0:((((f j).n:Nat):Int) != (((f 0).n:Nat):Int))=false:=by simp [h2]
       go_wp2
       go_quiet (fail)
       go_wp2
       go_roundw
       case rel=>exact ⟨j+1,by omega,by go_num,by rw [allB,Hs.out,Bool.true_and,sameB]; simp [h2],bup Hbw.out (below_drewN (Below.refl _ _) _)⟩
       case measure=>simp [intOf]; omega
      ·have ev:tableE k f=15:=tableE_same ⟨h11,h12⟩ Ho.out hlt h2
       have t0:((((f j).n:Nat):Int) != (((f 0).n:Nat):Int))=true:=by simp; omega
       go_wp2
       go_quiet (fail)
       go_wp2
       go_ret
       exact ⟨by rw [ev]; rfl,bup HB.out (bup Hbw.out (below_drewN (Below.refl _ _) _))⟩
     ·obtain rfl:j=k:=by omega
      go_wp2
      go_loop [6] (fun i=> ∃ r:Nat,r≤j∧i = .int .i64 r∧allB (numB f) r=true) (fun i=>j-(intOf i).toNat)
      case atStart=>exact ⟨0,Nat.zero_le _,rfl,rfl⟩
      case round=>
       obtain ⟨r,hr,rfl,ho⟩:=hrel
       have Hn:=Lib.hid ho
       clear ho
       by_cases hlt:r<j
       ·have hck:=HCk.out r hlt
        have hI:=HT.out.2 r hlt
        have hl4:(f r).n≤4:=by
         have:=(allB_iff _ _).1 Ho.out r hlt
         simp [lenB] at this
         omega
        have HI:=Lib.hid hI
        clear hI
        go_wp2
        go_loop [7] (fun i=> ∃ q:Nat,q≤(f r).n∧i = .int .i64 q∧allB (fun t=>decide (-100≤(f r).g t∧(f r).g t≤100)) q=true) (fun i=>(f r).n-(intOf i).toNat)
        case atStart=>exact ⟨0,Nat.zero_le _,rfl,rfl⟩
        case round=>
         obtain ⟨q,hq,rfl,ho⟩:=hrel
         have Hq:=Lib.hid ho
         clear ho
         by_cases hlq:q<(f r).n
         ·obtain ⟨rb,ro,hra,hrs,hrc⟩:=Cells.at HI.out q hlq
          have hcq:=hrc q hlq
          rw [hra] at hck
          clear hrc
          by_cases g1:(f r).g q < -100
          ·have ev:tableE j f=3:=tableE_num ⟨h11,h12⟩ Ho.out Hs.out hlt hlq (by omega)
           go_wp2
           go_ret
           exact ⟨rfl,bup HB.out Hbw.out⟩
          by_cases g2:100<(f r).g q
          ·have ev:tableE j f=3:=tableE_num ⟨h11,h12⟩ Ho.out Hs.out hlt hlq (by omega)
           go_wp2
           go_ret
           exact ⟨rfl,bup HB.out Hbw.out⟩
          go_wp2
          go_round
          case rel=>exact ⟨q+1,by omega,by go_num,by rw [allB,Hq.out,Bool.true_and]; simp; omega⟩
          case measure=>simp [intOf]; omega
         ·obtain rfl:q=(f r).n:=by omega
          go_wp2
          go_round
          case rel=>exact ⟨r+1,by omega,by go_num,by rw [allB,Hn.out,Bool.true_and,numB]; exact Hq.out⟩
          case measure=>simp [intOf]; omega
       ·obtain rfl:r=j:=by omega
        have ev:tableE r f=0:=tableE_yes ⟨h11,h12⟩ Ho.out Hs.out Hn.out
        go_wp2
        go_ret
        exact ⟨rfl,bup HB.out Hbw.out⟩
 ·have ev:tableE n f=6:=tableE_len h1
  rw [ev]
  by_cases h2:n<1
  ·go_enter Try.func24,Try.ntmps24
   go_wp2
   go_ret
   exact ⟨rfl,HB.out⟩
  ·have h3:4<n:=by omega
   go_enter Try.func24,Try.ntmps24
   go_wp2
   go_ret
   exact ⟨rfl,HB.out⟩
end Go.Proofs.Ytkbbhihndigmeaa

namespace Go.Proofs.Ytkbbhihndigmeaa
open Go Go.RowKit
structure Spares (K:Nat→Prop) (D:Nat) (A B:World):Prop where
 size:A.heap.size≤B.heap.size
 block : ∀ k,k<A.heap.size→(K k∨D≤k)→B.heap[k]? = A.heap[k]?
theorem Spares.refl (K:Nat→Prop) (D:Nat) (A:World):Spares K D A A:=⟨Nat.le_refl _,fun _ _ _=>rfl⟩
theorem Spares.trans {K:Nat→Prop} {D:Nat} {A B C:World} (h:Spares K D A B) (k:Spares K D B C):Spares K D A C:=
 ⟨Nat.le_trans h.size k.size,fun i hi hK=>(k.block i (Nat.lt_of_lt_of_le hi h.size) hK).trans (h.block i hi hK)⟩
theorem Spares.of_below {K:Nat→Prop} {D:Nat} {A B:World} (h:Below A.heap.size A B):Spares K D A B:=⟨h.size,fun i hi _=>h.block i hi⟩
theorem Spares.mono {K K':Nat→Prop} {D D':Nat} {A B:World} (h:Spares K D A B) (hK : ∀ k,K' k→K k∨D≤k) (hD:D≤D'):Spares K' D' A B:=
 ⟨h.size,fun i hi hk=>h.block i hi (hk.elim (hK i) fun h=> .inr (Nat.le_trans hD h))⟩
theorem Spares.put {K:Nat→Prop} {D r:Nat} {A:World} (o:Obj) (hK : ¬ K r) (hr:r<D):Spares K D A (A.putObj r o):=
 ⟨by simp,fun i _ h=>World.putObj_heap_other (fun e=>by subst e; exact h.elim hK (by omega))⟩
theorem below_put {D r:Nat} {A:World} (o:Obj) (hr:D≤r):Below D A (A.putObj r o):=
 ⟨rfl,rfl,rfl,by simp,fun k hk=>World.putObj_heap_other (by omega)⟩
def Gives (P:Program) (gf:Nat) (first lb:Array Value) (K:Nat→Prop) (L:List (Array Value)) (w:World):Prop:=
 ∀ (l:Nat) (J Jx:Nat→World→Prop) (W:World),
   (∀ k,K k→k<w.heap.size∧W.heap[k]? = w.heap[k]?)→w.heap.size≤W.heap.size →
   (∀ k A B,J k A→Below W.heap.size A B→J k B)→(∀ k A B,Jx k A→Below W.heap.size A B→Jx k B) →
   (∀ k (h:k<L.length) A,W.heap.size≤A.heap.size→J k A→YieldAt Fence.wide 0 P l L[k] A fun e B=>(e = .returned (.bool true)∧J (k+1) B∧Spares K W.heap.size A B)∨(e = .returned (.bool false)∧Jx (k+1) B∧Spares K W.heap.size A B)) →
   J 0 W →
   Calls P gf (first ++ #[.func (.yield l) #[] #[]] ++ lb) W fun e B=>(∃ v,e = .returned v)∧(J L.length B ∨ ∃ k,Jx k B)
theorem Gives.later {P:Program} {gf:Nat} {first lb:Array Value} {K:Nat→Prop} {L:List (Array Value)} {w w':World} (h:Gives P gf first lb K L w) (hK : ∀ k,K k→k<w.heap.size)
 (hs:w.heap.size≤w'.heap.size) (hb : ∀ k,K k→w'.heap[k]? = w.heap[k]?):Gives P gf first lb K L w':=
 fun l J Jx W hW hz hJ hJx hY h0=>h l J Jx W (fun k hk=>⟨hK k hk,(hW k hk).2.trans (hb k hk)⟩) (Nat.le_trans hs hz) hJ hJx hY h0
theorem round_any {F:Fence} {n m:Nat} {P:Program} {l:Nat} {f:FuncId} {tmps:Array Value} {assign body:Code} {w:World} {R:Ending→World→Prop} (hd:F.depth=none)
 (h:RoundIn F n P l f tmps assign body w R):RoundIn F m P l f tmps assign body w R:=
 ⟨h.1,fun c cs _=>h.2 c cs fun d e=>by rw [hd] at e; cases e⟩
def roundQ (K:Nat→Prop) (b:Nat) (I:Nat→World→Prop) (Ix:Code→Nat→World→Prop) (k:Nat) (A:World):Exit→Act→World→Prop
 | .normal,_,B=>Spares K b A B∧I (k+1) B
 | .ret,_,B=>Spares K b A B∧Ix .ret (k+1) B
 | .exit id,_,B=>Spares K b A B∧Ix (.exit id) (k+1) B
 | .goto t,_,B=>Spares K b A B∧Ix (.goto t) (k+1) B
 | .panic _,_,_=>False
 | .outgrown,_,_=>False
theorem wpIn_rangeL {n:Nat} {P:Program} {g:Operand} {ps:Array Tmp} {assign body:Code} {Q:Exit→Act→World→Prop} {a:Act} {w:World} {gf:Nat} {first lb:Array Value} {K:Nat→Prop} {L:List (Array Value)}
 (hg:a.eval g = .func (.func gf) first lb) (eg : ∀ args w,(callFunc gf args).run P w = .ok (.enter gf args) w)
 (hseq:Gives P gf first lb K L w) (hK : ∀ k,K k→k<w.heap.size) (hps : ∀ k (_:k<L.length),L[k].size=ps.size)
 (I:Nat→World→Prop) (Ix:Code→Nat→World→Prop) (hI : ∀ k A B,I k A→Below w.heap.size A B→I k B) (hIx : ∀ c k A B,Ix c k A→Below w.heap.size A B→Ix c k B) (h0:I 0 w)
 (Ax:Nat→Act→World→Prop) (hAx : ∀ k a' A o,Ax k a' A→Ax k a' (A.putObj (w.heap.size+1) o))
 (hassign : ∀ (l k:Nat) (_:k<L.length) (A:World) (T:Act→World→Prop),w.heap.size+2≤A.heap.size→I k A→(∀ a' A',Below A.heap.size A A'→Ax k a' A'→T a' A') →
   assign.wpIn (Fence.wide.inRound l) n P (Exit.then T (fun _ _ _=>False)) { tmps:=(ps.zip L[k]).foldl (fun t (p,v)=>t.setIfInBounds p v) a.tmps,defers:=[] } A)
 (hbody : ∀ (l k:Nat) (_:k<L.length) (a':Act) (A:World),w.heap.size+2≤A.heap.size→I k A→Ax k a' A→body.wpIn (Fence.wide.inRound l) n P (roundQ K w.heap.size I Ix k A) a' A)
 (hdone : ∀ B:World,w.heap.size+2≤B.heap.size→I L.length B→B.heap[w.heap.size]? = some (.deferred (some []))→Q .normal { a with defers:= { target:= .collected w.heap.size,args := #[] } :: a.defers } B)
 (hstop : ∀ (c:Code) (k:Nat) (B:World),w.heap.size+2≤B.heap.size→Ix c k B→B.heap[w.heap.size]? = some (.deferred (some []))→c.wpIn Fence.wide n P Q { a with defers:= { target:= .collected w.heap.size,args := #[] } :: a.defers } B) :
 (Code.rangeFunc g ps assign body).wpIn Fence.wide n P Q a w:=by
 refine wpIn_rangeFunc fun fn _ => ?_
 obtain ⟨b,hb⟩ : ∃ b,w.heap.size=b:=⟨_,rfl⟩
 obtain ⟨record,hrec⟩ : ∃ record:LoopState→Option Code→Loop,record=fun st pe=> { state:=st,pending:=pe,fn,tmps:=a.tmps,params:=ps,assign,body,defers:=b } := ⟨_,rfl⟩
 obtain ⟨W,hW⟩ : ∃ W,(w.alloc (.deferred (some []))).alloc (.loop (record .ready none))=W:=⟨_,rfl⟩
 have hWl:W.heap[b+1]? = some (.loop (record .ready none)):=by
  rw [← hW, ← hb]
  have:=World.alloc_heap_new (w.alloc (.deferred (some []))) (.loop (record .ready none))
  rwa [World.size_alloc] at this
 have hWd:W.heap[b]? = some (.deferred (some [])):=by
  rw [← hW, ← hb]
  exact (Below.heap_alloc _ _ _ (by simp)).trans (World.alloc_heap_new w _)
 have hWz:W.heap.size=b+2:=by rw [← hW]; simp [hb]
 have hWb:Below b w W:=by
  rw [← hW, ← hb]
  exact ((Below.refl _ w).alloc (Nat.le_refl _) _).alloc (by simp) _
 rw [hb] at hI hIx hAx hassign hbody hdone hstop hK
 -- what lies between two rounds
 let J:Nat→World→Prop:=fun k A=>I k A∧A.heap[b+1]? = some (.loop (record .ready none))∧A.heap[b]? = some (.deferred (some []))∧b+2≤A.heap.size
 let Jx:Nat→World→Prop:=fun k A=> ∃ c,Ix c k A∧A.heap[b+1]? = some (.loop (record .done (some c)))∧A.heap[b]? = some (.deferred (some []))∧b+2≤A.heap.size
 refine ⟨b+1,[{ target:= .collected b,args := #[] }],W, { target:= .fn (.func gf) lb,args:=first ++ #[.func (.yield (b+1)) #[] #[]] },W,gf,first ++ #[.func (.yield (b+1)) #[] #[]] ++ lb,W,?_,?_,fun _ _=>trivial,?_,fun h=>by simp [Fence.wide] at h,?_⟩
 ·rw [← hW,hrec, ← hb]
  exact run_enterLoop_outer _ _ _ _ _
 ·simp only [resolve,hg]
  simp [go_sem]
 ·simp [invoke,go_sem,eg]
 refine callsIn_wide.2 ((hseq (b+1) J Jx W ?_ (by omega) ?_ ?_ ?_ ?_).mono ?_)
 ·intro k hk
  have:=hK k hk
  exact ⟨by omega,hWb.block k this⟩
 ·rintro k A B ⟨h1,h2,h3,h4⟩ hAB
  rw [hWz] at hAB
  exact ⟨hI k A B h1 (hAB.mono (by omega)),(hAB.block _ (by omega)).trans h2,(hAB.block _ (by omega)).trans h3,Nat.le_trans h4 hAB.size⟩
 ·rintro k A B ⟨c,h1,h2,h3,h4⟩ hAB
  rw [hWz] at hAB
  exact ⟨c,hIx c k A B h1 (hAB.mono (by omega)),(hAB.block _ (by omega)).trans h2,(hAB.block _ (by omega)).trans h3,Nat.le_trans h4 hAB.size⟩
 ·rintro k hk A _ ⟨h1,h2,h3,h4⟩
  have hy:=run_yield (P:=P) (args:=L[k]) h2 (by rw [hrec]; exact hps k hk)
  rw [hrec] at hy
  refine ⟨fn,_,assign,body,hy,round_any (n:=n) rfl (roundIn_of_wpIn trivial (hassign _ k hk A _ h4 h1 ?_))⟩
  intro a' A' hAA hax
  have hz':=hAA.size
  have h2':A'.heap[b+1]? = some (.loop (record .ready none)):=(hAA.block _ (by omega)).trans h2
  have h3':A'.heap[b]? = some (.deferred (some [])):=(hAA.block _ (by omega)).trans h3
  refine ⟨_,run_beginRound h2' (by rw [hrec]),?_⟩
  obtain ⟨C,hC⟩ : ∃ C,A'.putObj (b+1) (.loop { record .ready none with state:= .busy })=C:=⟨_,rfl⟩
  have hC2:C.heap[b+1]? = some (.loop { record .ready none with state:= .busy }):=by rw [← hC]; exact World.putObj_heap_same (by omega)
  have hC3:C.heap[b]? = some (.deferred (some [])):=by rw [← hC]; exact (World.putObj_heap_other (by omega)).trans h3'
  have hCz:C.heap.size=A'.heap.size:=by rw [← hC]; simp
  have hCI:I k C:=by
   rw [← hC]
   exact hI k _ _ (hI k _ _ h1 (hAA.mono (by omega))) (below_put _ (by omega))
  have hCx:Ax k a' C:=by rw [← hC]; exact hAx k a' A' _ hax
  have hKb : ¬ K (b+1):=fun h=>by have:=hK _ h; omega
  have hAC:Spares K (b+2) A C:=by
   rw [← hC]
   exact (Spares.of_below hAA).trans (Spares.put _ hKb (by omega))
  rw [hC]
  refine wpIn_mono (hbody _ k hk a' C (by omega) hCI hCx) ?_
  have fin : ∀ (jump:Option Code) (B:World),Spares K b C B →
   ∃ B',(Instr.endRound (b+1) jump).run P B = .ok (.bool jump.isNone) B'∧B'.heap[b+1]? = some (.loop (record (if jump.isNone then .ready else .done) jump))∧B'.heap[b]? = some (.deferred (some [])) ∧
     b+2≤B'.heap.size∧Below b B B'∧Spares K (b+2) A B':=fun jump B hCB=>by
   have hBz:=hCB.size
   have g2:B.heap[b+1]? = some (.loop { record .ready none with state:= .busy }):=(hCB.block _ (by omega) (.inr (by omega))).trans hC2
   have g3:B.heap[b]? = some (.deferred (some [])):=(hCB.block _ (by omega) (.inr (by omega))).trans hC3
   have hr:=run_endRound (P:=P) jump g2
   rw [hrec] at hr
   refine ⟨_,hr,?_,(World.putObj_heap_other (by omega)).trans g3,by simp; omega,below_put _ (by omega),?_⟩
   ·rw [World.putObj_heap_same (by omega),hrec]
   ·exact hAC.trans ((hCB.mono (fun k h=> .inl h) (by omega)).trans (Spares.put _ hKb (by omega)))
  intro e a3 B hp
  cases e with
  | normal=>
    obtain ⟨hs,hi⟩:=hp
    obtain ⟨B',hr,f1,f2,f3,f4,f5⟩:=fin none B hs
    exact ⟨_,_,hr, .inl ⟨rfl,⟨hI _ _ _ hi f4,f1,f2,f3⟩,by rw [hWz]; exact f5⟩⟩
  | ret=>
    obtain ⟨hs,hi⟩:=hp
    obtain ⟨B',hr,f1,f2,f3,f4,f5⟩:=fin (some .ret) B hs
    exact ⟨_,_,hr, .inr ⟨rfl,⟨.ret,hIx _ _ _ _ hi f4,f1,f2,f3⟩,by rw [hWz]; exact f5⟩⟩
  | exit id=>
    obtain ⟨hs,hi⟩:=hp
    obtain ⟨B',hr,f1,f2,f3,f4,f5⟩:=fin (some (.exit id)) B hs
    exact ⟨_,_,hr, .inr ⟨rfl,⟨.exit id,hIx _ _ _ _ hi f4,f1,f2,f3⟩,by rw [hWz]; exact f5⟩⟩
  | goto t=>
    obtain ⟨hs,hi⟩:=hp
    obtain ⟨B',hr,f1,f2,f3,f4,f5⟩:=fin (some (.goto t)) B hs
    exact ⟨_,_,hr, .inr ⟨rfl,⟨.goto t,hIx _ _ _ _ hi f4,f1,f2,f3⟩,by rw [hWz]; exact f5⟩⟩
  | panic ch=>exact hp.elim
  | outgrown=>exact hp.elim
 ·exact ⟨hI 0 _ _ h0 hWb,hWl,hWd,by omega⟩
 ·rintro e B ⟨⟨v,rfl⟩,(⟨h1,h2,h3,h4⟩ | ⟨k,c,h1,h2,h3,h4⟩)⟩
  ·refine ⟨none,_,(by have:=run_endLoop (P:=P) h2 (by rw [hrec]; simp); rw [hrec] at this; exact this),?_⟩
   have:=hdone (B.putObj (b+1) (.loop (record .exhausted none))) (by simp; omega) (hI _ _ _ h1 (below_put _ (by omega))) ((World.putObj_heap_other (by omega)).trans h3)
   simpa [hrec] using this
  ·refine ⟨some c,_,(by have:=run_endLoop (P:=P) h2 (by rw [hrec]; simp); rw [hrec] at this; exact this),?_⟩
   have:=hstop c k (B.putObj (b+1) (.loop (record .exhausted (some c)))) (by simp; omega) (hIx _ _ _ _ h1 (below_put _ (by omega))) ((World.putObj_heap_other (by omega)).trans h3)
   simpa [hrec] using this
end Go.Proofs.Ytkbbhihndigmeaa
