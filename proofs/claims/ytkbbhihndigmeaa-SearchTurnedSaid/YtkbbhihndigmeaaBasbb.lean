/- The works function of layer 3's law: the chapter's examples. Written by tools/works3.py. -/
import Derived.Shelf.Abstract
import Derived.Shelf.RegionOpen
import Derived.Conc.Own4
import Derived.Test.YtkbbhihndigmeaaBasac
import Derived.Test.YtkbbhihndigmeaaBasba
namespace Go.Proofs.Ytkbbhihndigmeaa
open Go Go.RowKit Go.Shelf
def Has (l:List (Nat × Obj)) (y:World):Prop:= ∀ p,p ∈ l→y.heap[p.1]? = some p.2
theorem has_nil (y:World):Has [] y:=fun _ h=>absurd h List.not_mem_nil
theorem Has.below {l:List (Nat × Obj)} {y y':World} (h:Has l y) (hb:Below y.heap.size y y'):Has l y':=fun p hp=>(hb.block p.1 (heap_size_lt (h p hp))).trans (h p hp)
theorem Has.cons {l:List (Nat × Obj)} {y:World} {b:Nat} {z:Obj} (h:Has l y) (hz:y.heap[b]? = some z):Has ((b,z) :: l) y:=fun p hp=>by
 rcases List.mem_cons.1 hp with rfl | hp
 ·exact hz
 ·exact h p hp
theorem Has.swap {l:List (Nat × Obj)} {y:World} {p q:Nat × Obj} (h:Has (p :: q :: l) y):Has (q :: p :: l) y:=fun r hr=>h r (by
 simp only [List.mem_cons] at hr ⊢
 rcases hr with h1 | h1 | h1
 ·exact .inr (.inl h1)
 ·exact .inl h1
 ·exact .inr (.inr h1))
theorem stable_has (W:World) (l:List (Nat × Obj)):Stable fun y=>Below W.heap.size W y∧Has l y:=fun _ _ h hb=>⟨h.1.trans (hb.mono h.1.size),h.2.below hb⟩
theorem ints_has {y:World} {d:Nat} (l:List Int) {T:TypeId} (h:y.heap[d]? = some (.cells ((l.map (Value.int .i64)).toArray) T (0,0))):Ints y (some ⟨d,0,none⟩) l.length (ltN l):=
 .inr ⟨d,0,rfl,heap_size_lt h,fun i hi=>by
  have hr:RowIs y d ((l.map (Value.int .i64)).toArray) T:=h
  rw [Nat.zero_add,hr.cell i]
  simp [ltN,List.getD_eq_getElem?_getD,List.getElem?_eq_getElem hi]⟩
theorem tup_inj {a b:Value} {x y:Value} (h:Value.tuple #[a,x] = .tuple #[b,y]):a=b:=by
 injection h with h
 injection h with h
 injection h with h _
theorem quiet_call {P:Program} {ops:Array Oper} {C:World→Prop} {o:Oper} {v:Value} {a:Act} {fn:FuncId} {args:Array Value} (hw:Region.wanted o (yielded ops a.tmps)=true) (hrun : ∀ w,C w→(execOp a.eval o).run P w = .ok (.enter fn args) w)
 (hc : ∀ w,C w→Calls P fn args w fun e w'=>e = .returned v∧Below w.heap.size w w'):QuietIn P ops C o v a:= .inl ⟨hw,fun w h=>by rw [hrun w h]; exact ⟨rfl,hc w h⟩⟩
theorem at_makeG {P:Program} {ops:Array Oper} {md:Region.Mode} {Q:Exit→Act→World→Prop} {C:World→Prop} {w0:World} {f i t:Nat} {o:Oper} {z:Obj} {done:Array Bool} {a:Act} {F:World→Prop} (va:Nat→Value) (X:Nat→Prop) (inj : ∀ b c,va b=va c→b=c) (ho:ops[i]? = some o) (hw:Region.wanted o (yielded ops a.tmps)=true) (hd:o.dst=some t)
 (hal : ∀ w,F w→(execOp a.eval o).run P w = .ok (.value (va w.heap.size)) (w.alloc z)) (hF : ∀ w,F w→w0.heap.size≤w.heap.size) (hX : ∀ w,F w → ∀ k,X k→k<w.heap.size)
 (h : ∀ b,w0.heap.size≤b → ¬ X b→Run P md ops Q C f (done.setIfInBounds i true) (a.put (some t) (va b)) (fun w=>F w∧w.heap[b]? = some z)):RunAt P md ops Q C f done a F i:=by
 refine ⟨o,ho, .inr (.inl ⟨fun v w=> ∃ b,v=va b∧(w0.heap.size≤b ∧ ¬ X b)∧w.heap[b]? = some z,⟨hw,fun v w w' h hb => ?_,fun w hw=>⟨_,_,hal w hw,(Below.refl _ w).alloc (Nat.le_refl _) z,w.heap.size,rfl,⟨hF w hw,fun hx=>Nat.lt_irrefl _ (hX w hw _ hx)⟩,World.alloc_heap_new w z⟩⟩,fun v hv => ?_⟩)⟩
 ·obtain ⟨b,e,h1,h2⟩:=h
  exact ⟨b,e,h1,(hb.block b (heap_size_lt h2)).trans h2⟩
 obtain ⟨_,b,rfl,⟨hb0,hbX⟩,_⟩:=hv
 rw [hd]
 refine run_mono _ _ _ _ _ ?_ (h b hb0 hbX)
 rintro w ⟨h1,b',e1,_,h2⟩
 have eb:=inj _ _ e1
 subst eb
 exact ⟨h1,h2⟩
theorem atX_make {P:Program} {ops:Array Oper} {md:Region.Mode} {Q:Exit→Act→World→Prop} {C:World→Prop} {w0:World} {x c tx:Nat} {zx:Obj} {g f i t:Nat} {o:Oper} {z:Obj} {done:Array Bool} {a:Act} {F:World→Prop} (va:Nat→Value) (inj : ∀ b c,va b=va c→b=c) (ho:ops[i]? = some o) (hg:o.guard=none) (hd:o.dst=some t) (hF:Stable F) (hC : ∀ w,F w→C w)
 (hal : ∀ w,F w→(execOp a.eval o).run P w = .ok (.value (va w.heap.size)) (w.alloc z))
 (h : ∀ d,RunX P md ops Q C w0 x c tx zx g f (done.setIfInBounds i true) (a.put (some t) (va d)) (fun w=>F w∧w.heap[d]? = some z) fun _=>False):RunXAt P md ops Q C w0 x c tx zx g f done a F (fun _=>False) i:=by
 refine atX_upd (fun v w=> ∃ d,v=va d∧F w∧w.heap[d]? = some z) (fun _ _=>False) ho hg (fun v w w' ⟨d,e,h1,h2⟩ hb=>⟨d,e,hF w w' h1 hb,(hb.block d (heap_size_lt h2)).trans h2⟩) (fun v w ⟨_,_,h1,_⟩=>hC w h1) (fun _ _ _ _ h=>h.elim) (fun w hw => ?_) (fun v hv => ?_)
 ·have hb:=(Below.refl w.heap.size w).alloc (Nat.le_refl _) z
  refine ⟨_,_,hal w hw,⟨w.heap.size,rfl,hF _ _ hw hb,World.alloc_heap_new w z⟩,fun b u _ hu=>(hb.block b (heap_size_lt hu)).trans hu,fun _ h=>h.elim⟩
 obtain ⟨_,d,rfl,_⟩:=hv
 rw [hd]
 refine runX_mono _ _ _ _ _ _ _ ?_ (fun _ h=>h) (fun _ h=>h) (h d)
 rintro w ⟨d',e1,h1,h2⟩
 have eb:=inj _ _ e1
 subst eb
 exact ⟨h1,h2⟩
theorem cutG {p:Prop} {G:Nat→Nat→Prop} (main:(∀ d e,G d e)→p) (fin : ∀ d e,G d e):p:=main fin
theorem run_gen {P:Program} {ops:Array Oper} {md:Region.Mode} {Q:Exit→Act→World→Prop} {C:World→Prop} {n:Nat} {done:Array Bool} {a:Act} {F:World→Prop} (h : ∀ A:Act,A=a→Run P md ops Q C n done A F):Run P md ops Q C n done a F:=h a rfl
theorem sz_put {a:Act} {d:Option Tmp} {v:Value} : (a.put d v).tmps.size=a.tmps.size:=by
 cases d <;> simp [Act.put]
theorem ev_same {a:Act} {t:Nat} {v:Value} (h:t<a.tmps.size):(a.put (some t) v).eval (.tmp t)=v:=by
 simp [Act.put,Act.eval,h]
theorem ev_o {A B:Act} {t s:Nat} {v u:Value} (h:B=A.put (some t) v) (hn:(t==s)=false) (e:A.eval (.tmp s)=u):B.eval (.tmp s)=u:=by
 subst h
 rw [← e]
 have:t ≠ s:=by simpa using hn
 simp [Act.put,Act.eval,this]
theorem df_o {A B:Act} {t:Nat} {v:Value} (h:B=A.put (some t) v) (e:A.defers=[]):B.defers=[]:=by
 subst h
 exact e
theorem tmp_some {A:Act} {t n:Nat} {v:Value} (hs:A.tmps.size=n) (h:A.eval (.tmp t)=v) (ht:t<n):A.tmps[t]? = some v:=by
 subst hs
 subst h
 simp [Act.eval,ht]
theorem wanted_none {o:Oper} {y:Nat→Option Bool} (hg:o.guard=none):Region.wanted o y=true:=by simp [Region.wanted,hg]
theorem wanted_yes {o:Oper} {ops:Array Oper} {A:Act} {j t:Nat} (hg:o.guard=some (j,true)) (hj:(ops[j]?).bind (·.dst)=some t) (hs:t<A.tmps.size) (he:A.eval (.tmp t) = .bool true):Region.wanted o (yielded ops A.tmps)=true:=by
 have h1:=tmp_some rfl he hs
 simp [Region.wanted,hg,yielded,hj,h1]
section
variable {ev:Operand→Value} {o:Oper}
theorem x_move {P:Program} {x:Operand} {v:Value} (ho:o.op = .move x) (h:ev x=v) (w:World):(execOp ev o).run P w = .ok (.value v) w:=by
 unfold execOp
 simp [ho,h]
theorem x_assign {P:Program} {x:Operand} {v:Value} (ho:o.op = .assign x) (h:ev x=v) (w:World):(execOp ev o).run P w = .ok (.value v) w:=by
 unfold execOp
 simp [ho,h]
theorem x_pick {P:Program} {x y z:Operand} {v:Value} (ho:o.op = .pick x y z) (hx:ev x = .bool true) (h:ev y=v) (w:World):(execOp ev o).run P w = .ok (.value v) w:=by
 unfold execOp
 simp [ho,hx,h,asBool]
theorem x_load {x:Operand} {b:Nat} {u v:Value} (ho:o.op = .load 30 x) (hx:ev x = .pointer (some ⟨b,0,none⟩)) (y:World) (q0:y.cell? ⟨b,0,none⟩=some u) (q1:y.cell? ⟨b,1,none⟩=some v) (_:b<y.heap.size):(execOp ev o).run Try.prog y = .ok (.value (.agg #[u,v])) y:=by
 unfold execOp
 simp only [ho,hx]
 go_simp
theorem x_eqR {x z:Operand} (a b:Int) (ho:o.op = .binOp .eql 30 x z 30) (hx:ev x = .agg #[.int .i64 a, .int .i64 b]) (hz:ev z = .agg #[.int .i64 a, .int .i64 b]) (y:World):(execOp ev o).run Try.prog y = .ok (.value (.bool true)) y:=by
 have eqq:(Op.equalIn 10000 30 (.agg #[.int .i64 a, .int .i64 b]) (.agg #[.int .i64 a, .int .i64 b])).run Try.prog y = .ok true y:=(eqRat a b a b y).trans (by simp)
 unfold execOp
 simp only [ho,hx,hz]
 go_simp
theorem x_eqE {x z:Operand} (ho:o.op = .binOp .eql 31 x z 31) (hx:ev x = .int .i64 0) (hz:ev z = .int .i64 0) (y:World):(execOp ev o).run Try.prog y = .ok (.value (.bool true)) y:=by
 unfold execOp
 simp only [ho,hx,hz]
 go_simp
theorem x_eqI {x z:Operand} (ho:o.op = .binOp .eql 3 x z 3) (hx:ev x = .int .i64 0) (hz:ev z = .int .i64 0) (y:World):(execOp ev o).run Try.prog y = .ok (.value (.bool true)) y:=by
 unfold execOp
 simp only [ho,hx,hz]
 go_simp
end
theorem cutB1 {p:Prop} (H:Nat→Nat→World→Prop) {Q2:Nat→Nat→World→Prop} (main:(∀ b d y,H b d y→Q2 b d y)→p) (fin : ∀ b d y,H b d y→Q2 b d y):p:=main fin
theorem cutB2 {p:Prop} (H:Nat→Nat→Nat→World→Prop) {Q2:Nat→Nat→Nat→World→Prop} (main:(∀ b d e y,H b d e y→Q2 b d e y)→p) (fin : ∀ b d e y,H b d e y→Q2 b d e y):p:=main fin
set_option maxRecDepth 100000 in
set_option maxHeartbeats 64000000 in
theorem works_c (w:World):Calls Try.prog 18 #[] w fun e w'=>e = .returned (.bool true)∧Below w.heap.size w w':=by
 go_enter Try.func18,Try.ntmps18
 go_wp2_with fail
 refine (mixed_c _).mono ?_
 rintro e w1 ⟨⟨p1,c1,x1,rfl,hT1⟩,hb1⟩
 have H1:=Lib.hid hT1
 have B1:=Lib.hid hb1
 clear hT1 hb1
 go_wp2_with fail
 refine (pure_c _).mono ?_
 rintro e w2 ⟨⟨p2,c2,x2,rfl,hT2⟩,hb2⟩
 replace H1:=Lib.hid (H1.out.below hb2)
 have H2:=Lib.hid hT2
 replace B1:=Lib.hid (bup B1.out hb2)
 clear hT2 hb2
 go_wp2_with fail
 refine (round_c _).mono ?_
 rintro e w3 ⟨⟨p3,c3,x3,rfl,hT3⟩,hb3⟩
 replace H1:=Lib.hid (H1.out.below hb3)
 replace H2:=Lib.hid (H2.out.below hb3)
 have H3:=Lib.hid hT3
 replace B1:=Lib.hid (bup B1.out hb3)
 clear hT3 hb3
 obtain ⟨Y0,hY0⟩ : ∃ Y,((w3.alloc (.cells #[.slice p1 2 c1] 24)).alloc (.cells #[.slice p2 2 c2] 24)).alloc (.cells #[.slice p3 3 c3] 24)=Y:=⟨_,rfl⟩
 have hb0:Below w3.heap.size w3 Y0:=by rw [← hY0]; exact Below.alloc1 (Below.alloc1 (Below.alloc1 (Below.refl _ _) _ (Nat.le_refl _)) _ (Nat.le_refl _)) _ (Nat.le_refl _)
 have R1:=Lib.hid (show RowIs Y0 w3.heap.size #[.slice p1 2 c1] 24 by rw [← hY0]; exact RowIs.alloc (RowIs.alloc (heap_new_at _ _ _ rfl) _) _)
 have R2:=Lib.hid (show RowIs Y0 (w3.heap.size+1) #[.slice p2 2 c2] 24 by rw [← hY0]; exact RowIs.alloc (heap_new_at _ _ _ (by simp)) _)
 have R3:=Lib.hid (show RowIs Y0 (w3.heap.size+1+1) #[.slice p3 3 c3] 24 by rw [← hY0]; exact heap_new_at _ _ _ (by simp))
 replace H1:=Lib.hid (H1.out.below hb0)
 replace H2:=Lib.hid (H2.out.below hb0)
 replace H3:=Lib.hid (H3.out.below hb0)
 replace B1:=Lib.hid (bup B1.out hb0)
 clear hb0
 have cc1:Y0.cell? ⟨w3.heap.size,0,none⟩=some (.slice p1 2 c1):=RowIs.cell R1.out 0
 have zz2:w3.heap.size<Y0.heap.size:=RowIs.lt R1.out
 go_wp2_with fail
 apply cutB1 (fun b d1 y=>Y0.heap.size≤b∧Below Y0.heap.size Y0 y∧RowIs y b #[.int .i64 1, .int .i64 1] 30)
 case main=>
  intro fin
  have hF3 : ∀ y,Below Y0.heap.size Y0 y→Below Y0.heap.size Y0 y∧y.cell? ⟨w3.heap.size,0,none⟩=some (.slice p1 2 c1):=fun y hy=>⟨hy,RowIs.cell (R1.out.below hy) 0⟩
  refine wp_region_runF (C:=fun y=>Below Y0.heap.size Y0 y∧y.cell? ⟨w3.heap.size,0,none⟩=some (.slice p1 2 c1)) (fun y=>Below Y0.heap.size Y0 y∧Has [] y) (by kernel_rfl) (stable_has Y0 []) ⟨Below.refl _ _,has_nil _⟩ ?_
  change Run _ _ _ _ _ 10 _ _ _
  refine run_take (i:=0) (tabV p1 2 c1) rfl (by kernel_rfl) (by kernel_rfl) (by kernel_rfl) rfl (fun y h=>hF3 y h.1) (fun y hy=>by obtain ⟨-,q0⟩:=hy; go_simp) ?_
  simp only [puts]
  refine runX_float (x:=7) (c:=5) (tx:=4) (z:= .cells #[.int .i64 0, .int .i64 0] 30 (0,0)) (w0:=Y0) (g:=4) rfl rfl rfl (fun a y=>by go_simp) (Region.noSelect_spec (by kernel_rfl)) (by kernel_rfl) (by kernel_rfl) (by decide) (fun y h=>h.1.size) 4 _ _ _ (fun _=>False) (by kernel_rfl) (fun y h=>hF3 y h.1) (fun _ _ _ h=>h.elim) ?_
  refine runX_each [1] (by kernel_rfl) (by kernel_rfl) (by kernel_rfl) (by decide) ?_
  intro i hi
  simp only [List.mem_cons,List.not_mem_nil,or_false] at hi
  subst hi
  refine atX_make (t:=47) (z:= .cells #[.int .i64 3, .int .i64 2] 2 (0,0)) (fun k=> .slice (some ⟨k,0,none⟩) 2 2) (fun _ _ h=>(sl_inj h).1) rfl rfl rfl (stable_has Y0 _) (fun y h=>hF3 y h.1) (fun y _=>by go_simp) ?_
  intro d1
  simp only [Act.put,List.setIfInBounds_toArray,List.set_cons_zero,List.set_cons_succ]
  refine runX_mono _ _ _ (fun y=>Below Y0.heap.size Y0 y∧Has ((d1, .cells #[.int .i64 3, .int .i64 2] 2 (0,0)) :: []) y) _ _ _ ?_ (fun _ h=>h) (fun _ h=>h) ?_
  ·rintro y ⟨⟨h1,h2⟩,h3⟩
   exact ⟨h1,h2.cons h3⟩
  refine runX_each [2] (by kernel_rfl) (by kernel_rfl) (by kernel_rfl) (by decide) ?_
  intro i hi
  simp only [List.mem_cons,List.not_mem_nil,or_false] at hi
  subst hi
  refine atX_quiet (.slice (some ⟨d1,0,none⟩) 2 2) rfl (quiet_call (args := #[.slice (some ⟨d1,0,none⟩) 2 2]) (by rfl) (fun y hy=>(Go.Conc.run_call_body (fn:=Try.f56) rfl Try.func56 (by kernel_rfl) (by kernel_rfl)).trans (by simp [Act.eval])) (fun y hy=>(longs_c _ _ _ y).mono (by rintro e y1 ⟨rfl,rfl⟩; exact ⟨rfl,Below.refl _ _⟩))) ?_
  simp only [puts]
  refine runX_each [3] (by kernel_rfl) (by kernel_rfl) (by kernel_rfl) (by decide) ?_
  intro i hi
  simp only [List.mem_cons,List.not_mem_nil,or_false] at hi
  subst hi
  refine atX_quiet (re2 (1,1,0)) rfl (quiet_call (fn:=19) (args := #[tabV p1 2 c1, .slice (some ⟨d1,0,none⟩) 2 2]) (by rfl) (fun y hy=>(Go.Conc.run_call_body (fn:=Try.f19) rfl Try.func19 (by kernel_rfl) (by kernel_rfl)).trans (by simp [Act.eval])) (fun y hy => ?_)) ?_
  ·obtain ⟨g1,g2⟩:=hy
   have hi0:Ints y (some ⟨d1,0,none⟩) 2 (ltN [3,2]):=ints_has [3,2] (g2 (d1, .cells #[.int .i64 3, .int .i64 2] 2 (0,0)) (by simp))
   have hc:=Sure_c p1 2 c1 (mixedF x1) (some ⟨d1,0,none⟩) 2 2 (ltN [3,2]) y (H1.out.below g1) (by decide) (fun _ _=>(show (2:Nat)≤1048576 by decide)) hi0 (by decide); rw [mixed_sure1 x1] at hc
   exact hc
  simp only [puts]
  refine runX_each [4] (by kernel_rfl) (by kernel_rfl) (by kernel_rfl) (by decide) ?_
  intro i hi
  simp only [List.mem_cons,List.not_mem_nil,or_false] at hi
  subst hi
  refine atX_quiet (re2 (1,1,0)) rfl (quiet_yes _ (by rfl) (fun y hy=>by go_simp)) ?_
  simp only [puts]
  refine ⟨?_,fun b hb0 _ => ?_⟩
  ·skip
   refine run_take (i:=5) (.agg #[.int .i64 1, .int .i64 1]) rfl (by kernel_rfl) (by kernel_rfl) (by kernel_rfl) rfl (fun y h=>hF3 y h.1) (fun y hy=>by go_simp) ?_
   simp only [puts]
   refine run_take (i:=6) (.int .i64 0) rfl (by kernel_rfl) (by kernel_rfl) (by kernel_rfl) rfl (fun y h=>hF3 y h.1) (fun y hy=>by go_simp) ?_
   simp only [puts]
   refine run_only (i:=7) (by kernel_rfl) (at_make (w0:=Y0) (t:=4) (z:= .cells #[.int .i64 0, .int .i64 0] 30 (0,0)) ptrTo (fun _=>False) ptrTo_inj rfl rfl rfl (fun y _=>by go_simp) (fun y h=>h.1.size) (fun _ _ _ h=>h.elim) ?_)
   intro b hb0 _
   simp only [Act.put,List.setIfInBounds_toArray,List.set_cons_zero,List.set_cons_succ]
   refine run_store (i:=8) (fun y=>Below Y0.heap.size Y0 y∧RowIs y b #[.int .i64 1, .int .i64 1] 30) (by kernel_rfl) rfl rfl (fun y y1 h hb=>⟨h.1.trans (hb.mono h.1.size),h.2.below hb⟩) (fun y h=>hF3 y h.1) (fun y hy => ?_) ?_
   ·obtain ⟨⟨g1, -⟩,g2⟩:=hy
    have r4:RowIs y b #[.int .i64 0, .int .i64 0] 30:=g2
    have q0:=r4.cell 0
    have q1:=r4.cell 1
    have z0:=r4.frozen 0
    have z1:=r4.frozen 1
    have qz:=r4.lt
    simp at q0 q1
    exact ⟨(y.setCell ⟨b,0,none⟩ (.int .i64 1)).setCell ⟨b,1,none⟩ (.int .i64 1),by go_simp,(g1.setCell (p:=⟨b,0,none⟩) hb0 _).setCell (p:=⟨b,1,none⟩) hb0 _,(r4.set 0 (.int .i64 1)).set 1 (.int .i64 1)⟩
   simp only [puts]
   refine run_quiet (i:=9) (.int .i64 0) (by kernel_rfl) rfl rfl (fun y hy=>by go_simp) ?_
   simp only [puts]
   refine ⟨by kernel_rfl,fun y hy => ?_⟩
   exact fin b d1 y ⟨hb0,hy.1,hy.2⟩
  ·skip
   refine run_take (i:=5) (.agg #[.int .i64 1, .int .i64 1]) rfl (by kernel_rfl) (by kernel_rfl) (by kernel_rfl) rfl (fun y h=>hF3 y h.1.1) (fun y hy=>by go_simp) ?_
   simp only [puts]
   refine run_take (i:=6) (.int .i64 0) rfl (by kernel_rfl) (by kernel_rfl) (by kernel_rfl) rfl (fun y h=>hF3 y h.1.1) (fun y hy=>by go_simp) ?_
   simp only [puts]
   refine run_store (i:=8) (fun y=>Below Y0.heap.size Y0 y∧RowIs y b #[.int .i64 1, .int .i64 1] 30) (by kernel_rfl) rfl rfl (fun y y1 h hb=>⟨h.1.trans (hb.mono h.1.size),h.2.below hb⟩) (fun y h=>hF3 y h.1) (fun y hy => ?_) ?_
   ·obtain ⟨⟨g1, -⟩,g2⟩:=hy
    have r4:RowIs y b #[.int .i64 0, .int .i64 0] 30:=g2
    have q0:=r4.cell 0
    have q1:=r4.cell 1
    have z0:=r4.frozen 0
    have z1:=r4.frozen 1
    have qz:=r4.lt
    simp at q0 q1
    exact ⟨(y.setCell ⟨b,0,none⟩ (.int .i64 1)).setCell ⟨b,1,none⟩ (.int .i64 1),by go_simp,(g1.setCell (p:=⟨b,0,none⟩) hb0 _).setCell (p:=⟨b,1,none⟩) hb0 _,(r4.set 0 (.int .i64 1)).set 1 (.int .i64 1)⟩
   simp only [puts]
   refine run_quiet (i:=9) (.int .i64 0) (by kernel_rfl) rfl rfl (fun y hy=>by go_simp) ?_
   simp only [puts]
   refine ⟨by kernel_rfl,fun y hy => ?_⟩
   exact fin b d1 y ⟨hb0,hy.1,hy.2⟩
 clear hY0 cc1 zz2
 rintro b4 d6 y5 ⟨hbb,hby,hrow⟩
 replace H1:=Lib.hid (H1.out.below hby)
 replace H2:=Lib.hid (H2.out.below hby)
 replace H3:=Lib.hid (H3.out.below hby)
 replace R1:=Lib.hid (RowIs.below R1.out hby)
 replace R2:=Lib.hid (RowIs.below R2.out hby)
 replace R3:=Lib.hid (RowIs.below R3.out hby)
 replace B1:=Lib.hid (bup B1.out hby)
 have Q4:=Lib.hid hrow
 clear hbb hby hrow
 have cc7:y5.cell? ⟨w3.heap.size,0,none⟩=some (.slice p1 2 c1):=RowIs.cell R1.out 0
 have zz8:w3.heap.size<y5.heap.size:=RowIs.lt R1.out
 go_wp2_with fail
 apply cutB1 (fun b d1 y=>y5.heap.size≤b∧Below y5.heap.size y5 y∧RowIs y b #[.int .i64 0, .int .i64 0] 30)
 case main=>
  intro fin
  have hF9 : ∀ y,Below y5.heap.size y5 y→Below y5.heap.size y5 y∧y.cell? ⟨w3.heap.size,0,none⟩=some (.slice p1 2 c1):=fun y hy=>⟨hy,RowIs.cell (R1.out.below hy) 0⟩
  refine wp_region_runF (C:=fun y=>Below y5.heap.size y5 y∧y.cell? ⟨w3.heap.size,0,none⟩=some (.slice p1 2 c1)) (fun y=>Below y5.heap.size y5 y∧Has [] y) (by kernel_rfl) (stable_has y5 []) ⟨Below.refl _ _,has_nil _⟩ ?_
  change Run _ _ _ _ _ 10 _ _ _
  refine run_take (i:=0) (tabV p1 2 c1) rfl (by kernel_rfl) (by kernel_rfl) (by kernel_rfl) rfl (fun y h=>hF9 y h.1) (fun y hy=>by obtain ⟨-,q0⟩:=hy; go_simp) ?_
  simp only [puts]
  refine runX_float (x:=7) (c:=5) (tx:=6) (z:= .cells #[.int .i64 0, .int .i64 0] 30 (0,0)) (w0:=y5) (g:=4) rfl rfl rfl (fun a y=>by go_simp) (Region.noSelect_spec (by kernel_rfl)) (by kernel_rfl) (by kernel_rfl) (by decide) (fun y h=>h.1.size) 4 _ _ _ (fun _=>False) (by kernel_rfl) (fun y h=>hF9 y h.1) (fun _ _ _ h=>h.elim) ?_
  refine runX_each [1] (by kernel_rfl) (by kernel_rfl) (by kernel_rfl) (by decide) ?_
  intro i hi
  simp only [List.mem_cons,List.not_mem_nil,or_false] at hi
  subst hi
  refine atX_make (t:=54) (z:= .cells #[.int .i64 0, .int .i64 0] 2 (0,0)) (fun k=> .slice (some ⟨k,0,none⟩) 2 2) (fun _ _ h=>(sl_inj h).1) rfl rfl rfl (stable_has y5 _) (fun y h=>hF9 y h.1) (fun y _=>by go_simp) ?_
  intro d1
  simp only [Act.put,List.setIfInBounds_toArray,List.set_cons_zero,List.set_cons_succ]
  refine runX_mono _ _ _ (fun y=>Below y5.heap.size y5 y∧Has ((d1, .cells #[.int .i64 0, .int .i64 0] 2 (0,0)) :: []) y) _ _ _ ?_ (fun _ h=>h) (fun _ h=>h) ?_
  ·rintro y ⟨⟨h1,h2⟩,h3⟩
   exact ⟨h1,h2.cons h3⟩
  refine runX_each [2] (by kernel_rfl) (by kernel_rfl) (by kernel_rfl) (by decide) ?_
  intro i hi
  simp only [List.mem_cons,List.not_mem_nil,or_false] at hi
  subst hi
  refine atX_quiet (.slice (some ⟨d1,0,none⟩) 2 2) rfl (quiet_call (args := #[.slice (some ⟨d1,0,none⟩) 2 2]) (by rfl) (fun y hy=>(Go.Conc.run_call_body (fn:=Try.f56) rfl Try.func56 (by kernel_rfl) (by kernel_rfl)).trans (by simp [Act.eval])) (fun y hy=>(longs_c _ _ _ y).mono (by rintro e y1 ⟨rfl,rfl⟩; exact ⟨rfl,Below.refl _ _⟩))) ?_
  simp only [puts]
  refine runX_each [3] (by kernel_rfl) (by kernel_rfl) (by kernel_rfl) (by decide) ?_
  intro i hi
  simp only [List.mem_cons,List.not_mem_nil,or_false] at hi
  subst hi
  refine atX_quiet (re2 (0,0,2)) rfl (quiet_call (fn:=19) (args := #[tabV p1 2 c1, .slice (some ⟨d1,0,none⟩) 2 2]) (by rfl) (fun y hy=>(Go.Conc.run_call_body (fn:=Try.f19) rfl Try.func19 (by kernel_rfl) (by kernel_rfl)).trans (by simp [Act.eval])) (fun y hy => ?_)) ?_
  ·obtain ⟨g1,g2⟩:=hy
   have hi0:Ints y (some ⟨d1,0,none⟩) 2 (ltN [0,0]):=ints_has [0,0] (g2 (d1, .cells #[.int .i64 0, .int .i64 0] 2 (0,0)) (by simp))
   have hc:=Sure_c p1 2 c1 (mixedF x1) (some ⟨d1,0,none⟩) 2 2 (ltN [0,0]) y (H1.out.below g1) (by decide) (fun _ _=>(show (2:Nat)≤1048576 by decide)) hi0 (by decide); rw [mixed_sure2 x1] at hc
   exact hc
  simp only [puts]
  refine runX_each [4] (by kernel_rfl) (by kernel_rfl) (by kernel_rfl) (by decide) ?_
  intro i hi
  simp only [List.mem_cons,List.not_mem_nil,or_false] at hi
  subst hi
  refine atX_quiet (re2 (0,0,2)) rfl (quiet_yes _ (by rfl) (fun y hy=>by go_simp)) ?_
  simp only [puts]
  refine ⟨?_,fun b hb0 _ => ?_⟩
  ·skip
   refine run_take (i:=5) (.agg #[.int .i64 0, .int .i64 0]) rfl (by kernel_rfl) (by kernel_rfl) (by kernel_rfl) rfl (fun y h=>hF9 y h.1) (fun y hy=>by go_simp) ?_
   simp only [puts]
   refine run_take (i:=6) (.int .i64 2) rfl (by kernel_rfl) (by kernel_rfl) (by kernel_rfl) rfl (fun y h=>hF9 y h.1) (fun y hy=>by go_simp) ?_
   simp only [puts]
   refine run_only (i:=7) (by kernel_rfl) (at_make (w0:=y5) (t:=6) (z:= .cells #[.int .i64 0, .int .i64 0] 30 (0,0)) ptrTo (fun _=>False) ptrTo_inj rfl rfl rfl (fun y _=>by go_simp) (fun y h=>h.1.size) (fun _ _ _ h=>h.elim) ?_)
   intro b hb0 _
   simp only [Act.put,List.setIfInBounds_toArray,List.set_cons_zero,List.set_cons_succ]
   refine run_store (i:=8) (fun y=>Below y5.heap.size y5 y∧RowIs y b #[.int .i64 0, .int .i64 0] 30) (by kernel_rfl) rfl rfl (fun y y1 h hb=>⟨h.1.trans (hb.mono h.1.size),h.2.below hb⟩) (fun y h=>hF9 y h.1) (fun y hy => ?_) ?_
   ·obtain ⟨⟨g1, -⟩,g2⟩:=hy
    have r4:RowIs y b #[.int .i64 0, .int .i64 0] 30:=g2
    have q0:=r4.cell 0
    have q1:=r4.cell 1
    have z0:=r4.frozen 0
    have z1:=r4.frozen 1
    have qz:=r4.lt
    simp at q0 q1
    exact ⟨(y.setCell ⟨b,0,none⟩ (.int .i64 0)).setCell ⟨b,1,none⟩ (.int .i64 0),by go_simp,(g1.setCell (p:=⟨b,0,none⟩) hb0 _).setCell (p:=⟨b,1,none⟩) hb0 _,(r4.set 0 (.int .i64 0)).set 1 (.int .i64 0)⟩
   simp only [puts]
   refine run_quiet (i:=9) (.int .i64 2) (by kernel_rfl) rfl rfl (fun y hy=>by go_simp) ?_
   simp only [puts]
   refine ⟨by kernel_rfl,fun y hy => ?_⟩
   exact fin b d1 y ⟨hb0,hy.1,hy.2⟩
  ·skip
   refine run_take (i:=5) (.agg #[.int .i64 0, .int .i64 0]) rfl (by kernel_rfl) (by kernel_rfl) (by kernel_rfl) rfl (fun y h=>hF9 y h.1.1) (fun y hy=>by go_simp) ?_
   simp only [puts]
   refine run_take (i:=6) (.int .i64 2) rfl (by kernel_rfl) (by kernel_rfl) (by kernel_rfl) rfl (fun y h=>hF9 y h.1.1) (fun y hy=>by go_simp) ?_
   simp only [puts]
   refine run_store (i:=8) (fun y=>Below y5.heap.size y5 y∧RowIs y b #[.int .i64 0, .int .i64 0] 30) (by kernel_rfl) rfl rfl (fun y y1 h hb=>⟨h.1.trans (hb.mono h.1.size),h.2.below hb⟩) (fun y h=>hF9 y h.1) (fun y hy => ?_) ?_
   ·obtain ⟨⟨g1, -⟩,g2⟩:=hy
    have r4:RowIs y b #[.int .i64 0, .int .i64 0] 30:=g2
    have q0:=r4.cell 0
    have q1:=r4.cell 1
    have z0:=r4.frozen 0
    have z1:=r4.frozen 1
    have qz:=r4.lt
    simp at q0 q1
    exact ⟨(y.setCell ⟨b,0,none⟩ (.int .i64 0)).setCell ⟨b,1,none⟩ (.int .i64 0),by go_simp,(g1.setCell (p:=⟨b,0,none⟩) hb0 _).setCell (p:=⟨b,1,none⟩) hb0 _,(r4.set 0 (.int .i64 0)).set 1 (.int .i64 0)⟩
   simp only [puts]
   refine run_quiet (i:=9) (.int .i64 2) (by kernel_rfl) rfl rfl (fun y hy=>by go_simp) ?_
   simp only [puts]
   refine ⟨by kernel_rfl,fun y hy => ?_⟩
   exact fin b d1 y ⟨hb0,hy.1,hy.2⟩
 clear cc7 zz8
 rintro b10 d12 y11 ⟨hbb,hby,hrow⟩
 replace H1:=Lib.hid (H1.out.below hby)
 replace H2:=Lib.hid (H2.out.below hby)
 replace H3:=Lib.hid (H3.out.below hby)
 replace R1:=Lib.hid (RowIs.below R1.out hby)
 replace R2:=Lib.hid (RowIs.below R2.out hby)
 replace R3:=Lib.hid (RowIs.below R3.out hby)
 replace Q4:=Lib.hid (RowIs.below Q4.out hby)
 replace B1:=Lib.hid (bup B1.out hby)
 have Q6:=Lib.hid hrow
 clear hbb hby hrow
 have cc13:y11.cell? ⟨w3.heap.size,0,none⟩=some (.slice p1 2 c1):=RowIs.cell R1.out 0
 have zz14:w3.heap.size<y11.heap.size:=RowIs.lt R1.out
 go_wp2_with fail
 apply cutB1 (fun b d1 y=>y11.heap.size≤b∧Below y11.heap.size y11 y∧RowIs y b #[.int .i64 0, .int .i64 0] 30)
 case main=>
  intro fin
  have hF15 : ∀ y,Below y11.heap.size y11 y→Below y11.heap.size y11 y∧y.cell? ⟨w3.heap.size,0,none⟩=some (.slice p1 2 c1):=fun y hy=>⟨hy,RowIs.cell (R1.out.below hy) 0⟩
  refine wp_region_runF (C:=fun y=>Below y11.heap.size y11 y∧y.cell? ⟨w3.heap.size,0,none⟩=some (.slice p1 2 c1)) (fun y=>Below y11.heap.size y11 y∧Has [] y) (by kernel_rfl) (stable_has y11 []) ⟨Below.refl _ _,has_nil _⟩ ?_
  change Run _ _ _ _ _ 10 _ _ _
  refine run_take (i:=0) (tabV p1 2 c1) rfl (by kernel_rfl) (by kernel_rfl) (by kernel_rfl) rfl (fun y h=>hF15 y h.1) (fun y hy=>by obtain ⟨-,q0⟩:=hy; go_simp) ?_
  simp only [puts]
  refine runX_float (x:=7) (c:=5) (tx:=8) (z:= .cells #[.int .i64 0, .int .i64 0] 30 (0,0)) (w0:=y11) (g:=4) rfl rfl rfl (fun a y=>by go_simp) (Region.noSelect_spec (by kernel_rfl)) (by kernel_rfl) (by kernel_rfl) (by decide) (fun y h=>h.1.size) 4 _ _ _ (fun _=>False) (by kernel_rfl) (fun y h=>hF15 y h.1) (fun _ _ _ h=>h.elim) ?_
  refine runX_each [1] (by kernel_rfl) (by kernel_rfl) (by kernel_rfl) (by decide) ?_
  intro i hi
  simp only [List.mem_cons,List.not_mem_nil,or_false] at hi
  subst hi
  refine atX_make (t:=61) (z:= .cells #[.int .i64 1] 2 (0,0)) (fun k=> .slice (some ⟨k,0,none⟩) 1 1) (fun _ _ h=>(sl_inj h).1) rfl rfl rfl (stable_has y11 _) (fun y h=>hF15 y h.1) (fun y _=>by go_simp) ?_
  intro d1
  simp only [Act.put,List.setIfInBounds_toArray,List.set_cons_zero,List.set_cons_succ]
  refine runX_mono _ _ _ (fun y=>Below y11.heap.size y11 y∧Has ((d1, .cells #[.int .i64 1] 2 (0,0)) :: []) y) _ _ _ ?_ (fun _ h=>h) (fun _ h=>h) ?_
  ·rintro y ⟨⟨h1,h2⟩,h3⟩
   exact ⟨h1,h2.cons h3⟩
  refine runX_each [2] (by kernel_rfl) (by kernel_rfl) (by kernel_rfl) (by decide) ?_
  intro i hi
  simp only [List.mem_cons,List.not_mem_nil,or_false] at hi
  subst hi
  refine atX_quiet (.slice (some ⟨d1,0,none⟩) 1 1) rfl (quiet_call (args := #[.slice (some ⟨d1,0,none⟩) 1 1]) (by rfl) (fun y hy=>(Go.Conc.run_call_body (fn:=Try.f56) rfl Try.func56 (by kernel_rfl) (by kernel_rfl)).trans (by simp [Act.eval])) (fun y hy=>(longs_c _ _ _ y).mono (by rintro e y1 ⟨rfl,rfl⟩; exact ⟨rfl,Below.refl _ _⟩))) ?_
  simp only [puts]
  refine runX_each [3] (by kernel_rfl) (by kernel_rfl) (by kernel_rfl) (by decide) ?_
  intro i hi
  simp only [List.mem_cons,List.not_mem_nil,or_false] at hi
  subst hi
  refine atX_quiet (re2 (0,0,15)) rfl (quiet_call (fn:=19) (args := #[tabV p1 2 c1, .slice (some ⟨d1,0,none⟩) 1 1]) (by rfl) (fun y hy=>(Go.Conc.run_call_body (fn:=Try.f19) rfl Try.func19 (by kernel_rfl) (by kernel_rfl)).trans (by simp [Act.eval])) (fun y hy => ?_)) ?_
  ·obtain ⟨g1,g2⟩:=hy
   have hi0:Ints y (some ⟨d1,0,none⟩) 1 (ltN [1]):=ints_has [1] (g2 (d1, .cells #[.int .i64 1] 2 (0,0)) (by simp))
   have hc:=Sure_c p1 2 c1 (mixedF x1) (some ⟨d1,0,none⟩) 1 1 (ltN [1]) y (H1.out.below g1) (by decide) (fun _ _=>(show (2:Nat)≤1048576 by decide)) hi0 (by decide); rw [mixed_sure3 x1] at hc
   exact hc
  simp only [puts]
  refine runX_each [4] (by kernel_rfl) (by kernel_rfl) (by kernel_rfl) (by decide) ?_
  intro i hi
  simp only [List.mem_cons,List.not_mem_nil,or_false] at hi
  subst hi
  refine atX_quiet (re2 (0,0,15)) rfl (quiet_yes _ (by rfl) (fun y hy=>by go_simp)) ?_
  simp only [puts]
  refine ⟨?_,fun b hb0 _ => ?_⟩
  ·skip
   refine run_take (i:=5) (.agg #[.int .i64 0, .int .i64 0]) rfl (by kernel_rfl) (by kernel_rfl) (by kernel_rfl) rfl (fun y h=>hF15 y h.1) (fun y hy=>by go_simp) ?_
   simp only [puts]
   refine run_take (i:=6) (.int .i64 15) rfl (by kernel_rfl) (by kernel_rfl) (by kernel_rfl) rfl (fun y h=>hF15 y h.1) (fun y hy=>by go_simp) ?_
   simp only [puts]
   refine run_only (i:=7) (by kernel_rfl) (at_make (w0:=y11) (t:=8) (z:= .cells #[.int .i64 0, .int .i64 0] 30 (0,0)) ptrTo (fun _=>False) ptrTo_inj rfl rfl rfl (fun y _=>by go_simp) (fun y h=>h.1.size) (fun _ _ _ h=>h.elim) ?_)
   intro b hb0 _
   simp only [Act.put,List.setIfInBounds_toArray,List.set_cons_zero,List.set_cons_succ]
   refine run_store (i:=8) (fun y=>Below y11.heap.size y11 y∧RowIs y b #[.int .i64 0, .int .i64 0] 30) (by kernel_rfl) rfl rfl (fun y y1 h hb=>⟨h.1.trans (hb.mono h.1.size),h.2.below hb⟩) (fun y h=>hF15 y h.1) (fun y hy => ?_) ?_
   ·obtain ⟨⟨g1, -⟩,g2⟩:=hy
    have r4:RowIs y b #[.int .i64 0, .int .i64 0] 30:=g2
    have q0:=r4.cell 0
    have q1:=r4.cell 1
    have z0:=r4.frozen 0
    have z1:=r4.frozen 1
    have qz:=r4.lt
    simp at q0 q1
    exact ⟨(y.setCell ⟨b,0,none⟩ (.int .i64 0)).setCell ⟨b,1,none⟩ (.int .i64 0),by go_simp,(g1.setCell (p:=⟨b,0,none⟩) hb0 _).setCell (p:=⟨b,1,none⟩) hb0 _,(r4.set 0 (.int .i64 0)).set 1 (.int .i64 0)⟩
   simp only [puts]
   refine run_quiet (i:=9) (.int .i64 15) (by kernel_rfl) rfl rfl (fun y hy=>by go_simp) ?_
   simp only [puts]
   refine ⟨by kernel_rfl,fun y hy => ?_⟩
   exact fin b d1 y ⟨hb0,hy.1,hy.2⟩
  ·skip
   refine run_take (i:=5) (.agg #[.int .i64 0, .int .i64 0]) rfl (by kernel_rfl) (by kernel_rfl) (by kernel_rfl) rfl (fun y h=>hF15 y h.1.1) (fun y hy=>by go_simp) ?_
   simp only [puts]
   refine run_take (i:=6) (.int .i64 15) rfl (by kernel_rfl) (by kernel_rfl) (by kernel_rfl) rfl (fun y h=>hF15 y h.1.1) (fun y hy=>by go_simp) ?_
   simp only [puts]
   refine run_store (i:=8) (fun y=>Below y11.heap.size y11 y∧RowIs y b #[.int .i64 0, .int .i64 0] 30) (by kernel_rfl) rfl rfl (fun y y1 h hb=>⟨h.1.trans (hb.mono h.1.size),h.2.below hb⟩) (fun y h=>hF15 y h.1) (fun y hy => ?_) ?_
   ·obtain ⟨⟨g1, -⟩,g2⟩:=hy
    have r4:RowIs y b #[.int .i64 0, .int .i64 0] 30:=g2
    have q0:=r4.cell 0
    have q1:=r4.cell 1
    have z0:=r4.frozen 0
    have z1:=r4.frozen 1
    have qz:=r4.lt
    simp at q0 q1
    exact ⟨(y.setCell ⟨b,0,none⟩ (.int .i64 0)).setCell ⟨b,1,none⟩ (.int .i64 0),by go_simp,(g1.setCell (p:=⟨b,0,none⟩) hb0 _).setCell (p:=⟨b,1,none⟩) hb0 _,(r4.set 0 (.int .i64 0)).set 1 (.int .i64 0)⟩
   simp only [puts]
   refine run_quiet (i:=9) (.int .i64 15) (by kernel_rfl) rfl rfl (fun y hy=>by go_simp) ?_
   simp only [puts]
   refine ⟨by kernel_rfl,fun y hy => ?_⟩
   exact fin b d1 y ⟨hb0,hy.1,hy.2⟩
 clear cc13 zz14
 rintro b16 d18 y17 ⟨hbb,hby,hrow⟩
 replace H1:=Lib.hid (H1.out.below hby)
 replace H2:=Lib.hid (H2.out.below hby)
 replace H3:=Lib.hid (H3.out.below hby)
 replace R1:=Lib.hid (RowIs.below R1.out hby)
 replace R2:=Lib.hid (RowIs.below R2.out hby)
 replace R3:=Lib.hid (RowIs.below R3.out hby)
 replace Q4:=Lib.hid (RowIs.below Q4.out hby)
 replace Q6:=Lib.hid (RowIs.below Q6.out hby)
 replace B1:=Lib.hid (bup B1.out hby)
 have Q8:=Lib.hid hrow
 clear hbb hby hrow
 have cc19:y17.cell? ⟨w3.heap.size,0,none⟩=some (.slice p1 2 c1):=RowIs.cell R1.out 0
 have zz20:w3.heap.size<y17.heap.size:=RowIs.lt R1.out
 go_wp2_with fail
 apply cutB1 (fun b d1 y=>y17.heap.size≤b∧Below y17.heap.size y17 y∧RowIs y b #[.int .i64 4, .int .i64 1] 30)
 case main=>
  intro fin
  have hF21 : ∀ y,Below y17.heap.size y17 y→Below y17.heap.size y17 y∧y.cell? ⟨w3.heap.size,0,none⟩=some (.slice p1 2 c1):=fun y hy=>⟨hy,RowIs.cell (R1.out.below hy) 0⟩
  refine wp_region_runF (C:=fun y=>Below y17.heap.size y17 y∧y.cell? ⟨w3.heap.size,0,none⟩=some (.slice p1 2 c1)) (fun y=>Below y17.heap.size y17 y∧Has [] y) (by kernel_rfl) (stable_has y17 []) ⟨Below.refl _ _,has_nil _⟩ ?_
  change Run _ _ _ _ _ 10 _ _ _
  refine run_take (i:=0) (tabV p1 2 c1) rfl (by kernel_rfl) (by kernel_rfl) (by kernel_rfl) rfl (fun y h=>hF21 y h.1) (fun y hy=>by obtain ⟨-,q0⟩:=hy; go_simp) ?_
  simp only [puts]
  refine runX_float (x:=7) (c:=5) (tx:=10) (z:= .cells #[.int .i64 0, .int .i64 0] 30 (0,0)) (w0:=y17) (g:=4) rfl rfl rfl (fun a y=>by go_simp) (Region.noSelect_spec (by kernel_rfl)) (by kernel_rfl) (by kernel_rfl) (by decide) (fun y h=>h.1.size) 4 _ _ _ (fun _=>False) (by kernel_rfl) (fun y h=>hF21 y h.1) (fun _ _ _ h=>h.elim) ?_
  refine runX_each [1] (by kernel_rfl) (by kernel_rfl) (by kernel_rfl) (by decide) ?_
  intro i hi
  simp only [List.mem_cons,List.not_mem_nil,or_false] at hi
  subst hi
  refine atX_make (t:=68) (z:= .cells #[.int .i64 0, .int .i64 1] 2 (0,0)) (fun k=> .slice (some ⟨k,0,none⟩) 2 2) (fun _ _ h=>(sl_inj h).1) rfl rfl rfl (stable_has y17 _) (fun y h=>hF21 y h.1) (fun y _=>by go_simp) ?_
  intro d1
  simp only [Act.put,List.setIfInBounds_toArray,List.set_cons_zero,List.set_cons_succ]
  refine runX_mono _ _ _ (fun y=>Below y17.heap.size y17 y∧Has ((d1, .cells #[.int .i64 0, .int .i64 1] 2 (0,0)) :: []) y) _ _ _ ?_ (fun _ h=>h) (fun _ h=>h) ?_
  ·rintro y ⟨⟨h1,h2⟩,h3⟩
   exact ⟨h1,h2.cons h3⟩
  refine runX_each [2] (by kernel_rfl) (by kernel_rfl) (by kernel_rfl) (by decide) ?_
  intro i hi
  simp only [List.mem_cons,List.not_mem_nil,or_false] at hi
  subst hi
  refine atX_quiet (.slice (some ⟨d1,0,none⟩) 2 2) rfl (quiet_call (args := #[.slice (some ⟨d1,0,none⟩) 2 2]) (by rfl) (fun y hy=>(Go.Conc.run_call_body (fn:=Try.f56) rfl Try.func56 (by kernel_rfl) (by kernel_rfl)).trans (by simp [Act.eval])) (fun y hy=>(longs_c _ _ _ y).mono (by rintro e y1 ⟨rfl,rfl⟩; exact ⟨rfl,Below.refl _ _⟩))) ?_
  simp only [puts]
  refine runX_each [3] (by kernel_rfl) (by kernel_rfl) (by kernel_rfl) (by decide) ?_
  intro i hi
  simp only [List.mem_cons,List.not_mem_nil,or_false] at hi
  subst hi
  refine atX_quiet (re2 (4,1,0)) rfl (quiet_call (fn:=21) (args := #[tabV p1 2 c1, .slice (some ⟨d1,0,none⟩) 2 2]) (by rfl) (fun y hy=>(Go.Conc.run_call_body (fn:=Try.f21) rfl Try.func21 (by kernel_rfl) (by kernel_rfl)).trans (by simp [Act.eval])) (fun y hy => ?_)) ?_
  ·obtain ⟨g1,g2⟩:=hy
   have hi0:Ints y (some ⟨d1,0,none⟩) 2 (ltN [0,1]):=ints_has [0,1] (g2 (d1, .cells #[.int .i64 0, .int .i64 1] 2 (0,0)) (by simp))
   have hc:=Bound_c p1 2 c1 (mixedF x1) (some ⟨d1,0,none⟩) 2 2 (ltN [0,1]) y (H1.out.below g1) (by decide) (fun _ _=>(show (2:Nat)≤1048576 by decide)) hi0 (by decide); rw [mixed_bound1 x1] at hc
   exact hc
  simp only [puts]
  refine runX_each [4] (by kernel_rfl) (by kernel_rfl) (by kernel_rfl) (by decide) ?_
  intro i hi
  simp only [List.mem_cons,List.not_mem_nil,or_false] at hi
  subst hi
  refine atX_quiet (re2 (4,1,0)) rfl (quiet_yes _ (by rfl) (fun y hy=>by go_simp)) ?_
  simp only [puts]
  refine ⟨?_,fun b hb0 _ => ?_⟩
  ·skip
   refine run_take (i:=5) (.agg #[.int .i64 4, .int .i64 1]) rfl (by kernel_rfl) (by kernel_rfl) (by kernel_rfl) rfl (fun y h=>hF21 y h.1) (fun y hy=>by go_simp) ?_
   simp only [puts]
   refine run_take (i:=6) (.int .i64 0) rfl (by kernel_rfl) (by kernel_rfl) (by kernel_rfl) rfl (fun y h=>hF21 y h.1) (fun y hy=>by go_simp) ?_
   simp only [puts]
   refine run_only (i:=7) (by kernel_rfl) (at_make (w0:=y17) (t:=10) (z:= .cells #[.int .i64 0, .int .i64 0] 30 (0,0)) ptrTo (fun _=>False) ptrTo_inj rfl rfl rfl (fun y _=>by go_simp) (fun y h=>h.1.size) (fun _ _ _ h=>h.elim) ?_)
   intro b hb0 _
   simp only [Act.put,List.setIfInBounds_toArray,List.set_cons_zero,List.set_cons_succ]
   refine run_store (i:=8) (fun y=>Below y17.heap.size y17 y∧RowIs y b #[.int .i64 4, .int .i64 1] 30) (by kernel_rfl) rfl rfl (fun y y1 h hb=>⟨h.1.trans (hb.mono h.1.size),h.2.below hb⟩) (fun y h=>hF21 y h.1) (fun y hy => ?_) ?_
   ·obtain ⟨⟨g1, -⟩,g2⟩:=hy
    have r4:RowIs y b #[.int .i64 0, .int .i64 0] 30:=g2
    have q0:=r4.cell 0
    have q1:=r4.cell 1
    have z0:=r4.frozen 0
    have z1:=r4.frozen 1
    have qz:=r4.lt
    simp at q0 q1
    exact ⟨(y.setCell ⟨b,0,none⟩ (.int .i64 4)).setCell ⟨b,1,none⟩ (.int .i64 1),by go_simp,(g1.setCell (p:=⟨b,0,none⟩) hb0 _).setCell (p:=⟨b,1,none⟩) hb0 _,(r4.set 0 (.int .i64 4)).set 1 (.int .i64 1)⟩
   simp only [puts]
   refine run_quiet (i:=9) (.int .i64 0) (by kernel_rfl) rfl rfl (fun y hy=>by go_simp) ?_
   simp only [puts]
   refine ⟨by kernel_rfl,fun y hy => ?_⟩
   exact fin b d1 y ⟨hb0,hy.1,hy.2⟩
  ·skip
   refine run_take (i:=5) (.agg #[.int .i64 4, .int .i64 1]) rfl (by kernel_rfl) (by kernel_rfl) (by kernel_rfl) rfl (fun y h=>hF21 y h.1.1) (fun y hy=>by go_simp) ?_
   simp only [puts]
   refine run_take (i:=6) (.int .i64 0) rfl (by kernel_rfl) (by kernel_rfl) (by kernel_rfl) rfl (fun y h=>hF21 y h.1.1) (fun y hy=>by go_simp) ?_
   simp only [puts]
   refine run_store (i:=8) (fun y=>Below y17.heap.size y17 y∧RowIs y b #[.int .i64 4, .int .i64 1] 30) (by kernel_rfl) rfl rfl (fun y y1 h hb=>⟨h.1.trans (hb.mono h.1.size),h.2.below hb⟩) (fun y h=>hF21 y h.1) (fun y hy => ?_) ?_
   ·obtain ⟨⟨g1, -⟩,g2⟩:=hy
    have r4:RowIs y b #[.int .i64 0, .int .i64 0] 30:=g2
    have q0:=r4.cell 0
    have q1:=r4.cell 1
    have z0:=r4.frozen 0
    have z1:=r4.frozen 1
    have qz:=r4.lt
    simp at q0 q1
    exact ⟨(y.setCell ⟨b,0,none⟩ (.int .i64 4)).setCell ⟨b,1,none⟩ (.int .i64 1),by go_simp,(g1.setCell (p:=⟨b,0,none⟩) hb0 _).setCell (p:=⟨b,1,none⟩) hb0 _,(r4.set 0 (.int .i64 4)).set 1 (.int .i64 1)⟩
   simp only [puts]
   refine run_quiet (i:=9) (.int .i64 0) (by kernel_rfl) rfl rfl (fun y hy=>by go_simp) ?_
   simp only [puts]
   refine ⟨by kernel_rfl,fun y hy => ?_⟩
   exact fin b d1 y ⟨hb0,hy.1,hy.2⟩
 clear cc19 zz20
 rintro b22 d24 y23 ⟨hbb,hby,hrow⟩
 replace H1:=Lib.hid (H1.out.below hby)
 replace H2:=Lib.hid (H2.out.below hby)
 replace H3:=Lib.hid (H3.out.below hby)
 replace R1:=Lib.hid (RowIs.below R1.out hby)
 replace R2:=Lib.hid (RowIs.below R2.out hby)
 replace R3:=Lib.hid (RowIs.below R3.out hby)
 replace Q4:=Lib.hid (RowIs.below Q4.out hby)
 replace Q6:=Lib.hid (RowIs.below Q6.out hby)
 replace Q8:=Lib.hid (RowIs.below Q8.out hby)
 replace B1:=Lib.hid (bup B1.out hby)
 have Q10:=Lib.hid hrow
 clear hbb hby hrow
 have cc25:y23.cell? ⟨w3.heap.size,0,none⟩=some (.slice p1 2 c1):=RowIs.cell R1.out 0
 have zz26:w3.heap.size<y23.heap.size:=RowIs.lt R1.out
 have hV:=Value_v p1 2 c1 (mixedF x1) y23 H1.out (by decide) (fun _ _=>(show (2:Nat)≤1048576 by decide))
 rw [mixed_value x1] at hV
 have HV:=Lib.hid hV
 clear hV
 go_wp2_with fail
 clear cc25 zz26
 refine (HV.out).mono ?_
 rintro e w27 ⟨rfl,hbq⟩
 replace H1:=Lib.hid (H1.out.below hbq)
 replace H2:=Lib.hid (H2.out.below hbq)
 replace H3:=Lib.hid (H3.out.below hbq)
 replace R1:=Lib.hid (RowIs.below R1.out hbq)
 replace R2:=Lib.hid (RowIs.below R2.out hbq)
 replace R3:=Lib.hid (RowIs.below R3.out hbq)
 replace Q4:=Lib.hid (RowIs.below Q4.out hbq)
 replace Q6:=Lib.hid (RowIs.below Q6.out hbq)
 replace Q8:=Lib.hid (RowIs.below Q8.out hbq)
 replace Q10:=Lib.hid (RowIs.below Q10.out hbq)
 replace B1:=Lib.hid (bup B1.out hbq)
 clear hbq
 clear HV
 obtain ⟨Y28,hY28⟩ : ∃ Y28,w27.alloc (.cells #[.int .i64 1, .int .i64 1] 30)=Y28:=⟨_,rfl⟩
 have hb29:Below w27.heap.size w27 Y28:=by rw [← hY28]; exact Below.alloc1 (Below.refl _ _) _ (Nat.le_refl _)
 have hr30:RowIs Y28 w27.heap.size #[.int .i64 1, .int .i64 1] 30:=by rw [← hY28]; exact heap_new_at _ _ _ rfl
 replace H1:=Lib.hid (H1.out.below hb29)
 replace H2:=Lib.hid (H2.out.below hb29)
 replace H3:=Lib.hid (H3.out.below hb29)
 replace R1:=Lib.hid (RowIs.below R1.out hb29)
 replace R2:=Lib.hid (RowIs.below R2.out hb29)
 replace R3:=Lib.hid (RowIs.below R3.out hb29)
 replace Q4:=Lib.hid (RowIs.below Q4.out hb29)
 replace Q6:=Lib.hid (RowIs.below Q6.out hb29)
 replace Q8:=Lib.hid (RowIs.below Q8.out hb29)
 replace Q10:=Lib.hid (RowIs.below Q10.out hb29)
 replace B1:=Lib.hid (bup B1.out hb29)
 have Q12:=Lib.hid hr30
 clear hb29 hr30
 have cc32:Y28.cell? ⟨w3.heap.size+1+1,0,none⟩=some (.slice p3 3 c3):=RowIs.cell R3.out 0
 have zz33:w3.heap.size+1+1<Y28.heap.size:=RowIs.lt R3.out
 have hV:=Value_v p3 3 c3 (roundF x3) Y28 H3.out (by decide) (fun _ _=>(show (3:Nat)≤1048576 by decide))
 rw [round_value x3] at hV
 have HV:=Lib.hid hV
 clear hV
 go_wp2_with fail
 clear hY28 cc32 zz33
 refine (HV.out).mono ?_
 rintro e w34 ⟨rfl,hbq⟩
 replace H1:=Lib.hid (H1.out.below hbq)
 replace H2:=Lib.hid (H2.out.below hbq)
 replace H3:=Lib.hid (H3.out.below hbq)
 replace R1:=Lib.hid (RowIs.below R1.out hbq)
 replace R2:=Lib.hid (RowIs.below R2.out hbq)
 replace R3:=Lib.hid (RowIs.below R3.out hbq)
 replace Q4:=Lib.hid (RowIs.below Q4.out hbq)
 replace Q6:=Lib.hid (RowIs.below Q6.out hbq)
 replace Q8:=Lib.hid (RowIs.below Q8.out hbq)
 replace Q10:=Lib.hid (RowIs.below Q10.out hbq)
 replace Q12:=Lib.hid (RowIs.below Q12.out hbq)
 replace B1:=Lib.hid (bup B1.out hbq)
 clear hbq
 clear HV
 obtain ⟨Y35,hY35⟩ : ∃ Y35,w34.alloc (.cells #[.int .i64 0, .int .i64 1] 30)=Y35:=⟨_,rfl⟩
 have hb36:Below w34.heap.size w34 Y35:=by rw [← hY35]; exact Below.alloc1 (Below.refl _ _) _ (Nat.le_refl _)
 have hr37:RowIs Y35 w34.heap.size #[.int .i64 0, .int .i64 1] 30:=by rw [← hY35]; exact heap_new_at _ _ _ rfl
 replace H1:=Lib.hid (H1.out.below hb36)
 replace H2:=Lib.hid (H2.out.below hb36)
 replace H3:=Lib.hid (H3.out.below hb36)
 replace R1:=Lib.hid (RowIs.below R1.out hb36)
 replace R2:=Lib.hid (RowIs.below R2.out hb36)
 replace R3:=Lib.hid (RowIs.below R3.out hb36)
 replace Q4:=Lib.hid (RowIs.below Q4.out hb36)
 replace Q6:=Lib.hid (RowIs.below Q6.out hb36)
 replace Q8:=Lib.hid (RowIs.below Q8.out hb36)
 replace Q10:=Lib.hid (RowIs.below Q10.out hb36)
 replace Q12:=Lib.hid (RowIs.below Q12.out hb36)
 replace B1:=Lib.hid (bup B1.out hb36)
 have Q14:=Lib.hid hr37
 clear hb36 hr37
 have cc39:Y35.cell? ⟨w3.heap.size,0,none⟩=some (.slice p1 2 c1):=RowIs.cell R1.out 0
 have zz40:w3.heap.size<Y35.heap.size:=RowIs.lt R1.out
 have HV:=Lib.hid (Rows_v p1 2 c1 (mixedF x1) Y35 H1.out (by decide) (fun _ _=>(show (2:Nat)≤1048576 by decide)))
 go_wp2_with fail
 clear hY35 cc39 zz40
 refine HV.out.mono ?_
 rintro e w41 ⟨hres,hbq⟩
 obtain ⟨gr,xr,hbest,rfl,hrow⟩:=hres.elim (fun h=>absurd (okay_is (mixed_ok x1)) h.1) (fun h=>h.2)
 replace H1:=Lib.hid (H1.out.below hbq)
 replace H2:=Lib.hid (H2.out.below hbq)
 replace H3:=Lib.hid (H3.out.below hbq)
 replace R1:=Lib.hid (RowIs.below R1.out hbq)
 replace R2:=Lib.hid (RowIs.below R2.out hbq)
 replace R3:=Lib.hid (RowIs.below R3.out hbq)
 replace Q4:=Lib.hid (RowIs.below Q4.out hbq)
 replace Q6:=Lib.hid (RowIs.below Q6.out hbq)
 replace Q8:=Lib.hid (RowIs.below Q8.out hbq)
 replace Q10:=Lib.hid (RowIs.below Q10.out hbq)
 replace Q12:=Lib.hid (RowIs.below Q12.out hbq)
 replace Q14:=Lib.hid (RowIs.below Q14.out hbq)
 replace B1:=Lib.hid (bup B1.out hbq)
 have G16:=Lib.hid hrow
 have BR:=Lib.hid hbest
 clear hrow hbest hbq hres HV
 have cc42:w41.cell? ⟨w3.heap.size,0,none⟩=some (.slice p1 2 c1):=RowIs.cell R1.out 0
 have zz43:w3.heap.size<w41.heap.size:=RowIs.lt R1.out
 have HV:=Lib.hid (Columns_v p1 2 c1 (mixedF x1) w41 H1.out (by decide) (fun _ _=>(show (2:Nat)≤1048576 by decide)))
 go_wp2_with fail
 clear cc42 zz43
 refine HV.out.mono ?_
 rintro e w44 ⟨hres,hbq⟩
 obtain ⟨gk,xk,hbest,rfl,hrow⟩:=hres.elim (fun h=>absurd (okay_is (mixed_ok x1)) h.1) (fun h=>h.2)
 rw [show (mixedF x1 0).n=2 from rfl] at hrow hbest ⊢
 replace H1:=Lib.hid (H1.out.below hbq)
 replace H2:=Lib.hid (H2.out.below hbq)
 replace H3:=Lib.hid (H3.out.below hbq)
 replace R1:=Lib.hid (RowIs.below R1.out hbq)
 replace R2:=Lib.hid (RowIs.below R2.out hbq)
 replace R3:=Lib.hid (RowIs.below R3.out hbq)
 replace Q4:=Lib.hid (RowIs.below Q4.out hbq)
 replace Q6:=Lib.hid (RowIs.below Q6.out hbq)
 replace Q8:=Lib.hid (RowIs.below Q8.out hbq)
 replace Q10:=Lib.hid (RowIs.below Q10.out hbq)
 replace Q12:=Lib.hid (RowIs.below Q12.out hbq)
 replace Q14:=Lib.hid (RowIs.below Q14.out hbq)
 replace G16:=Lib.hid (RowIs.below G16.out hbq)
 replace B1:=Lib.hid (bup B1.out hbq)
 have G18:=Lib.hid hrow
 have BC:=Lib.hid hbest
 clear hrow hbest hbq hres HV
 have cc45:w44.cell? ⟨w3.heap.size,0,none⟩=some (.slice p1 2 c1):=RowIs.cell R1.out 0
 have zz46:w3.heap.size<w44.heap.size:=RowIs.lt R1.out
 go_wp2_with fail
 apply cutB2 (fun b d1 d2 y=>w44.heap.size≤b∧Below w44.heap.size w44 y∧RowIs y b #[.int .i64 1, .int .i64 1] 30)
 case main=>
  intro fin
  have hF47 : ∀ y,Below w44.heap.size w44 y→Below w44.heap.size w44 y∧y.cell? ⟨w3.heap.size,0,none⟩=some (.slice p1 2 c1):=fun y hy=>⟨hy,RowIs.cell (R1.out.below hy) 0⟩
  refine wp_region_runF (C:=fun y=>Below w44.heap.size w44 y∧y.cell? ⟨w3.heap.size,0,none⟩=some (.slice p1 2 c1)) (fun y=>Below w44.heap.size w44 y∧Has [] y) (by kernel_rfl) (stable_has w44 []) ⟨Below.refl _ _,has_nil _⟩ ?_
  change Run _ _ _ _ _ 12 _ _ _
  refine run_take (i:=0) (tabV p1 2 c1) rfl (by kernel_rfl) (by kernel_rfl) (by kernel_rfl) rfl (fun y h=>hF47 y h.1) (fun y hy=>by obtain ⟨-,q0⟩:=hy; go_simp) ?_
  simp only [puts]
  refine runX_float (x:=9) (c:=7) (tx:=20) (z:= .cells #[.int .i64 0, .int .i64 0] 30 (0,0)) (w0:=w44) (g:=4) rfl rfl rfl (fun a y=>by go_simp) (Region.noSelect_spec (by kernel_rfl)) (by kernel_rfl) (by kernel_rfl) (by decide) (fun y h=>h.1.size) 6 _ _ _ (fun _=>False) (by kernel_rfl) (fun y h=>hF47 y h.1) (fun _ _ _ h=>h.elim) ?_
  apply cutG
  case main=>
   intro tail
   refine runX_each [1,3] (by kernel_rfl) (by kernel_rfl) (by kernel_rfl) (by decide) ?_
   intro i hi
   simp only [List.mem_cons,List.not_mem_nil,or_false] at hi
   rcases hi with rfl | rfl
   ·skip
    refine atX_make (t:=95) (z:= .cells #[.int .i64 3, .int .i64 2] 2 (0,0)) (fun k=> .slice (some ⟨k,0,none⟩) 2 2) (fun _ _ h=>(sl_inj h).1) rfl rfl rfl (stable_has w44 _) (fun y h=>hF47 y h.1) (fun y _=>by go_simp) ?_
    intro d1
    simp only [Act.put,List.setIfInBounds_toArray,List.set_cons_zero,List.set_cons_succ]
    refine runX_mono _ _ _ (fun y=>Below w44.heap.size w44 y∧Has ((d1, .cells #[.int .i64 3, .int .i64 2] 2 (0,0)) :: []) y) _ _ _ ?_ (fun _ h=>h) (fun _ h=>h) ?_
    ·rintro y ⟨⟨h1,h2⟩,h3⟩
     exact ⟨h1,h2.cons h3⟩
    refine runX_each [2,3] (by kernel_rfl) (by kernel_rfl) (by kernel_rfl) (by decide) ?_
    intro i hi
    simp only [List.mem_cons,List.not_mem_nil,or_false] at hi
    rcases hi with rfl | rfl
    ·skip
     refine atX_quiet (.slice (some ⟨d1,0,none⟩) 2 2) rfl (quiet_call (args := #[.slice (some ⟨d1,0,none⟩) 2 2]) (by rfl) (fun y hy=>(Go.Conc.run_call_body (fn:=Try.f56) rfl Try.func56 (by kernel_rfl) (by kernel_rfl)).trans (by simp [Act.eval])) (fun y hy=>(longs_c _ _ _ y).mono (by rintro e y1 ⟨rfl,rfl⟩; exact ⟨rfl,Below.refl _ _⟩))) ?_
     simp only [puts]
     refine runX_each [3] (by kernel_rfl) (by kernel_rfl) (by kernel_rfl) (by decide) ?_
     intro i hi
     simp only [List.mem_cons,List.not_mem_nil,or_false] at hi
     subst hi
     refine atX_make (t:=97) (z:= .cells #[.int .i64 1, .int .i64 1] 2 (0,0)) (fun k=> .slice (some ⟨k,0,none⟩) 2 2) (fun _ _ h=>(sl_inj h).1) rfl rfl rfl (stable_has w44 _) (fun y h=>hF47 y h.1) (fun y _=>by go_simp) ?_
     intro d2
     simp only [Act.put,List.setIfInBounds_toArray,List.set_cons_zero,List.set_cons_succ]
     refine runX_mono _ _ _ (fun y=>Below w44.heap.size w44 y∧Has ((d2, .cells #[.int .i64 1, .int .i64 1] 2 (0,0)) :: (d1, .cells #[.int .i64 3, .int .i64 2] 2 (0,0)) :: []) y) _ _ _ ?_ (fun _ h=>h) (fun _ h=>h) ?_
     ·rintro y ⟨⟨h1,h2⟩,h3⟩
      exact ⟨h1,h2.cons h3⟩
     refine runX_each [4] (by kernel_rfl) (by kernel_rfl) (by kernel_rfl) (by decide) ?_
     intro i hi
     simp only [List.mem_cons,List.not_mem_nil,or_false] at hi
     subst hi
     refine atX_quiet (.slice (some ⟨d2,0,none⟩) 2 2) rfl (quiet_call (args := #[.slice (some ⟨d2,0,none⟩) 2 2]) (by rfl) (fun y hy=>(Go.Conc.run_call_body (fn:=Try.f56) rfl Try.func56 (by kernel_rfl) (by kernel_rfl)).trans (by simp [Act.eval])) (fun y hy=>(longs_c _ _ _ y).mono (by rintro e y1 ⟨rfl,rfl⟩; exact ⟨rfl,Below.refl _ _⟩))) ?_
     simp only [puts]
     exact tail d1 d2
    ·skip
     refine atX_make (t:=97) (z:= .cells #[.int .i64 1, .int .i64 1] 2 (0,0)) (fun k=> .slice (some ⟨k,0,none⟩) 2 2) (fun _ _ h=>(sl_inj h).1) rfl rfl rfl (stable_has w44 _) (fun y h=>hF47 y h.1) (fun y _=>by go_simp) ?_
     intro d2
     simp only [Act.put,List.setIfInBounds_toArray,List.set_cons_zero,List.set_cons_succ]
     refine runX_mono _ _ _ (fun y=>Below w44.heap.size w44 y∧Has ((d2, .cells #[.int .i64 1, .int .i64 1] 2 (0,0)) :: (d1, .cells #[.int .i64 3, .int .i64 2] 2 (0,0)) :: []) y) _ _ _ ?_ (fun _ h=>h) (fun _ h=>h) ?_
     ·rintro y ⟨⟨h1,h2⟩,h3⟩
      exact ⟨h1,h2.cons h3⟩
     refine runX_each [2] (by kernel_rfl) (by kernel_rfl) (by kernel_rfl) (by decide) ?_
     intro i hi
     simp only [List.mem_cons,List.not_mem_nil,or_false] at hi
     subst hi
     refine atX_quiet (.slice (some ⟨d1,0,none⟩) 2 2) rfl (quiet_call (args := #[.slice (some ⟨d1,0,none⟩) 2 2]) (by rfl) (fun y hy=>(Go.Conc.run_call_body (fn:=Try.f56) rfl Try.func56 (by kernel_rfl) (by kernel_rfl)).trans (by simp [Act.eval])) (fun y hy=>(longs_c _ _ _ y).mono (by rintro e y1 ⟨rfl,rfl⟩; exact ⟨rfl,Below.refl _ _⟩))) ?_
     simp only [puts]
     refine runX_each [4] (by kernel_rfl) (by kernel_rfl) (by kernel_rfl) (by decide) ?_
     intro i hi
     simp only [List.mem_cons,List.not_mem_nil,or_false] at hi
     subst hi
     refine atX_quiet (.slice (some ⟨d2,0,none⟩) 2 2) rfl (quiet_call (args := #[.slice (some ⟨d2,0,none⟩) 2 2]) (by rfl) (fun y hy=>(Go.Conc.run_call_body (fn:=Try.f56) rfl Try.func56 (by kernel_rfl) (by kernel_rfl)).trans (by simp [Act.eval])) (fun y hy=>(longs_c _ _ _ y).mono (by rintro e y1 ⟨rfl,rfl⟩; exact ⟨rfl,Below.refl _ _⟩))) ?_
     simp only [puts]
     exact tail d1 d2
   ·skip
    refine atX_make (t:=97) (z:= .cells #[.int .i64 1, .int .i64 1] 2 (0,0)) (fun k=> .slice (some ⟨k,0,none⟩) 2 2) (fun _ _ h=>(sl_inj h).1) rfl rfl rfl (stable_has w44 _) (fun y h=>hF47 y h.1) (fun y _=>by go_simp) ?_
    intro d2
    simp only [Act.put,List.setIfInBounds_toArray,List.set_cons_zero,List.set_cons_succ]
    refine runX_mono _ _ _ (fun y=>Below w44.heap.size w44 y∧Has ((d2, .cells #[.int .i64 1, .int .i64 1] 2 (0,0)) :: []) y) _ _ _ ?_ (fun _ h=>h) (fun _ h=>h) ?_
    ·rintro y ⟨⟨h1,h2⟩,h3⟩
     exact ⟨h1,h2.cons h3⟩
    refine runX_each [1] (by kernel_rfl) (by kernel_rfl) (by kernel_rfl) (by decide) ?_
    intro i hi
    simp only [List.mem_cons,List.not_mem_nil,or_false] at hi
    subst hi
    refine atX_make (t:=95) (z:= .cells #[.int .i64 3, .int .i64 2] 2 (0,0)) (fun k=> .slice (some ⟨k,0,none⟩) 2 2) (fun _ _ h=>(sl_inj h).1) rfl rfl rfl (stable_has w44 _) (fun y h=>hF47 y h.1) (fun y _=>by go_simp) ?_
    intro d1
    simp only [Act.put,List.setIfInBounds_toArray,List.set_cons_zero,List.set_cons_succ]
    refine runX_mono _ _ _ (fun y=>Below w44.heap.size w44 y∧Has ((d1, .cells #[.int .i64 3, .int .i64 2] 2 (0,0)) :: (d2, .cells #[.int .i64 1, .int .i64 1] 2 (0,0)) :: []) y) _ _ _ ?_ (fun _ h=>h) (fun _ h=>h) ?_
    ·rintro y ⟨⟨h1,h2⟩,h3⟩
     exact ⟨h1,h2.cons h3⟩
    refine runX_each [2] (by kernel_rfl) (by kernel_rfl) (by kernel_rfl) (by decide) ?_
    intro i hi
    simp only [List.mem_cons,List.not_mem_nil,or_false] at hi
    subst hi
    refine atX_quiet (.slice (some ⟨d1,0,none⟩) 2 2) rfl (quiet_call (args := #[.slice (some ⟨d1,0,none⟩) 2 2]) (by rfl) (fun y hy=>(Go.Conc.run_call_body (fn:=Try.f56) rfl Try.func56 (by kernel_rfl) (by kernel_rfl)).trans (by simp [Act.eval])) (fun y hy=>(longs_c _ _ _ y).mono (by rintro e y1 ⟨rfl,rfl⟩; exact ⟨rfl,Below.refl _ _⟩))) ?_
    simp only [puts]
    refine runX_each [4] (by kernel_rfl) (by kernel_rfl) (by kernel_rfl) (by decide) ?_
    intro i hi
    simp only [List.mem_cons,List.not_mem_nil,or_false] at hi
    subst hi
    refine atX_quiet (.slice (some ⟨d2,0,none⟩) 2 2) rfl (quiet_call (args := #[.slice (some ⟨d2,0,none⟩) 2 2]) (by rfl) (fun y hy=>(Go.Conc.run_call_body (fn:=Try.f56) rfl Try.func56 (by kernel_rfl) (by kernel_rfl)).trans (by simp [Act.eval])) (fun y hy=>(longs_c _ _ _ y).mono (by rintro e y1 ⟨rfl,rfl⟩; exact ⟨rfl,Below.refl _ _⟩))) ?_
    simp only [puts]
    refine runX_mono _ _ _ (fun y=>Below w44.heap.size w44 y∧Has ((d2, .cells #[.int .i64 1, .int .i64 1] 2 (0,0)) :: (d1, .cells #[.int .i64 3, .int .i64 2] 2 (0,0)) :: []) y) _ _ _ (fun y h=>⟨h.1,h.2.swap⟩) (fun _ h=>h) (fun _ h=>h) ?_
    exact tail d1 d2
  case fin=>
   intro d1 d2
   refine runX_each [5] (by kernel_rfl) (by kernel_rfl) (by kernel_rfl) (by decide) ?_
   intro i hi
   simp only [List.mem_cons,List.not_mem_nil,or_false] at hi
   subst hi
   refine atX_quiet (re2 (1,1,0)) rfl (quiet_call (fn:=27) (args := #[tabV p1 2 c1, .slice (some ⟨d1,0,none⟩) 2 2, .slice (some ⟨d2,0,none⟩) 2 2]) (by rfl) (fun y hy=>(Go.Conc.run_call_body (fn:=Try.f27) rfl Try.func27 (by kernel_rfl) (by kernel_rfl)).trans (by simp [Act.eval])) (fun y hy => ?_)) ?_
   ·obtain ⟨g1,g2⟩:=hy
    have hi0:Ints y (some ⟨d1,0,none⟩) 2 (ltN [3,2]):=ints_has [3,2] (g2 (d1, .cells #[.int .i64 3, .int .i64 2] 2 (0,0)) (by simp))
    have hi1:Ints y (some ⟨d2,0,none⟩) 2 (ltN [1,1]):=ints_has [1,1] (g2 (d2, .cells #[.int .i64 1, .int .i64 1] 2 (0,0)) (by simp))
    have hc:=CheckProof_c p1 2 c1 (mixedF x1) (some ⟨d1,0,none⟩) 2 2 (ltN [3,2]) (some ⟨d2,0,none⟩) 2 2 (ltN [1,1]) y (H1.out.below g1) (by decide) (fun _ _=>(show (2:Nat)≤1048576 by decide)) hi0 (by decide) hi1 (by decide); rw [mixed_proof1 x1] at hc
    exact hc
   simp only [puts]
   refine runX_each [6] (by kernel_rfl) (by kernel_rfl) (by kernel_rfl) (by decide) ?_
   intro i hi
   simp only [List.mem_cons,List.not_mem_nil,or_false] at hi
   subst hi
   refine atX_quiet (re2 (1,1,0)) rfl (quiet_yes _ (by rfl) (fun y hy=>by go_simp)) ?_
   simp only [puts]
   refine ⟨?_,fun b hb0 _ => ?_⟩
   ·skip
    refine run_take (i:=7) (.agg #[.int .i64 1, .int .i64 1]) rfl (by kernel_rfl) (by kernel_rfl) (by kernel_rfl) rfl (fun y h=>hF47 y h.1) (fun y hy=>by go_simp) ?_
    simp only [puts]
    refine run_take (i:=8) (.int .i64 0) rfl (by kernel_rfl) (by kernel_rfl) (by kernel_rfl) rfl (fun y h=>hF47 y h.1) (fun y hy=>by go_simp) ?_
    simp only [puts]
    refine run_only (i:=9) (by kernel_rfl) (at_make (w0:=w44) (t:=20) (z:= .cells #[.int .i64 0, .int .i64 0] 30 (0,0)) ptrTo (fun _=>False) ptrTo_inj rfl rfl rfl (fun y _=>by go_simp) (fun y h=>h.1.size) (fun _ _ _ h=>h.elim) ?_)
    intro b hb0 _
    simp only [Act.put,List.setIfInBounds_toArray,List.set_cons_zero,List.set_cons_succ]
    refine run_store (i:=10) (fun y=>Below w44.heap.size w44 y∧RowIs y b #[.int .i64 1, .int .i64 1] 30) (by kernel_rfl) rfl rfl (fun y y1 h hb=>⟨h.1.trans (hb.mono h.1.size),h.2.below hb⟩) (fun y h=>hF47 y h.1) (fun y hy => ?_) ?_
    ·obtain ⟨⟨g1, -⟩,g2⟩:=hy
     have r4:RowIs y b #[.int .i64 0, .int .i64 0] 30:=g2
     have q0:=r4.cell 0
     have q1:=r4.cell 1
     have z0:=r4.frozen 0
     have z1:=r4.frozen 1
     have qz:=r4.lt
     simp at q0 q1
     exact ⟨(y.setCell ⟨b,0,none⟩ (.int .i64 1)).setCell ⟨b,1,none⟩ (.int .i64 1),by go_simp,(g1.setCell (p:=⟨b,0,none⟩) hb0 _).setCell (p:=⟨b,1,none⟩) hb0 _,(r4.set 0 (.int .i64 1)).set 1 (.int .i64 1)⟩
    simp only [puts]
    refine run_quiet (i:=11) (.int .i64 0) (by kernel_rfl) rfl rfl (fun y hy=>by go_simp) ?_
    simp only [puts]
    refine ⟨by kernel_rfl,fun y hy => ?_⟩
    exact fin b d1 d2 y ⟨hb0,hy.1,hy.2⟩
   ·skip
    refine run_take (i:=7) (.agg #[.int .i64 1, .int .i64 1]) rfl (by kernel_rfl) (by kernel_rfl) (by kernel_rfl) rfl (fun y h=>hF47 y h.1.1) (fun y hy=>by go_simp) ?_
    simp only [puts]
    refine run_take (i:=8) (.int .i64 0) rfl (by kernel_rfl) (by kernel_rfl) (by kernel_rfl) rfl (fun y h=>hF47 y h.1.1) (fun y hy=>by go_simp) ?_
    simp only [puts]
    refine run_store (i:=10) (fun y=>Below w44.heap.size w44 y∧RowIs y b #[.int .i64 1, .int .i64 1] 30) (by kernel_rfl) rfl rfl (fun y y1 h hb=>⟨h.1.trans (hb.mono h.1.size),h.2.below hb⟩) (fun y h=>hF47 y h.1) (fun y hy => ?_) ?_
    ·obtain ⟨⟨g1, -⟩,g2⟩:=hy
     have r4:RowIs y b #[.int .i64 0, .int .i64 0] 30:=g2
     have q0:=r4.cell 0
     have q1:=r4.cell 1
     have z0:=r4.frozen 0
     have z1:=r4.frozen 1
     have qz:=r4.lt
     simp at q0 q1
     exact ⟨(y.setCell ⟨b,0,none⟩ (.int .i64 1)).setCell ⟨b,1,none⟩ (.int .i64 1),by go_simp,(g1.setCell (p:=⟨b,0,none⟩) hb0 _).setCell (p:=⟨b,1,none⟩) hb0 _,(r4.set 0 (.int .i64 1)).set 1 (.int .i64 1)⟩
    simp only [puts]
    refine run_quiet (i:=11) (.int .i64 0) (by kernel_rfl) rfl rfl (fun y hy=>by go_simp) ?_
    simp only [puts]
    refine ⟨by kernel_rfl,fun y hy => ?_⟩
    exact fin b d1 d2 y ⟨hb0,hy.1,hy.2⟩
 clear cc45 zz46
 rintro b48 d50 d51 y49 ⟨hbb,hby,hrow⟩
 replace H1:=Lib.hid (H1.out.below hby)
 replace H2:=Lib.hid (H2.out.below hby)
 replace H3:=Lib.hid (H3.out.below hby)
 replace R1:=Lib.hid (RowIs.below R1.out hby)
 replace R2:=Lib.hid (RowIs.below R2.out hby)
 replace R3:=Lib.hid (RowIs.below R3.out hby)
 replace Q4:=Lib.hid (RowIs.below Q4.out hby)
 replace Q6:=Lib.hid (RowIs.below Q6.out hby)
 replace Q8:=Lib.hid (RowIs.below Q8.out hby)
 replace Q10:=Lib.hid (RowIs.below Q10.out hby)
 replace Q12:=Lib.hid (RowIs.below Q12.out hby)
 replace Q14:=Lib.hid (RowIs.below Q14.out hby)
 replace G16:=Lib.hid (RowIs.below G16.out hby)
 replace G18:=Lib.hid (RowIs.below G18.out hby)
 replace B1:=Lib.hid (bup B1.out hby)
 have Q20:=Lib.hid hrow
 clear hbb hby hrow
 have cc52:y49.cell? ⟨w3.heap.size,0,none⟩=some (.slice p1 2 c1):=RowIs.cell R1.out 0
 have zz53:w3.heap.size<y49.heap.size:=RowIs.lt R1.out
 go_wp2_with fail
 apply cutB2 (fun b d1 d2 y=>y49.heap.size≤b∧Below y49.heap.size y49 y∧RowIs y b #[.int .i64 0, .int .i64 0] 30)
 case main=>
  intro fin
  have hF54 : ∀ y,Below y49.heap.size y49 y→Below y49.heap.size y49 y∧y.cell? ⟨w3.heap.size,0,none⟩=some (.slice p1 2 c1):=fun y hy=>⟨hy,RowIs.cell (R1.out.below hy) 0⟩
  refine wp_region_runF (C:=fun y=>Below y49.heap.size y49 y∧y.cell? ⟨w3.heap.size,0,none⟩=some (.slice p1 2 c1)) (fun y=>Below y49.heap.size y49 y∧Has [] y) (by kernel_rfl) (stable_has y49 []) ⟨Below.refl _ _,has_nil _⟩ ?_
  change Run _ _ _ _ _ 12 _ _ _
  refine run_take (i:=0) (tabV p1 2 c1) rfl (by kernel_rfl) (by kernel_rfl) (by kernel_rfl) rfl (fun y h=>hF54 y h.1) (fun y hy=>by obtain ⟨-,q0⟩:=hy; go_simp) ?_
  simp only [puts]
  refine runX_float (x:=9) (c:=7) (tx:=22) (z:= .cells #[.int .i64 0, .int .i64 0] 30 (0,0)) (w0:=y49) (g:=4) rfl rfl rfl (fun a y=>by go_simp) (Region.noSelect_spec (by kernel_rfl)) (by kernel_rfl) (by kernel_rfl) (by decide) (fun y h=>h.1.size) 6 _ _ _ (fun _=>False) (by kernel_rfl) (fun y h=>hF54 y h.1) (fun _ _ _ h=>h.elim) ?_
  apply cutG
  case main=>
   intro tail
   refine runX_each [1,3] (by kernel_rfl) (by kernel_rfl) (by kernel_rfl) (by decide) ?_
   intro i hi
   simp only [List.mem_cons,List.not_mem_nil,or_false] at hi
   rcases hi with rfl | rfl
   ·skip
    refine atX_make (t:=104) (z:= .cells #[.int .i64 1, .int .i64 1] 2 (0,0)) (fun k=> .slice (some ⟨k,0,none⟩) 2 2) (fun _ _ h=>(sl_inj h).1) rfl rfl rfl (stable_has y49 _) (fun y h=>hF54 y h.1) (fun y _=>by go_simp) ?_
    intro d1
    simp only [Act.put,List.setIfInBounds_toArray,List.set_cons_zero,List.set_cons_succ]
    refine runX_mono _ _ _ (fun y=>Below y49.heap.size y49 y∧Has ((d1, .cells #[.int .i64 1, .int .i64 1] 2 (0,0)) :: []) y) _ _ _ ?_ (fun _ h=>h) (fun _ h=>h) ?_
    ·rintro y ⟨⟨h1,h2⟩,h3⟩
     exact ⟨h1,h2.cons h3⟩
    refine runX_each [2,3] (by kernel_rfl) (by kernel_rfl) (by kernel_rfl) (by decide) ?_
    intro i hi
    simp only [List.mem_cons,List.not_mem_nil,or_false] at hi
    rcases hi with rfl | rfl
    ·skip
     refine atX_quiet (.slice (some ⟨d1,0,none⟩) 2 2) rfl (quiet_call (args := #[.slice (some ⟨d1,0,none⟩) 2 2]) (by rfl) (fun y hy=>(Go.Conc.run_call_body (fn:=Try.f56) rfl Try.func56 (by kernel_rfl) (by kernel_rfl)).trans (by simp [Act.eval])) (fun y hy=>(longs_c _ _ _ y).mono (by rintro e y1 ⟨rfl,rfl⟩; exact ⟨rfl,Below.refl _ _⟩))) ?_
     simp only [puts]
     refine runX_each [3] (by kernel_rfl) (by kernel_rfl) (by kernel_rfl) (by decide) ?_
     intro i hi
     simp only [List.mem_cons,List.not_mem_nil,or_false] at hi
     subst hi
     refine atX_make (t:=106) (z:= .cells #[.int .i64 1, .int .i64 1] 2 (0,0)) (fun k=> .slice (some ⟨k,0,none⟩) 2 2) (fun _ _ h=>(sl_inj h).1) rfl rfl rfl (stable_has y49 _) (fun y h=>hF54 y h.1) (fun y _=>by go_simp) ?_
     intro d2
     simp only [Act.put,List.setIfInBounds_toArray,List.set_cons_zero,List.set_cons_succ]
     refine runX_mono _ _ _ (fun y=>Below y49.heap.size y49 y∧Has ((d2, .cells #[.int .i64 1, .int .i64 1] 2 (0,0)) :: (d1, .cells #[.int .i64 1, .int .i64 1] 2 (0,0)) :: []) y) _ _ _ ?_ (fun _ h=>h) (fun _ h=>h) ?_
     ·rintro y ⟨⟨h1,h2⟩,h3⟩
      exact ⟨h1,h2.cons h3⟩
     refine runX_each [4] (by kernel_rfl) (by kernel_rfl) (by kernel_rfl) (by decide) ?_
     intro i hi
     simp only [List.mem_cons,List.not_mem_nil,or_false] at hi
     subst hi
     refine atX_quiet (.slice (some ⟨d2,0,none⟩) 2 2) rfl (quiet_call (args := #[.slice (some ⟨d2,0,none⟩) 2 2]) (by rfl) (fun y hy=>(Go.Conc.run_call_body (fn:=Try.f56) rfl Try.func56 (by kernel_rfl) (by kernel_rfl)).trans (by simp [Act.eval])) (fun y hy=>(longs_c _ _ _ y).mono (by rintro e y1 ⟨rfl,rfl⟩; exact ⟨rfl,Below.refl _ _⟩))) ?_
     simp only [puts]
     exact tail d1 d2
    ·skip
     refine atX_make (t:=106) (z:= .cells #[.int .i64 1, .int .i64 1] 2 (0,0)) (fun k=> .slice (some ⟨k,0,none⟩) 2 2) (fun _ _ h=>(sl_inj h).1) rfl rfl rfl (stable_has y49 _) (fun y h=>hF54 y h.1) (fun y _=>by go_simp) ?_
     intro d2
     simp only [Act.put,List.setIfInBounds_toArray,List.set_cons_zero,List.set_cons_succ]
     refine runX_mono _ _ _ (fun y=>Below y49.heap.size y49 y∧Has ((d2, .cells #[.int .i64 1, .int .i64 1] 2 (0,0)) :: (d1, .cells #[.int .i64 1, .int .i64 1] 2 (0,0)) :: []) y) _ _ _ ?_ (fun _ h=>h) (fun _ h=>h) ?_
     ·rintro y ⟨⟨h1,h2⟩,h3⟩
      exact ⟨h1,h2.cons h3⟩
     refine runX_each [2] (by kernel_rfl) (by kernel_rfl) (by kernel_rfl) (by decide) ?_
     intro i hi
     simp only [List.mem_cons,List.not_mem_nil,or_false] at hi
     subst hi
     refine atX_quiet (.slice (some ⟨d1,0,none⟩) 2 2) rfl (quiet_call (args := #[.slice (some ⟨d1,0,none⟩) 2 2]) (by rfl) (fun y hy=>(Go.Conc.run_call_body (fn:=Try.f56) rfl Try.func56 (by kernel_rfl) (by kernel_rfl)).trans (by simp [Act.eval])) (fun y hy=>(longs_c _ _ _ y).mono (by rintro e y1 ⟨rfl,rfl⟩; exact ⟨rfl,Below.refl _ _⟩))) ?_
     simp only [puts]
     refine runX_each [4] (by kernel_rfl) (by kernel_rfl) (by kernel_rfl) (by decide) ?_
     intro i hi
     simp only [List.mem_cons,List.not_mem_nil,or_false] at hi
     subst hi
     refine atX_quiet (.slice (some ⟨d2,0,none⟩) 2 2) rfl (quiet_call (args := #[.slice (some ⟨d2,0,none⟩) 2 2]) (by rfl) (fun y hy=>(Go.Conc.run_call_body (fn:=Try.f56) rfl Try.func56 (by kernel_rfl) (by kernel_rfl)).trans (by simp [Act.eval])) (fun y hy=>(longs_c _ _ _ y).mono (by rintro e y1 ⟨rfl,rfl⟩; exact ⟨rfl,Below.refl _ _⟩))) ?_
     simp only [puts]
     exact tail d1 d2
   ·skip
    refine atX_make (t:=106) (z:= .cells #[.int .i64 1, .int .i64 1] 2 (0,0)) (fun k=> .slice (some ⟨k,0,none⟩) 2 2) (fun _ _ h=>(sl_inj h).1) rfl rfl rfl (stable_has y49 _) (fun y h=>hF54 y h.1) (fun y _=>by go_simp) ?_
    intro d2
    simp only [Act.put,List.setIfInBounds_toArray,List.set_cons_zero,List.set_cons_succ]
    refine runX_mono _ _ _ (fun y=>Below y49.heap.size y49 y∧Has ((d2, .cells #[.int .i64 1, .int .i64 1] 2 (0,0)) :: []) y) _ _ _ ?_ (fun _ h=>h) (fun _ h=>h) ?_
    ·rintro y ⟨⟨h1,h2⟩,h3⟩
     exact ⟨h1,h2.cons h3⟩
    refine runX_each [1] (by kernel_rfl) (by kernel_rfl) (by kernel_rfl) (by decide) ?_
    intro i hi
    simp only [List.mem_cons,List.not_mem_nil,or_false] at hi
    subst hi
    refine atX_make (t:=104) (z:= .cells #[.int .i64 1, .int .i64 1] 2 (0,0)) (fun k=> .slice (some ⟨k,0,none⟩) 2 2) (fun _ _ h=>(sl_inj h).1) rfl rfl rfl (stable_has y49 _) (fun y h=>hF54 y h.1) (fun y _=>by go_simp) ?_
    intro d1
    simp only [Act.put,List.setIfInBounds_toArray,List.set_cons_zero,List.set_cons_succ]
    refine runX_mono _ _ _ (fun y=>Below y49.heap.size y49 y∧Has ((d1, .cells #[.int .i64 1, .int .i64 1] 2 (0,0)) :: (d2, .cells #[.int .i64 1, .int .i64 1] 2 (0,0)) :: []) y) _ _ _ ?_ (fun _ h=>h) (fun _ h=>h) ?_
    ·rintro y ⟨⟨h1,h2⟩,h3⟩
     exact ⟨h1,h2.cons h3⟩
    refine runX_each [2] (by kernel_rfl) (by kernel_rfl) (by kernel_rfl) (by decide) ?_
    intro i hi
    simp only [List.mem_cons,List.not_mem_nil,or_false] at hi
    subst hi
    refine atX_quiet (.slice (some ⟨d1,0,none⟩) 2 2) rfl (quiet_call (args := #[.slice (some ⟨d1,0,none⟩) 2 2]) (by rfl) (fun y hy=>(Go.Conc.run_call_body (fn:=Try.f56) rfl Try.func56 (by kernel_rfl) (by kernel_rfl)).trans (by simp [Act.eval])) (fun y hy=>(longs_c _ _ _ y).mono (by rintro e y1 ⟨rfl,rfl⟩; exact ⟨rfl,Below.refl _ _⟩))) ?_
    simp only [puts]
    refine runX_each [4] (by kernel_rfl) (by kernel_rfl) (by kernel_rfl) (by decide) ?_
    intro i hi
    simp only [List.mem_cons,List.not_mem_nil,or_false] at hi
    subst hi
    refine atX_quiet (.slice (some ⟨d2,0,none⟩) 2 2) rfl (quiet_call (args := #[.slice (some ⟨d2,0,none⟩) 2 2]) (by rfl) (fun y hy=>(Go.Conc.run_call_body (fn:=Try.f56) rfl Try.func56 (by kernel_rfl) (by kernel_rfl)).trans (by simp [Act.eval])) (fun y hy=>(longs_c _ _ _ y).mono (by rintro e y1 ⟨rfl,rfl⟩; exact ⟨rfl,Below.refl _ _⟩))) ?_
    simp only [puts]
    refine runX_mono _ _ _ (fun y=>Below y49.heap.size y49 y∧Has ((d2, .cells #[.int .i64 1, .int .i64 1] 2 (0,0)) :: (d1, .cells #[.int .i64 1, .int .i64 1] 2 (0,0)) :: []) y) _ _ _ (fun y h=>⟨h.1,h.2.swap⟩) (fun _ h=>h) (fun _ h=>h) ?_
    exact tail d1 d2
  case fin=>
   intro d1 d2
   refine runX_each [5] (by kernel_rfl) (by kernel_rfl) (by kernel_rfl) (by decide) ?_
   intro i hi
   simp only [List.mem_cons,List.not_mem_nil,or_false] at hi
   subst hi
   refine atX_quiet (re2 (0,0,14)) rfl (quiet_call (fn:=27) (args := #[tabV p1 2 c1, .slice (some ⟨d1,0,none⟩) 2 2, .slice (some ⟨d2,0,none⟩) 2 2]) (by rfl) (fun y hy=>(Go.Conc.run_call_body (fn:=Try.f27) rfl Try.func27 (by kernel_rfl) (by kernel_rfl)).trans (by simp [Act.eval])) (fun y hy => ?_)) ?_
   ·obtain ⟨g1,g2⟩:=hy
    have hi0:Ints y (some ⟨d1,0,none⟩) 2 (ltN [1,1]):=ints_has [1,1] (g2 (d1, .cells #[.int .i64 1, .int .i64 1] 2 (0,0)) (by simp))
    have hi1:Ints y (some ⟨d2,0,none⟩) 2 (ltN [1,1]):=ints_has [1,1] (g2 (d2, .cells #[.int .i64 1, .int .i64 1] 2 (0,0)) (by simp))
    have hc:=CheckProof_c p1 2 c1 (mixedF x1) (some ⟨d1,0,none⟩) 2 2 (ltN [1,1]) (some ⟨d2,0,none⟩) 2 2 (ltN [1,1]) y (H1.out.below g1) (by decide) (fun _ _=>(show (2:Nat)≤1048576 by decide)) hi0 (by decide) hi1 (by decide); rw [mixed_proof2 x1] at hc
    exact hc
   simp only [puts]
   refine runX_each [6] (by kernel_rfl) (by kernel_rfl) (by kernel_rfl) (by decide) ?_
   intro i hi
   simp only [List.mem_cons,List.not_mem_nil,or_false] at hi
   subst hi
   refine atX_quiet (re2 (0,0,14)) rfl (quiet_yes _ (by rfl) (fun y hy=>by go_simp)) ?_
   simp only [puts]
   refine ⟨?_,fun b hb0 _ => ?_⟩
   ·skip
    refine run_take (i:=7) (.agg #[.int .i64 0, .int .i64 0]) rfl (by kernel_rfl) (by kernel_rfl) (by kernel_rfl) rfl (fun y h=>hF54 y h.1) (fun y hy=>by go_simp) ?_
    simp only [puts]
    refine run_take (i:=8) (.int .i64 14) rfl (by kernel_rfl) (by kernel_rfl) (by kernel_rfl) rfl (fun y h=>hF54 y h.1) (fun y hy=>by go_simp) ?_
    simp only [puts]
    refine run_only (i:=9) (by kernel_rfl) (at_make (w0:=y49) (t:=22) (z:= .cells #[.int .i64 0, .int .i64 0] 30 (0,0)) ptrTo (fun _=>False) ptrTo_inj rfl rfl rfl (fun y _=>by go_simp) (fun y h=>h.1.size) (fun _ _ _ h=>h.elim) ?_)
    intro b hb0 _
    simp only [Act.put,List.setIfInBounds_toArray,List.set_cons_zero,List.set_cons_succ]
    refine run_store (i:=10) (fun y=>Below y49.heap.size y49 y∧RowIs y b #[.int .i64 0, .int .i64 0] 30) (by kernel_rfl) rfl rfl (fun y y1 h hb=>⟨h.1.trans (hb.mono h.1.size),h.2.below hb⟩) (fun y h=>hF54 y h.1) (fun y hy => ?_) ?_
    ·obtain ⟨⟨g1, -⟩,g2⟩:=hy
     have r4:RowIs y b #[.int .i64 0, .int .i64 0] 30:=g2
     have q0:=r4.cell 0
     have q1:=r4.cell 1
     have z0:=r4.frozen 0
     have z1:=r4.frozen 1
     have qz:=r4.lt
     simp at q0 q1
     exact ⟨(y.setCell ⟨b,0,none⟩ (.int .i64 0)).setCell ⟨b,1,none⟩ (.int .i64 0),by go_simp,(g1.setCell (p:=⟨b,0,none⟩) hb0 _).setCell (p:=⟨b,1,none⟩) hb0 _,(r4.set 0 (.int .i64 0)).set 1 (.int .i64 0)⟩
    simp only [puts]
    refine run_quiet (i:=11) (.int .i64 14) (by kernel_rfl) rfl rfl (fun y hy=>by go_simp) ?_
    simp only [puts]
    refine ⟨by kernel_rfl,fun y hy => ?_⟩
    exact fin b d1 d2 y ⟨hb0,hy.1,hy.2⟩
   ·skip
    refine run_take (i:=7) (.agg #[.int .i64 0, .int .i64 0]) rfl (by kernel_rfl) (by kernel_rfl) (by kernel_rfl) rfl (fun y h=>hF54 y h.1.1) (fun y hy=>by go_simp) ?_
    simp only [puts]
    refine run_take (i:=8) (.int .i64 14) rfl (by kernel_rfl) (by kernel_rfl) (by kernel_rfl) rfl (fun y h=>hF54 y h.1.1) (fun y hy=>by go_simp) ?_
    simp only [puts]
    refine run_store (i:=10) (fun y=>Below y49.heap.size y49 y∧RowIs y b #[.int .i64 0, .int .i64 0] 30) (by kernel_rfl) rfl rfl (fun y y1 h hb=>⟨h.1.trans (hb.mono h.1.size),h.2.below hb⟩) (fun y h=>hF54 y h.1) (fun y hy => ?_) ?_
    ·obtain ⟨⟨g1, -⟩,g2⟩:=hy
     have r4:RowIs y b #[.int .i64 0, .int .i64 0] 30:=g2
     have q0:=r4.cell 0
     have q1:=r4.cell 1
     have z0:=r4.frozen 0
     have z1:=r4.frozen 1
     have qz:=r4.lt
     simp at q0 q1
     exact ⟨(y.setCell ⟨b,0,none⟩ (.int .i64 0)).setCell ⟨b,1,none⟩ (.int .i64 0),by go_simp,(g1.setCell (p:=⟨b,0,none⟩) hb0 _).setCell (p:=⟨b,1,none⟩) hb0 _,(r4.set 0 (.int .i64 0)).set 1 (.int .i64 0)⟩
    simp only [puts]
    refine run_quiet (i:=11) (.int .i64 14) (by kernel_rfl) rfl rfl (fun y hy=>by go_simp) ?_
    simp only [puts]
    refine ⟨by kernel_rfl,fun y hy => ?_⟩
    exact fin b d1 d2 y ⟨hb0,hy.1,hy.2⟩
 clear cc52 zz53
 rintro b55 d57 d58 y56 ⟨hbb,hby,hrow⟩
 replace H1:=Lib.hid (H1.out.below hby)
 replace H2:=Lib.hid (H2.out.below hby)
 replace H3:=Lib.hid (H3.out.below hby)
 replace R1:=Lib.hid (RowIs.below R1.out hby)
 replace R2:=Lib.hid (RowIs.below R2.out hby)
 replace R3:=Lib.hid (RowIs.below R3.out hby)
 replace Q4:=Lib.hid (RowIs.below Q4.out hby)
 replace Q6:=Lib.hid (RowIs.below Q6.out hby)
 replace Q8:=Lib.hid (RowIs.below Q8.out hby)
 replace Q10:=Lib.hid (RowIs.below Q10.out hby)
 replace Q12:=Lib.hid (RowIs.below Q12.out hby)
 replace Q14:=Lib.hid (RowIs.below Q14.out hby)
 replace G16:=Lib.hid (RowIs.below G16.out hby)
 replace G18:=Lib.hid (RowIs.below G18.out hby)
 replace Q20:=Lib.hid (RowIs.below Q20.out hby)
 replace B1:=Lib.hid (bup B1.out hby)
 have Q22:=Lib.hid hrow
 clear hbb hby hrow
 have cc59:y56.cell? ⟨w3.heap.size,0,none⟩=some (.slice p1 2 c1):=RowIs.cell R1.out 0
 have zz60:w3.heap.size<y56.heap.size:=RowIs.lt R1.out
 have HV:=Lib.hid (Pure_c p1 2 c1 (mixedF x1) y56 H1.out (by decide) (fun _ _=>(show (2:Nat)≤1048576 by decide)))
 go_wp2_with fail
 clear cc59 zz60
 refine HV.out.mono ?_
 rintro e w61 ⟨⟨v,rfl,hres⟩,hbq⟩
 obtain rfl:v=(0,0,19):=pure_one (hres.elim (fun h=>absurd (okay_is (mixed_ok x1)) h.1) (fun h=>h.2)) (mixed_pure x1)
 replace H1:=Lib.hid (H1.out.below hbq)
 replace H2:=Lib.hid (H2.out.below hbq)
 replace H3:=Lib.hid (H3.out.below hbq)
 replace R1:=Lib.hid (RowIs.below R1.out hbq)
 replace R2:=Lib.hid (RowIs.below R2.out hbq)
 replace R3:=Lib.hid (RowIs.below R3.out hbq)
 replace Q4:=Lib.hid (RowIs.below Q4.out hbq)
 replace Q6:=Lib.hid (RowIs.below Q6.out hbq)
 replace Q8:=Lib.hid (RowIs.below Q8.out hbq)
 replace Q10:=Lib.hid (RowIs.below Q10.out hbq)
 replace Q12:=Lib.hid (RowIs.below Q12.out hbq)
 replace Q14:=Lib.hid (RowIs.below Q14.out hbq)
 replace G16:=Lib.hid (RowIs.below G16.out hbq)
 replace G18:=Lib.hid (RowIs.below G18.out hbq)
 replace Q20:=Lib.hid (RowIs.below Q20.out hbq)
 replace Q22:=Lib.hid (RowIs.below Q22.out hbq)
 replace B1:=Lib.hid (bup B1.out hbq)
 clear hbq hres HV
 have cc62:w61.cell? ⟨w3.heap.size+1,0,none⟩=some (.slice p2 2 c2):=RowIs.cell R2.out 0
 have zz63:w3.heap.size+1<w61.heap.size:=RowIs.lt R2.out
 have HV:=Lib.hid (Pure_c p2 2 c2 (pureF x2) w61 H2.out (by decide) (fun _ _=>(show (2:Nat)≤1048576 by decide)))
 go_wp2_with fail
 clear cc62 zz63
 refine HV.out.mono ?_
 rintro e w64 ⟨⟨v,rfl,hres⟩,hbq⟩
 obtain rfl:v=(0,0,0):=pure_one (hres.elim (fun h=>absurd (okay_is (pure_ok x2)) h.1) (fun h=>h.2)) (pure_pure x2)
 replace H1:=Lib.hid (H1.out.below hbq)
 replace H2:=Lib.hid (H2.out.below hbq)
 replace H3:=Lib.hid (H3.out.below hbq)
 replace R1:=Lib.hid (RowIs.below R1.out hbq)
 replace R2:=Lib.hid (RowIs.below R2.out hbq)
 replace R3:=Lib.hid (RowIs.below R3.out hbq)
 replace Q4:=Lib.hid (RowIs.below Q4.out hbq)
 replace Q6:=Lib.hid (RowIs.below Q6.out hbq)
 replace Q8:=Lib.hid (RowIs.below Q8.out hbq)
 replace Q10:=Lib.hid (RowIs.below Q10.out hbq)
 replace Q12:=Lib.hid (RowIs.below Q12.out hbq)
 replace Q14:=Lib.hid (RowIs.below Q14.out hbq)
 replace G16:=Lib.hid (RowIs.below G16.out hbq)
 replace G18:=Lib.hid (RowIs.below G18.out hbq)
 replace Q20:=Lib.hid (RowIs.below Q20.out hbq)
 replace Q22:=Lib.hid (RowIs.below Q22.out hbq)
 replace B1:=Lib.hid (bup B1.out hbq)
 clear hbq hres HV
 have cc65:w64.cell? ⟨w3.heap.size,0,none⟩=some (.slice p1 2 c1):=RowIs.cell R1.out 0
 have zz66:w3.heap.size<w64.heap.size:=RowIs.lt R1.out
 go_wp2_with fail
 have hF67 : ∀ y,Below w64.heap.size w64 y→Below w64.heap.size w64 y∧y.cell? ⟨w3.heap.size,0,none⟩=some (.slice p1 2 c1):=fun y hy=>⟨hy,RowIs.cell (R1.out.below hy) 0⟩
 refine RC.wp_region_runF (C:=fun y=>Below w64.heap.size w64 y∧y.cell? ⟨w3.heap.size,0,none⟩=some (.slice p1 2 c1)) (fun y=>Below w64.heap.size w64 y∧Has [] y) (by kernel_rfl) (stable_has w64 []) ⟨Below.refl _ _,has_nil _⟩ ?_
 change RC.Run _ _ _ _ _ 9 _ _ _
 refine RC.run_take (i:=0) (tabV p1 2 c1) rfl (by kernel_rfl) (by kernel_rfl) (by kernel_rfl) rfl (fun y h=>hF67 y h.1) (fun y hy=>by obtain ⟨-,q0⟩:=hy; go_simp) ?_
 simp only [puts]
 refine RC.run_only (i:=1) (by kernel_rfl) (RC.at_make (w0:=w64) (t:=125) (z:= .cells #[.int .i64 1, .int .i64 1] 2 (0,0)) (fun k=> .slice (some ⟨k,0,none⟩) 2 2) (fun _=>False) (fun _ _ h=>(sl_inj h).1) rfl rfl rfl (fun y _=>by go_simp) (fun y h=>h.1.size) (fun _ _ _ h=>h.elim) ?_)
 intro d1 hd1 _
 simp only [Act.put,List.setIfInBounds_toArray,List.set_cons_zero,List.set_cons_succ]
 refine RC.run_mono _ _ _ (fun y=>Below w64.heap.size w64 y∧Has ((d1, .cells #[.int .i64 1, .int .i64 1] 2 (0,0)) :: []) y) _ ?_ ?_
 ·rintro y ⟨⟨h1,h2⟩,h3⟩
  exact ⟨h1,h2.cons h3⟩
 refine RC.run_only (i:=2) (by kernel_rfl) (RC.at_call (fun u y=>u = .slice (some ⟨d1,0,none⟩) 2 2∧Below w64.heap.size w64 y∧Has ((d1, .cells #[.int .i64 1, .int .i64 1] 2 (0,0)) :: []) y) rfl rfl (fun u y y1 h hb=>⟨h.1,h.2.1.trans (hb.mono h.2.1.size),h.2.2.below hb⟩) (fun u y h=>hF67 y h.2.1) (fun y hy => ?_) ?_)
 ·refine ⟨_, #[.slice (some ⟨d1,0,none⟩) 2 2],(Go.Conc.run_call_body (fn:=Try.f56) rfl Try.func56 (by kernel_rfl) (by kernel_rfl)).trans (by simp [Act.eval]),(longs_c _ _ _ y).mono ?_⟩
  rintro e y1 ⟨rfl,rfl⟩
  exact ⟨_,rfl,rfl,hy⟩
 rintro u ⟨_,rfl, -⟩
 simp only [puts]
 refine RC.run_mono _ _ _ (fun y=>Below w64.heap.size w64 y∧Has ((d1, .cells #[.int .i64 1, .int .i64 1] 2 (0,0)) :: []) y) _ (fun y h=>h.2) ?_
 refine RC.run_only (i:=3) (by kernel_rfl) (RC.at_call (fun u y=>Below w64.heap.size w64 y ∧ ∃ p c,u = .tuple #[.slice p 2 c, .int .i64 0]∧Lst y [0,1] p c) rfl rfl (fun u y y1 ⟨h0,p,c,e,h1⟩ hb=>⟨h0.trans (hb.mono h0.size),p,c,e,h1.below hb⟩) (fun u y h=>hF67 y h.1) (fun y hy => ?_) ?_)
 ·obtain ⟨g1,g2⟩:=hy
  have hi0:Ints y (some ⟨d1,0,none⟩) 2 (ltN [1,1]):=ints_has [1,1] (g2 (d1, .cells #[.int .i64 1, .int .i64 1] 2 (0,0)) (by simp))
  have hc:=Answers_v p1 2 c1 (mixedF x1) (some ⟨d1,0,none⟩) 2 2 (ltN [1,1]) y (H1.out.below g1) (by decide) (fun _ _=>(show (2:Nat)≤1048576 by decide)) hi0 (by decide)
  refine ⟨_, #[tabV p1 2 c1, .slice (some ⟨d1,0,none⟩) 2 2],(Go.Conc.run_call_body (fn:=Try.f33) rfl Try.func33 (by kernel_rfl) (by kernel_rfl)).trans (by simp [Act.eval]),hc.mono ?_⟩
  rintro e y1 ⟨hres,hb⟩
  obtain ⟨x,c,rfl,hl⟩:=hres.elim (fun h=>absurd (show (boundR 2 (mixedF x1) 2 (ltN [1,1])).2.2=0 by rw [mixed_bound2 x1]) h.1) (fun h=>h.2)
  have hl2:Lst y1 [0,1] x c:=by rw [← mixed_ans1 x1]; exact hl
  exact ⟨_,rfl,g1.trans (hb.mono g1.size),x,c,by rw [show (ansL (mixedF x1) 2 (mixedF x1 0).n (ltN [1,1]))=[0,1] from mixed_ans1 x1]; rfl,hl2⟩
 rintro u ⟨_, -,L30p,L30c,rfl, -⟩
 simp only [puts]
 refine RC.run_mono _ _ _ (fun y=>Below w64.heap.size w64 y∧Lst y [0,1] L30p L30c) _ ?_ ?_
 ·rintro y ⟨h1,p,c,e,h2⟩
  have e2:=tup_inj e
  obtain ⟨rfl,rfl⟩:=slV_inj e2
  exact ⟨h1,h2⟩
 refine RC.run_quiet (i:=4) (.tuple #[.slice L30p 2 L30c, .int .i64 0]) (by kernel_rfl) rfl rfl (fun y hy=>by go_simp) ?_
 simp only [puts]
 refine RC.run_take (i:=5) (.slice L30p 2 L30c) rfl (by kernel_rfl) (by kernel_rfl) (by kernel_rfl) rfl (fun y h=>hF67 y h.1) (fun y hy=>by go_simp) ?_
 simp only [puts]
 refine RC.run_take (i:=6) (.int .i64 0) rfl (by kernel_rfl) (by kernel_rfl) (by kernel_rfl) rfl (fun y h=>hF67 y h.1) (fun y hy=>by go_simp) ?_
 simp only [puts]
 refine RC.run_quiet (i:=7) (.slice L30p 2 L30c) (by kernel_rfl) rfl rfl (fun y hy=>by go_simp) ?_
 simp only [puts]
 refine RC.run_quiet (i:=8) (.int .i64 0) (by kernel_rfl) rfl rfl (fun y hy=>by go_simp) ?_
 simp only [puts]
 refine ⟨by kernel_rfl,fun y hy => ?_⟩
 clear cc65 zz66
 obtain ⟨hby,hlst⟩:=hy
 obtain ⟨y68,hy68⟩ : ∃ y68:World,y68=y:=⟨_,rfl⟩
 subst hy68
 replace H1:=Lib.hid (H1.out.below hby)
 replace H2:=Lib.hid (H2.out.below hby)
 replace H3:=Lib.hid (H3.out.below hby)
 replace R1:=Lib.hid (RowIs.below R1.out hby)
 replace R2:=Lib.hid (RowIs.below R2.out hby)
 replace R3:=Lib.hid (RowIs.below R3.out hby)
 replace Q4:=Lib.hid (RowIs.below Q4.out hby)
 replace Q6:=Lib.hid (RowIs.below Q6.out hby)
 replace Q8:=Lib.hid (RowIs.below Q8.out hby)
 replace Q10:=Lib.hid (RowIs.below Q10.out hby)
 replace Q12:=Lib.hid (RowIs.below Q12.out hby)
 replace Q14:=Lib.hid (RowIs.below Q14.out hby)
 replace G16:=Lib.hid (RowIs.below G16.out hby)
 replace G18:=Lib.hid (RowIs.below G18.out hby)
 replace Q20:=Lib.hid (RowIs.below Q20.out hby)
 replace Q22:=Lib.hid (RowIs.below Q22.out hby)
 replace B1:=Lib.hid (bup B1.out hby)
 have L30:=Lib.hid hlst
 clear hby hlst hF67
 have cc69:y68.cell? ⟨w3.heap.size,0,none⟩=some (.slice p1 2 c1):=RowIs.cell R1.out 0
 have zz70:w3.heap.size<y68.heap.size:=RowIs.lt R1.out
 go_wp2_with fail
 have hF71 : ∀ y,Below y68.heap.size y68 y→Below y68.heap.size y68 y∧y.cell? ⟨w3.heap.size,0,none⟩=some (.slice p1 2 c1):=fun y hy=>⟨hy,RowIs.cell (R1.out.below hy) 0⟩
 refine RC.wp_region_runF (C:=fun y=>Below y68.heap.size y68 y∧y.cell? ⟨w3.heap.size,0,none⟩=some (.slice p1 2 c1)) (fun y=>Below y68.heap.size y68 y∧Has [] y) (by kernel_rfl) (stable_has y68 []) ⟨Below.refl _ _,has_nil _⟩ ?_
 change RC.Run _ _ _ _ _ 9 _ _ _
 refine RC.run_take (i:=0) (tabV p1 2 c1) rfl (by kernel_rfl) (by kernel_rfl) (by kernel_rfl) rfl (fun y h=>hF71 y h.1) (fun y hy=>by obtain ⟨-,q0⟩:=hy; go_simp) ?_
 simp only [puts]
 refine RC.run_only (i:=1) (by kernel_rfl) (RC.at_make (w0:=y68) (t:=132) (z:= .cells #[.int .i64 3, .int .i64 1] 2 (0,0)) (fun k=> .slice (some ⟨k,0,none⟩) 2 2) (fun _=>False) (fun _ _ h=>(sl_inj h).1) rfl rfl rfl (fun y _=>by go_simp) (fun y h=>h.1.size) (fun _ _ _ h=>h.elim) ?_)
 intro d1 hd1 _
 simp only [Act.put,List.setIfInBounds_toArray,List.set_cons_zero,List.set_cons_succ]
 refine RC.run_mono _ _ _ (fun y=>Below y68.heap.size y68 y∧Has ((d1, .cells #[.int .i64 3, .int .i64 1] 2 (0,0)) :: []) y) _ ?_ ?_
 ·rintro y ⟨⟨h1,h2⟩,h3⟩
  exact ⟨h1,h2.cons h3⟩
 refine RC.run_only (i:=2) (by kernel_rfl) (RC.at_call (fun u y=>u = .slice (some ⟨d1,0,none⟩) 2 2∧Below y68.heap.size y68 y∧Has ((d1, .cells #[.int .i64 3, .int .i64 1] 2 (0,0)) :: []) y) rfl rfl (fun u y y1 h hb=>⟨h.1,h.2.1.trans (hb.mono h.2.1.size),h.2.2.below hb⟩) (fun u y h=>hF71 y h.2.1) (fun y hy => ?_) ?_)
 ·refine ⟨_, #[.slice (some ⟨d1,0,none⟩) 2 2],(Go.Conc.run_call_body (fn:=Try.f56) rfl Try.func56 (by kernel_rfl) (by kernel_rfl)).trans (by simp [Act.eval]),(longs_c _ _ _ y).mono ?_⟩
  rintro e y1 ⟨rfl,rfl⟩
  exact ⟨_,rfl,rfl,hy⟩
 rintro u ⟨_,rfl, -⟩
 simp only [puts]
 refine RC.run_mono _ _ _ (fun y=>Below y68.heap.size y68 y∧Has ((d1, .cells #[.int .i64 3, .int .i64 1] 2 (0,0)) :: []) y) _ (fun y h=>h.2) ?_
 refine RC.run_only (i:=3) (by kernel_rfl) (RC.at_call (fun u y=>Below y68.heap.size y68 y ∧ ∃ p c,u = .tuple #[.slice p 1 c, .int .i64 0]∧Lst y [0] p c) rfl rfl (fun u y y1 ⟨h0,p,c,e,h1⟩ hb=>⟨h0.trans (hb.mono h0.size),p,c,e,h1.below hb⟩) (fun u y h=>hF71 y h.1) (fun y hy => ?_) ?_)
 ·obtain ⟨g1,g2⟩:=hy
  have hi0:Ints y (some ⟨d1,0,none⟩) 2 (ltN [3,1]):=ints_has [3,1] (g2 (d1, .cells #[.int .i64 3, .int .i64 1] 2 (0,0)) (by simp))
  have hc:=Answers_v p1 2 c1 (mixedF x1) (some ⟨d1,0,none⟩) 2 2 (ltN [3,1]) y (H1.out.below g1) (by decide) (fun _ _=>(show (2:Nat)≤1048576 by decide)) hi0 (by decide)
  refine ⟨_, #[tabV p1 2 c1, .slice (some ⟨d1,0,none⟩) 2 2],(Go.Conc.run_call_body (fn:=Try.f33) rfl Try.func33 (by kernel_rfl) (by kernel_rfl)).trans (by simp [Act.eval]),hc.mono ?_⟩
  rintro e y1 ⟨hres,hb⟩
  obtain ⟨x,c,rfl,hl⟩:=hres.elim (fun h=>absurd (mixed_bound3 x1) h.1) (fun h=>h.2)
  have hl2:Lst y1 [0] x c:=by rw [← mixed_ans2 x1]; exact hl
  exact ⟨_,rfl,g1.trans (hb.mono g1.size),x,c,by rw [show (ansL (mixedF x1) 2 (mixedF x1 0).n (ltN [3,1]))=[0] from mixed_ans2 x1]; rfl,hl2⟩
 rintro u ⟨_, -,L32p,L32c,rfl, -⟩
 simp only [puts]
 refine RC.run_mono _ _ _ (fun y=>Below y68.heap.size y68 y∧Lst y [0] L32p L32c) _ ?_ ?_
 ·rintro y ⟨h1,p,c,e,h2⟩
  have e2:=tup_inj e
  obtain ⟨rfl,rfl⟩:=slV_inj e2
  exact ⟨h1,h2⟩
 refine RC.run_quiet (i:=4) (.tuple #[.slice L32p 1 L32c, .int .i64 0]) (by kernel_rfl) rfl rfl (fun y hy=>by go_simp) ?_
 simp only [puts]
 refine RC.run_take (i:=5) (.slice L32p 1 L32c) rfl (by kernel_rfl) (by kernel_rfl) (by kernel_rfl) rfl (fun y h=>hF71 y h.1) (fun y hy=>by go_simp) ?_
 simp only [puts]
 refine RC.run_take (i:=6) (.int .i64 0) rfl (by kernel_rfl) (by kernel_rfl) (by kernel_rfl) rfl (fun y h=>hF71 y h.1) (fun y hy=>by go_simp) ?_
 simp only [puts]
 refine RC.run_quiet (i:=7) (.slice L32p 1 L32c) (by kernel_rfl) rfl rfl (fun y hy=>by go_simp) ?_
 simp only [puts]
 refine RC.run_quiet (i:=8) (.int .i64 0) (by kernel_rfl) rfl rfl (fun y hy=>by go_simp) ?_
 simp only [puts]
 refine ⟨by kernel_rfl,fun y hy => ?_⟩
 clear cc69 zz70
 obtain ⟨hby,hlst⟩:=hy
 obtain ⟨y72,hy72⟩ : ∃ y72:World,y72=y:=⟨_,rfl⟩
 subst hy72
 replace H1:=Lib.hid (H1.out.below hby)
 replace H2:=Lib.hid (H2.out.below hby)
 replace H3:=Lib.hid (H3.out.below hby)
 replace R1:=Lib.hid (RowIs.below R1.out hby)
 replace R2:=Lib.hid (RowIs.below R2.out hby)
 replace R3:=Lib.hid (RowIs.below R3.out hby)
 replace Q4:=Lib.hid (RowIs.below Q4.out hby)
 replace Q6:=Lib.hid (RowIs.below Q6.out hby)
 replace Q8:=Lib.hid (RowIs.below Q8.out hby)
 replace Q10:=Lib.hid (RowIs.below Q10.out hby)
 replace Q12:=Lib.hid (RowIs.below Q12.out hby)
 replace Q14:=Lib.hid (RowIs.below Q14.out hby)
 replace G16:=Lib.hid (RowIs.below G16.out hby)
 replace G18:=Lib.hid (RowIs.below G18.out hby)
 replace Q20:=Lib.hid (RowIs.below Q20.out hby)
 replace Q22:=Lib.hid (RowIs.below Q22.out hby)
 replace L30:=Lib.hid (L30.out.below hby)
 replace B1:=Lib.hid (bup B1.out hby)
 have L32:=Lib.hid hlst
 clear hby hlst hF71
 have cc73:y72.cell? ⟨w3.heap.size+1,0,none⟩=some (.slice p2 2 c2):=RowIs.cell R2.out 0
 have zz74:w3.heap.size+1<y72.heap.size:=RowIs.lt R2.out
 have HV:=Lib.hid (Used_v p2 2 c2 (pureF x2) y72 H2.out (by decide) (fun _ _=>(show (2:Nat)≤1048576 by decide)))
 go_wp2_with fail
 clear cc73 zz74
 refine HV.out.mono ?_
 rintro e w75 ⟨hres,hbq⟩
 obtain ⟨u1,k1,u2,k2,rfl,hl1,hl2⟩:=hres.elim (fun h=>absurd (okay_is (pure_ok x2)) h.1) (fun h=>h.2)
 replace H1:=Lib.hid (H1.out.below hbq)
 replace H2:=Lib.hid (H2.out.below hbq)
 replace H3:=Lib.hid (H3.out.below hbq)
 replace R1:=Lib.hid (RowIs.below R1.out hbq)
 replace R2:=Lib.hid (RowIs.below R2.out hbq)
 replace R3:=Lib.hid (RowIs.below R3.out hbq)
 replace Q4:=Lib.hid (RowIs.below Q4.out hbq)
 replace Q6:=Lib.hid (RowIs.below Q6.out hbq)
 replace Q8:=Lib.hid (RowIs.below Q8.out hbq)
 replace Q10:=Lib.hid (RowIs.below Q10.out hbq)
 replace Q12:=Lib.hid (RowIs.below Q12.out hbq)
 replace Q14:=Lib.hid (RowIs.below Q14.out hbq)
 replace G16:=Lib.hid (RowIs.below G16.out hbq)
 replace G18:=Lib.hid (RowIs.below G18.out hbq)
 replace Q20:=Lib.hid (RowIs.below Q20.out hbq)
 replace Q22:=Lib.hid (RowIs.below Q22.out hbq)
 replace L30:=Lib.hid (L30.out.below hbq)
 replace L32:=Lib.hid (L32.out.below hbq)
 replace B1:=Lib.hid (bup B1.out hbq)
 have L34:=Lib.hid (show Lst w75 [0] u1 k1 by rw [← pure_used]; exact hl1)
 have L35:=Lib.hid (show Lst w75 [0] u2 k2 by rw [← pure_usedf]; exact hl2)
 rw [show usedC (lossA (pureF x2)) 2 (pureF x2 0).n=[0] from pure_used,show usedC (flip (lossA (pureF x2))) (pureF x2 0).n 2=[0] from pure_usedf]
 clear hbq hres HV hl1 hl2
 have cc76:w75.cell? ⟨w3.heap.size+1,0,none⟩=some (.slice p2 2 c2):=RowIs.cell R2.out 0
 have zz77:w3.heap.size+1<w75.heap.size:=RowIs.lt R2.out
 have HV:=Lib.hid (Left_v p2 2 c2 (pureF x2) w75 H2.out (by decide) (fun _ _=>(show (2:Nat)≤1048576 by decide)))
 go_wp2_with fail
 clear cc76 zz77
 refine HV.out.mono ?_
 rintro e w78 ⟨hres,hbq⟩
 obtain ⟨u3,k3,u4,k4,rfl,hl1,hl2⟩:=hres.elim (fun h=>absurd (okay_is (pure_ok x2)) h.1) (fun h=>h.2)
 replace H1:=Lib.hid (H1.out.below hbq)
 replace H2:=Lib.hid (H2.out.below hbq)
 replace H3:=Lib.hid (H3.out.below hbq)
 replace R1:=Lib.hid (RowIs.below R1.out hbq)
 replace R2:=Lib.hid (RowIs.below R2.out hbq)
 replace R3:=Lib.hid (RowIs.below R3.out hbq)
 replace Q4:=Lib.hid (RowIs.below Q4.out hbq)
 replace Q6:=Lib.hid (RowIs.below Q6.out hbq)
 replace Q8:=Lib.hid (RowIs.below Q8.out hbq)
 replace Q10:=Lib.hid (RowIs.below Q10.out hbq)
 replace Q12:=Lib.hid (RowIs.below Q12.out hbq)
 replace Q14:=Lib.hid (RowIs.below Q14.out hbq)
 replace G16:=Lib.hid (RowIs.below G16.out hbq)
 replace G18:=Lib.hid (RowIs.below G18.out hbq)
 replace Q20:=Lib.hid (RowIs.below Q20.out hbq)
 replace Q22:=Lib.hid (RowIs.below Q22.out hbq)
 replace L30:=Lib.hid (L30.out.below hbq)
 replace L32:=Lib.hid (L32.out.below hbq)
 replace L34:=Lib.hid (L34.out.below hbq)
 replace L35:=Lib.hid (L35.out.below hbq)
 replace B1:=Lib.hid (bup B1.out hbq)
 have hlf:=pure_left x2
 have L37:=Lib.hid (show Lst w78 [0] u3 k3 by have:=hl1; rw [show leftR (pureF x2) 2 (pureF x2 0).n=([0],[0]) from hlf] at this; exact this)
 have L38:=Lib.hid (show Lst w78 [0] u4 k4 by have:=hl2; rw [show leftR (pureF x2) 2 (pureF x2 0).n=([0],[0]) from hlf] at this; exact this)
 rw [show leftR (pureF x2) 2 (pureF x2 0).n=([0],[0]) from hlf]
 clear hbq hres HV hl1 hl2 hlf
 have cc79:w78.cell? ⟨w3.heap.size,0,none⟩=some (.slice p1 2 c1):=RowIs.cell R1.out 0
 have zz80:w3.heap.size<w78.heap.size:=RowIs.lt R1.out
 have hV:=rCheckProof_c p1 2 c1 (mixedF x1) (some ⟨gr,0,none⟩) 2 2 xr (some ⟨gk,0,none⟩) 2 2 xk w78 H1.out (by decide) (rowA_ints G16.out) (by decide) (rowA_ints G18.out) (by decide)
 have hpv:proofR 2 (mixedF x1) 2 xr 2 xk=(1,1,0):=by
  have hq:Bounds (lossA (mixedF x1)) 2 2 xk (valOf (lossA (mixedF x1)) 2 2).1 (valOf (lossA (mixedF x1)) 2 2).2:=best_bounds (mixed_ok x1) BC.out
  have:=proof_val (mixed_ok x1) BR.out.sure hq (fun i hi=>by have:=(BR.out.few i hi).2; omega) (fun i hi=>by have:=(BC.out.few i hi).2; omega)
  rw [this,mixed_A,mixed_v]
 rw [hpv] at hV
 have HV:=Lib.hid hV
 clear hV hpv
 go_wp2_with fail
 clear cc79 zz80
 refine (HV.out).mono ?_
 rintro e w81 ⟨rfl,hbq⟩
 replace H1:=Lib.hid (H1.out.below hbq)
 replace H2:=Lib.hid (H2.out.below hbq)
 replace H3:=Lib.hid (H3.out.below hbq)
 replace R1:=Lib.hid (RowIs.below R1.out hbq)
 replace R2:=Lib.hid (RowIs.below R2.out hbq)
 replace R3:=Lib.hid (RowIs.below R3.out hbq)
 replace Q4:=Lib.hid (RowIs.below Q4.out hbq)
 replace Q6:=Lib.hid (RowIs.below Q6.out hbq)
 replace Q8:=Lib.hid (RowIs.below Q8.out hbq)
 replace Q10:=Lib.hid (RowIs.below Q10.out hbq)
 replace Q12:=Lib.hid (RowIs.below Q12.out hbq)
 replace Q14:=Lib.hid (RowIs.below Q14.out hbq)
 replace G16:=Lib.hid (RowIs.below G16.out hbq)
 replace G18:=Lib.hid (RowIs.below G18.out hbq)
 replace Q20:=Lib.hid (RowIs.below Q20.out hbq)
 replace Q22:=Lib.hid (RowIs.below Q22.out hbq)
 replace L30:=Lib.hid (L30.out.below hbq)
 replace L32:=Lib.hid (L32.out.below hbq)
 replace L34:=Lib.hid (L34.out.below hbq)
 replace L35:=Lib.hid (L35.out.below hbq)
 replace L37:=Lib.hid (L37.out.below hbq)
 replace L38:=Lib.hid (L38.out.below hbq)
 replace B1:=Lib.hid (bup B1.out hbq)
 clear hbq
 clear HV
 obtain ⟨Y82,hY82⟩ : ∃ Y82,w81.alloc (.cells #[.int .i64 1, .int .i64 1] 30)=Y82:=⟨_,rfl⟩
 have hb83:Below w81.heap.size w81 Y82:=by rw [← hY82]; exact Below.alloc1 (Below.refl _ _) _ (Nat.le_refl _)
 have hr84:RowIs Y82 w81.heap.size #[.int .i64 1, .int .i64 1] 30:=by rw [← hY82]; exact heap_new_at _ _ _ rfl
 replace H1:=Lib.hid (H1.out.below hb83)
 replace H2:=Lib.hid (H2.out.below hb83)
 replace H3:=Lib.hid (H3.out.below hb83)
 replace R1:=Lib.hid (RowIs.below R1.out hb83)
 replace R2:=Lib.hid (RowIs.below R2.out hb83)
 replace R3:=Lib.hid (RowIs.below R3.out hb83)
 replace Q4:=Lib.hid (RowIs.below Q4.out hb83)
 replace Q6:=Lib.hid (RowIs.below Q6.out hb83)
 replace Q8:=Lib.hid (RowIs.below Q8.out hb83)
 replace Q10:=Lib.hid (RowIs.below Q10.out hb83)
 replace Q12:=Lib.hid (RowIs.below Q12.out hb83)
 replace Q14:=Lib.hid (RowIs.below Q14.out hb83)
 replace G16:=Lib.hid (RowIs.below G16.out hb83)
 replace G18:=Lib.hid (RowIs.below G18.out hb83)
 replace Q20:=Lib.hid (RowIs.below Q20.out hb83)
 replace Q22:=Lib.hid (RowIs.below Q22.out hb83)
 replace L30:=Lib.hid (L30.out.below hb83)
 replace L32:=Lib.hid (L32.out.below hb83)
 replace L34:=Lib.hid (L34.out.below hb83)
 replace L35:=Lib.hid (L35.out.below hb83)
 replace L37:=Lib.hid (L37.out.below hb83)
 replace L38:=Lib.hid (L38.out.below hb83)
 replace B1:=Lib.hid (bup B1.out hb83)
 have Q40:=Lib.hid hr84
 clear hb83 hr84
 have HY0:=Lib.hid (fun x=>by_c 1 1 x)
 have HY1:=Lib.hid (fun x=>by_c 4 1 x)
 have HY2:=Lib.hid (fun x=>by_c 0 1 x)
 go_wp2_with fail
 clear hY82
 refine wp_region_runF (C:=fun y=>Below Y82.heap.size Y82 y) (fun y=>Below Y82.heap.size Y82 y) (by kernel_rfl) (stable_below Y82) (Below.refl _ _) ?_
 change Run _ _ _ _ _ 77 _ _ _
 refine run_gen fun A0 h0 => ?_
 have s0:A0.tmps.size=294:=by rw [h0]; rfl
 have df0:A0.defers=[]:=by rw [h0]
 have e4:A0.eval (.tmp 4) = .pointer (some ⟨b4,0,none⟩):=by rw [h0]; rfl
 have e10:A0.eval (.tmp 10) = .pointer (some ⟨b22,0,none⟩):=by rw [h0]; rfl
 have e12:A0.eval (.tmp 12) = .pointer (some ⟨w27.heap.size,0,none⟩):=by rw [h0]; rfl
 have e14:A0.eval (.tmp 14) = .pointer (some ⟨w34.heap.size,0,none⟩):=by rw [h0]; rfl
 have e20:A0.eval (.tmp 20) = .pointer (some ⟨b48,0,none⟩):=by rw [h0]; rfl
 have e40:A0.eval (.tmp 40) = .pointer (some ⟨w81.heap.size,0,none⟩):=by rw [h0]; rfl
 have e41:A0.eval (.tmp 41) = .int .i64 0:=by rw [h0]; rfl
 have e27:A0.eval (.tmp 27) = .int .i64 0:=by rw [h0]; rfl
 have e28:A0.eval (.tmp 28) = .int .i64 0:=by rw [h0]; rfl
 have e30:A0.eval (.tmp 30) = .slice L30p 2 L30c:=by rw [h0]; rfl
 have e32:A0.eval (.tmp 32) = .slice L32p 1 L32c:=by rw [h0]; rfl
 have e34:A0.eval (.tmp 34) = .slice u1 1 k1:=by rw [h0]; rfl
 have e35:A0.eval (.tmp 35) = .slice u2 1 k2:=by rw [h0]; rfl
 have e37:A0.eval (.tmp 37) = .slice u3 1 k3:=by rw [h0]; rfl
 have e38:A0.eval (.tmp 38) = .slice u4 1 k4:=by rw [h0]; rfl
 clear h0
 refine run_takeG (i:=0) (.agg #[.int .i64 1, .int .i64 1]) rfl (by kernel_rfl) (by kernel_rfl) (by kernel_rfl) (fun y h=>h) (quiet_yes _ (wanted_none rfl) fun y hy=>x_load rfl (by repeat (first | exact e4 | refine ev_o (by assumption) rfl ?_)) y (RowIs.cell (Q4.out.below hy) 0) (RowIs.cell (Q4.out.below hy) 1) (RowIs.lt (Q4.out.below hy))) ?_
 refine run_gen fun A1 hh => ?_
 have h1:A1=A0.put (some 218) (.agg #[.int .i64 1, .int .i64 1]):=hh
 have s1:A1.tmps.size=294:=by rw [h1,sz_put]; exact s0
 have e218:A1.eval (.tmp 218) = .agg #[.int .i64 1, .int .i64 1]:=by rw [h1]; exact ev_same (by rw [s0]; decide)
 clear hh
 refine run_takeG (i:=1) (.agg #[.int .i64 1, .int .i64 1]) rfl (by kernel_rfl) (by kernel_rfl) (by kernel_rfl) (fun y h=>h) (quiet_call (fn:=45) (args := #[.int .i64 1, .int .i64 1]) (wanted_none rfl) (fun y hy=>(Go.Conc.run_call_body (fn:=Try.f45) rfl Try.func45 (by kernel_rfl) (by kernel_rfl)).trans (by simp [Act.eval])) (fun y hy=>HY0.out y)) ?_
 refine run_gen fun A2 hh => ?_
 have h2:A2=A1.put (some 219) (.agg #[.int .i64 1, .int .i64 1]):=hh
 have s2:A2.tmps.size=294:=by rw [h2,sz_put]; exact s1
 have e219:A2.eval (.tmp 219) = .agg #[.int .i64 1, .int .i64 1]:=by rw [h2]; exact ev_same (by rw [s1]; decide)
 clear hh
 refine run_takeG (i:=2) (.bool true) rfl (by kernel_rfl) (by kernel_rfl) (by kernel_rfl) (fun y h=>h) (quiet_yes _ (wanted_none rfl) fun y hy=>x_eqR 1 1 rfl (by repeat (first | exact e218 | refine ev_o (by assumption) rfl ?_)) (by repeat (first | exact e219 | refine ev_o (by assumption) rfl ?_)) y) ?_
 refine run_gen fun A3 hh => ?_
 have h3:A3=A2.put (some 220) (.bool true):=hh
 have s3:A3.tmps.size=294:=by rw [h3,sz_put]; exact s2
 have e220:A3.eval (.tmp 220) = .bool true:=by rw [h3]; exact ev_same (by rw [s2]; decide)
 clear hh
 refine run_takeG (i:=3) (.bool true) rfl (by kernel_rfl) (by kernel_rfl) (by kernel_rfl) (fun y h=>h) (quiet_yes _ (wanted_none rfl) fun y hy=>x_move rfl (by repeat (first | exact e220 | refine ev_o (by assumption) rfl ?_)) y) ?_
 refine run_gen fun A4 hh => ?_
 have h4:A4=A3.put (some 221) (.bool true):=hh
 have s4:A4.tmps.size=294:=by rw [h4,sz_put]; exact s3
 have e221:A4.eval (.tmp 221) = .bool true:=by rw [h4]; exact ev_same (by rw [s3]; decide)
 clear hh
 refine run_takeG (i:=4) (.agg #[.int .i64 4, .int .i64 1]) rfl (by kernel_rfl) (by kernel_rfl) (by kernel_rfl) (fun y h=>h) (quiet_yes _ (wanted_yes (t:=221) rfl rfl (by rw [s4]; decide) (by repeat (first | exact e221 | refine ev_o (by assumption) rfl ?_))) fun y hy=>x_load rfl (by repeat (first | exact e10 | refine ev_o (by assumption) rfl ?_)) y (RowIs.cell (Q10.out.below hy) 0) (RowIs.cell (Q10.out.below hy) 1) (RowIs.lt (Q10.out.below hy))) ?_
 refine run_gen fun A5 hh => ?_
 have h5:A5=A4.put (some 222) (.agg #[.int .i64 4, .int .i64 1]):=hh
 have s5:A5.tmps.size=294:=by rw [h5,sz_put]; exact s4
 have e222:A5.eval (.tmp 222) = .agg #[.int .i64 4, .int .i64 1]:=by rw [h5]; exact ev_same (by rw [s4]; decide)
 clear hh
 refine run_takeG (i:=5) (.agg #[.int .i64 4, .int .i64 1]) rfl (by kernel_rfl) (by kernel_rfl) (by kernel_rfl) (fun y h=>h) (quiet_call (fn:=45) (args := #[.int .i64 4, .int .i64 1]) (wanted_yes (t:=221) rfl rfl (by rw [s5]; decide) (by repeat (first | exact e221 | refine ev_o (by assumption) rfl ?_))) (fun y hy=>(Go.Conc.run_call_body (fn:=Try.f45) rfl Try.func45 (by kernel_rfl) (by kernel_rfl)).trans (by simp [Act.eval])) (fun y hy=>HY1.out y)) ?_
 refine run_gen fun A6 hh => ?_
 have h6:A6=A5.put (some 223) (.agg #[.int .i64 4, .int .i64 1]):=hh
 have s6:A6.tmps.size=294:=by rw [h6,sz_put]; exact s5
 have e223:A6.eval (.tmp 223) = .agg #[.int .i64 4, .int .i64 1]:=by rw [h6]; exact ev_same (by rw [s5]; decide)
 clear hh
 refine run_takeG (i:=6) (.bool true) rfl (by kernel_rfl) (by kernel_rfl) (by kernel_rfl) (fun y h=>h) (quiet_yes _ (wanted_yes (t:=221) rfl rfl (by rw [s6]; decide) (by repeat (first | exact e221 | refine ev_o (by assumption) rfl ?_))) fun y hy=>x_eqR 4 1 rfl (by repeat (first | exact e222 | refine ev_o (by assumption) rfl ?_)) (by repeat (first | exact e223 | refine ev_o (by assumption) rfl ?_)) y) ?_
 refine run_gen fun A7 hh => ?_
 have h7:A7=A6.put (some 224) (.bool true):=hh
 have s7:A7.tmps.size=294:=by rw [h7,sz_put]; exact s6
 have e224:A7.eval (.tmp 224) = .bool true:=by rw [h7]; exact ev_same (by rw [s6]; decide)
 clear hh
 refine run_takeG (i:=7) (.bool true) rfl (by kernel_rfl) (by kernel_rfl) (by kernel_rfl) (fun y h=>h) (quiet_yes _ (wanted_none rfl) fun y hy=>x_pick rfl (by repeat (first | exact e221 | refine ev_o (by assumption) rfl ?_)) (by repeat (first | exact e224 | refine ev_o (by assumption) rfl ?_)) y) ?_
 refine run_gen fun A8 hh => ?_
 have h8:A8=A7.put (some 225) (.bool true):=hh
 have s8:A8.tmps.size=294:=by rw [h8,sz_put]; exact s7
 have e225:A8.eval (.tmp 225) = .bool true:=by rw [h8]; exact ev_same (by rw [s7]; decide)
 clear hh
 refine run_takeG (i:=8) (.bool true) rfl (by kernel_rfl) (by kernel_rfl) (by kernel_rfl) (fun y h=>h) (quiet_yes _ (wanted_none rfl) fun y hy=>x_move rfl (by repeat (first | exact e225 | refine ev_o (by assumption) rfl ?_)) y) ?_
 refine run_gen fun A9 hh => ?_
 have h9:A9=A8.put (some 226) (.bool true):=hh
 have s9:A9.tmps.size=294:=by rw [h9,sz_put]; exact s8
 have e226:A9.eval (.tmp 226) = .bool true:=by rw [h9]; exact ev_same (by rw [s8]; decide)
 clear hh
 refine run_takeG (i:=9) (.agg #[.int .i64 1, .int .i64 1]) rfl (by kernel_rfl) (by kernel_rfl) (by kernel_rfl) (fun y h=>h) (quiet_yes _ (wanted_yes (t:=226) rfl rfl (by rw [s9]; decide) (by repeat (first | exact e226 | refine ev_o (by assumption) rfl ?_))) fun y hy=>x_load rfl (by repeat (first | exact e12 | refine ev_o (by assumption) rfl ?_)) y (RowIs.cell (Q12.out.below hy) 0) (RowIs.cell (Q12.out.below hy) 1) (RowIs.lt (Q12.out.below hy))) ?_
 refine run_gen fun A10 hh => ?_
 have h10:A10=A9.put (some 227) (.agg #[.int .i64 1, .int .i64 1]):=hh
 have s10:A10.tmps.size=294:=by rw [h10,sz_put]; exact s9
 have e227:A10.eval (.tmp 227) = .agg #[.int .i64 1, .int .i64 1]:=by rw [h10]; exact ev_same (by rw [s9]; decide)
 clear hh
 refine run_takeG (i:=10) (.agg #[.int .i64 1, .int .i64 1]) rfl (by kernel_rfl) (by kernel_rfl) (by kernel_rfl) (fun y h=>h) (quiet_yes _ (wanted_yes (t:=226) rfl rfl (by rw [s10]; decide) (by repeat (first | exact e226 | refine ev_o (by assumption) rfl ?_))) fun y hy=>x_load rfl (by repeat (first | exact e4 | refine ev_o (by assumption) rfl ?_)) y (RowIs.cell (Q4.out.below hy) 0) (RowIs.cell (Q4.out.below hy) 1) (RowIs.lt (Q4.out.below hy))) ?_
 refine run_gen fun A11 hh => ?_
 have h11:A11=A10.put (some 228) (.agg #[.int .i64 1, .int .i64 1]):=hh
 have s11:A11.tmps.size=294:=by rw [h11,sz_put]; exact s10
 have e228:A11.eval (.tmp 228) = .agg #[.int .i64 1, .int .i64 1]:=by rw [h11]; exact ev_same (by rw [s10]; decide)
 clear hh
 refine run_takeG (i:=11) (.bool true) rfl (by kernel_rfl) (by kernel_rfl) (by kernel_rfl) (fun y h=>h) (quiet_yes _ (wanted_yes (t:=226) rfl rfl (by rw [s11]; decide) (by repeat (first | exact e226 | refine ev_o (by assumption) rfl ?_))) fun y hy=>x_eqR 1 1 rfl (by repeat (first | exact e227 | refine ev_o (by assumption) rfl ?_)) (by repeat (first | exact e228 | refine ev_o (by assumption) rfl ?_)) y) ?_
 refine run_gen fun A12 hh => ?_
 have h12:A12=A11.put (some 229) (.bool true):=hh
 have s12:A12.tmps.size=294:=by rw [h12,sz_put]; exact s11
 have e229:A12.eval (.tmp 229) = .bool true:=by rw [h12]; exact ev_same (by rw [s11]; decide)
 clear hh
 refine run_takeG (i:=12) (.bool true) rfl (by kernel_rfl) (by kernel_rfl) (by kernel_rfl) (fun y h=>h) (quiet_yes _ (wanted_none rfl) fun y hy=>x_pick rfl (by repeat (first | exact e226 | refine ev_o (by assumption) rfl ?_)) (by repeat (first | exact e229 | refine ev_o (by assumption) rfl ?_)) y) ?_
 refine run_gen fun A13 hh => ?_
 have h13:A13=A12.put (some 230) (.bool true):=hh
 have s13:A13.tmps.size=294:=by rw [h13,sz_put]; exact s12
 have e230:A13.eval (.tmp 230) = .bool true:=by rw [h13]; exact ev_same (by rw [s12]; decide)
 clear hh
 refine run_takeG (i:=13) (.bool true) rfl (by kernel_rfl) (by kernel_rfl) (by kernel_rfl) (fun y h=>h) (quiet_yes _ (wanted_none rfl) fun y hy=>x_move rfl (by repeat (first | exact e230 | refine ev_o (by assumption) rfl ?_)) y) ?_
 refine run_gen fun A14 hh => ?_
 have h14:A14=A13.put (some 231) (.bool true):=hh
 have s14:A14.tmps.size=294:=by rw [h14,sz_put]; exact s13
 have e231:A14.eval (.tmp 231) = .bool true:=by rw [h14]; exact ev_same (by rw [s13]; decide)
 clear hh
 refine run_takeG (i:=14) (.agg #[.int .i64 0, .int .i64 1]) rfl (by kernel_rfl) (by kernel_rfl) (by kernel_rfl) (fun y h=>h) (quiet_yes _ (wanted_yes (t:=231) rfl rfl (by rw [s14]; decide) (by repeat (first | exact e231 | refine ev_o (by assumption) rfl ?_))) fun y hy=>x_load rfl (by repeat (first | exact e14 | refine ev_o (by assumption) rfl ?_)) y (RowIs.cell (Q14.out.below hy) 0) (RowIs.cell (Q14.out.below hy) 1) (RowIs.lt (Q14.out.below hy))) ?_
 refine run_gen fun A15 hh => ?_
 have h15:A15=A14.put (some 232) (.agg #[.int .i64 0, .int .i64 1]):=hh
 have s15:A15.tmps.size=294:=by rw [h15,sz_put]; exact s14
 have e232:A15.eval (.tmp 232) = .agg #[.int .i64 0, .int .i64 1]:=by rw [h15]; exact ev_same (by rw [s14]; decide)
 clear hh
 refine run_takeG (i:=15) (.agg #[.int .i64 0, .int .i64 1]) rfl (by kernel_rfl) (by kernel_rfl) (by kernel_rfl) (fun y h=>h) (quiet_call (fn:=45) (args := #[.int .i64 0, .int .i64 1]) (wanted_yes (t:=231) rfl rfl (by rw [s15]; decide) (by repeat (first | exact e231 | refine ev_o (by assumption) rfl ?_))) (fun y hy=>(Go.Conc.run_call_body (fn:=Try.f45) rfl Try.func45 (by kernel_rfl) (by kernel_rfl)).trans (by simp [Act.eval])) (fun y hy=>HY2.out y)) ?_
 refine run_gen fun A16 hh => ?_
 have h16:A16=A15.put (some 233) (.agg #[.int .i64 0, .int .i64 1]):=hh
 have s16:A16.tmps.size=294:=by rw [h16,sz_put]; exact s15
 have e233:A16.eval (.tmp 233) = .agg #[.int .i64 0, .int .i64 1]:=by rw [h16]; exact ev_same (by rw [s15]; decide)
 clear hh
 refine run_takeG (i:=16) (.bool true) rfl (by kernel_rfl) (by kernel_rfl) (by kernel_rfl) (fun y h=>h) (quiet_yes _ (wanted_yes (t:=231) rfl rfl (by rw [s16]; decide) (by repeat (first | exact e231 | refine ev_o (by assumption) rfl ?_))) fun y hy=>x_eqR 0 1 rfl (by repeat (first | exact e232 | refine ev_o (by assumption) rfl ?_)) (by repeat (first | exact e233 | refine ev_o (by assumption) rfl ?_)) y) ?_
 refine run_gen fun A17 hh => ?_
 have h17:A17=A16.put (some 234) (.bool true):=hh
 have s17:A17.tmps.size=294:=by rw [h17,sz_put]; exact s16
 have e234:A17.eval (.tmp 234) = .bool true:=by rw [h17]; exact ev_same (by rw [s16]; decide)
 clear hh
 refine run_takeG (i:=17) (.bool true) rfl (by kernel_rfl) (by kernel_rfl) (by kernel_rfl) (fun y h=>h) (quiet_yes _ (wanted_none rfl) fun y hy=>x_pick rfl (by repeat (first | exact e231 | refine ev_o (by assumption) rfl ?_)) (by repeat (first | exact e234 | refine ev_o (by assumption) rfl ?_)) y) ?_
 refine run_gen fun A18 hh => ?_
 have h18:A18=A17.put (some 235) (.bool true):=hh
 have s18:A18.tmps.size=294:=by rw [h18,sz_put]; exact s17
 have e235:A18.eval (.tmp 235) = .bool true:=by rw [h18]; exact ev_same (by rw [s17]; decide)
 clear hh
 refine run_takeG (i:=18) (.bool true) rfl (by kernel_rfl) (by kernel_rfl) (by kernel_rfl) (fun y h=>h) (quiet_yes _ (wanted_none rfl) fun y hy=>x_move rfl (by repeat (first | exact e235 | refine ev_o (by assumption) rfl ?_)) y) ?_
 refine run_gen fun A19 hh => ?_
 have h19:A19=A18.put (some 236) (.bool true):=hh
 have s19:A19.tmps.size=294:=by rw [h19,sz_put]; exact s18
 have e236:A19.eval (.tmp 236) = .bool true:=by rw [h19]; exact ev_same (by rw [s18]; decide)
 clear hh
 refine run_takeG (i:=19) (.agg #[.int .i64 1, .int .i64 1]) rfl (by kernel_rfl) (by kernel_rfl) (by kernel_rfl) (fun y h=>h) (quiet_yes _ (wanted_yes (t:=236) rfl rfl (by rw [s19]; decide) (by repeat (first | exact e236 | refine ev_o (by assumption) rfl ?_))) fun y hy=>x_load rfl (by repeat (first | exact e20 | refine ev_o (by assumption) rfl ?_)) y (RowIs.cell (Q20.out.below hy) 0) (RowIs.cell (Q20.out.below hy) 1) (RowIs.lt (Q20.out.below hy))) ?_
 refine run_gen fun A20 hh => ?_
 have h20:A20=A19.put (some 237) (.agg #[.int .i64 1, .int .i64 1]):=hh
 have s20:A20.tmps.size=294:=by rw [h20,sz_put]; exact s19
 have e237:A20.eval (.tmp 237) = .agg #[.int .i64 1, .int .i64 1]:=by rw [h20]; exact ev_same (by rw [s19]; decide)
 clear hh
 refine run_takeG (i:=20) (.agg #[.int .i64 1, .int .i64 1]) rfl (by kernel_rfl) (by kernel_rfl) (by kernel_rfl) (fun y h=>h) (quiet_yes _ (wanted_yes (t:=236) rfl rfl (by rw [s20]; decide) (by repeat (first | exact e236 | refine ev_o (by assumption) rfl ?_))) fun y hy=>x_load rfl (by repeat (first | exact e4 | refine ev_o (by assumption) rfl ?_)) y (RowIs.cell (Q4.out.below hy) 0) (RowIs.cell (Q4.out.below hy) 1) (RowIs.lt (Q4.out.below hy))) ?_
 refine run_gen fun A21 hh => ?_
 have h21:A21=A20.put (some 238) (.agg #[.int .i64 1, .int .i64 1]):=hh
 have s21:A21.tmps.size=294:=by rw [h21,sz_put]; exact s20
 have e238:A21.eval (.tmp 238) = .agg #[.int .i64 1, .int .i64 1]:=by rw [h21]; exact ev_same (by rw [s20]; decide)
 clear hh
 refine run_takeG (i:=21) (.bool true) rfl (by kernel_rfl) (by kernel_rfl) (by kernel_rfl) (fun y h=>h) (quiet_yes _ (wanted_yes (t:=236) rfl rfl (by rw [s21]; decide) (by repeat (first | exact e236 | refine ev_o (by assumption) rfl ?_))) fun y hy=>x_eqR 1 1 rfl (by repeat (first | exact e237 | refine ev_o (by assumption) rfl ?_)) (by repeat (first | exact e238 | refine ev_o (by assumption) rfl ?_)) y) ?_
 refine run_gen fun A22 hh => ?_
 have h22:A22=A21.put (some 239) (.bool true):=hh
 have s22:A22.tmps.size=294:=by rw [h22,sz_put]; exact s21
 have e239:A22.eval (.tmp 239) = .bool true:=by rw [h22]; exact ev_same (by rw [s21]; decide)
 clear hh
 refine run_takeG (i:=22) (.bool true) rfl (by kernel_rfl) (by kernel_rfl) (by kernel_rfl) (fun y h=>h) (quiet_yes _ (wanted_none rfl) fun y hy=>x_pick rfl (by repeat (first | exact e236 | refine ev_o (by assumption) rfl ?_)) (by repeat (first | exact e239 | refine ev_o (by assumption) rfl ?_)) y) ?_
 refine run_gen fun A23 hh => ?_
 have h23:A23=A22.put (some 240) (.bool true):=hh
 have s23:A23.tmps.size=294:=by rw [h23,sz_put]; exact s22
 have e240:A23.eval (.tmp 240) = .bool true:=by rw [h23]; exact ev_same (by rw [s22]; decide)
 clear hh
 refine run_takeG (i:=23) (.bool true) rfl (by kernel_rfl) (by kernel_rfl) (by kernel_rfl) (fun y h=>h) (quiet_yes _ (wanted_none rfl) fun y hy=>x_move rfl (by repeat (first | exact e240 | refine ev_o (by assumption) rfl ?_)) y) ?_
 refine run_gen fun A24 hh => ?_
 have h24:A24=A23.put (some 241) (.bool true):=hh
 have s24:A24.tmps.size=294:=by rw [h24,sz_put]; exact s23
 have e241:A24.eval (.tmp 241) = .bool true:=by rw [h24]; exact ev_same (by rw [s23]; decide)
 clear hh
 refine run_takeG (i:=24) (.int .i64 0) rfl (by kernel_rfl) (by kernel_rfl) (by kernel_rfl) (fun y h=>h) (quiet_yes _ (wanted_yes (t:=241) rfl rfl (by rw [s24]; decide) (by repeat (first | exact e241 | refine ev_o (by assumption) rfl ?_))) fun y hy=>x_move rfl (by repeat (first | exact e41 | refine ev_o (by assumption) rfl ?_)) y) ?_
 refine run_gen fun A25 hh => ?_
 have h25:A25=A24.put (some 242) (.int .i64 0):=hh
 have s25:A25.tmps.size=294:=by rw [h25,sz_put]; exact s24
 have e242:A25.eval (.tmp 242) = .int .i64 0:=by rw [h25]; exact ev_same (by rw [s24]; decide)
 clear hh
 refine run_takeG (i:=25) (.bool true) rfl (by kernel_rfl) (by kernel_rfl) (by kernel_rfl) (fun y h=>h) (quiet_yes _ (wanted_yes (t:=241) rfl rfl (by rw [s25]; decide) (by repeat (first | exact e241 | refine ev_o (by assumption) rfl ?_))) fun y hy=>x_eqE rfl (by repeat (first | exact e242 | refine ev_o (by assumption) rfl ?_)) rfl y) ?_
 refine run_gen fun A26 hh => ?_
 have h26:A26=A25.put (some 243) (.bool true):=hh
 have s26:A26.tmps.size=294:=by rw [h26,sz_put]; exact s25
 have e243:A26.eval (.tmp 243) = .bool true:=by rw [h26]; exact ev_same (by rw [s25]; decide)
 clear hh
 refine run_takeG (i:=26) (.bool true) rfl (by kernel_rfl) (by kernel_rfl) (by kernel_rfl) (fun y h=>h) (quiet_yes _ (wanted_none rfl) fun y hy=>x_pick rfl (by repeat (first | exact e241 | refine ev_o (by assumption) rfl ?_)) (by repeat (first | exact e243 | refine ev_o (by assumption) rfl ?_)) y) ?_
 refine run_gen fun A27 hh => ?_
 have h27:A27=A26.put (some 244) (.bool true):=hh
 have s27:A27.tmps.size=294:=by rw [h27,sz_put]; exact s26
 have e244:A27.eval (.tmp 244) = .bool true:=by rw [h27]; exact ev_same (by rw [s26]; decide)
 clear hh
 refine run_takeG (i:=27) (.bool true) rfl (by kernel_rfl) (by kernel_rfl) (by kernel_rfl) (fun y h=>h) (quiet_yes _ (wanted_none rfl) fun y hy=>x_move rfl (by repeat (first | exact e244 | refine ev_o (by assumption) rfl ?_)) y) ?_
 refine run_gen fun A28 hh => ?_
 have h28:A28=A27.put (some 245) (.bool true):=hh
 have s28:A28.tmps.size=294:=by rw [h28,sz_put]; exact s27
 have e245:A28.eval (.tmp 245) = .bool true:=by rw [h28]; exact ev_same (by rw [s27]; decide)
 clear hh
 refine run_takeG (i:=28) (.agg #[.int .i64 1, .int .i64 1]) rfl (by kernel_rfl) (by kernel_rfl) (by kernel_rfl) (fun y h=>h) (quiet_yes _ (wanted_yes (t:=245) rfl rfl (by rw [s28]; decide) (by repeat (first | exact e245 | refine ev_o (by assumption) rfl ?_))) fun y hy=>x_load rfl (by repeat (first | exact e40 | refine ev_o (by assumption) rfl ?_)) y (RowIs.cell (Q40.out.below hy) 0) (RowIs.cell (Q40.out.below hy) 1) (RowIs.lt (Q40.out.below hy))) ?_
 refine run_gen fun A29 hh => ?_
 have h29:A29=A28.put (some 246) (.agg #[.int .i64 1, .int .i64 1]):=hh
 have s29:A29.tmps.size=294:=by rw [h29,sz_put]; exact s28
 have e246:A29.eval (.tmp 246) = .agg #[.int .i64 1, .int .i64 1]:=by rw [h29]; exact ev_same (by rw [s28]; decide)
 clear hh
 refine run_takeG (i:=29) (.agg #[.int .i64 1, .int .i64 1]) rfl (by kernel_rfl) (by kernel_rfl) (by kernel_rfl) (fun y h=>h) (quiet_yes _ (wanted_yes (t:=245) rfl rfl (by rw [s29]; decide) (by repeat (first | exact e245 | refine ev_o (by assumption) rfl ?_))) fun y hy=>x_load rfl (by repeat (first | exact e4 | refine ev_o (by assumption) rfl ?_)) y (RowIs.cell (Q4.out.below hy) 0) (RowIs.cell (Q4.out.below hy) 1) (RowIs.lt (Q4.out.below hy))) ?_
 refine run_gen fun A30 hh => ?_
 have h30:A30=A29.put (some 247) (.agg #[.int .i64 1, .int .i64 1]):=hh
 have s30:A30.tmps.size=294:=by rw [h30,sz_put]; exact s29
 have e247:A30.eval (.tmp 247) = .agg #[.int .i64 1, .int .i64 1]:=by rw [h30]; exact ev_same (by rw [s29]; decide)
 clear hh
 refine run_takeG (i:=30) (.bool true) rfl (by kernel_rfl) (by kernel_rfl) (by kernel_rfl) (fun y h=>h) (quiet_yes _ (wanted_yes (t:=245) rfl rfl (by rw [s30]; decide) (by repeat (first | exact e245 | refine ev_o (by assumption) rfl ?_))) fun y hy=>x_eqR 1 1 rfl (by repeat (first | exact e246 | refine ev_o (by assumption) rfl ?_)) (by repeat (first | exact e247 | refine ev_o (by assumption) rfl ?_)) y) ?_
 refine run_gen fun A31 hh => ?_
 have h31:A31=A30.put (some 248) (.bool true):=hh
 have s31:A31.tmps.size=294:=by rw [h31,sz_put]; exact s30
 have e248:A31.eval (.tmp 248) = .bool true:=by rw [h31]; exact ev_same (by rw [s30]; decide)
 clear hh
 refine run_takeG (i:=31) (.bool true) rfl (by kernel_rfl) (by kernel_rfl) (by kernel_rfl) (fun y h=>h) (quiet_yes _ (wanted_none rfl) fun y hy=>x_pick rfl (by repeat (first | exact e245 | refine ev_o (by assumption) rfl ?_)) (by repeat (first | exact e248 | refine ev_o (by assumption) rfl ?_)) y) ?_
 refine run_gen fun A32 hh => ?_
 have h32:A32=A31.put (some 249) (.bool true):=hh
 have s32:A32.tmps.size=294:=by rw [h32,sz_put]; exact s31
 have e249:A32.eval (.tmp 249) = .bool true:=by rw [h32]; exact ev_same (by rw [s31]; decide)
 clear hh
 refine run_takeG (i:=32) (.bool true) rfl (by kernel_rfl) (by kernel_rfl) (by kernel_rfl) (fun y h=>h) (quiet_yes _ (wanted_none rfl) fun y hy=>x_move rfl (by repeat (first | exact e249 | refine ev_o (by assumption) rfl ?_)) y) ?_
 refine run_gen fun A33 hh => ?_
 have h33:A33=A32.put (some 250) (.bool true):=hh
 have s33:A33.tmps.size=294:=by rw [h33,sz_put]; exact s32
 have e250:A33.eval (.tmp 250) = .bool true:=by rw [h33]; exact ev_same (by rw [s32]; decide)
 clear hh
 refine run_takeG (i:=33) (.int .i64 0) rfl (by kernel_rfl) (by kernel_rfl) (by kernel_rfl) (fun y h=>h) (quiet_yes _ (wanted_yes (t:=250) rfl rfl (by rw [s33]; decide) (by repeat (first | exact e250 | refine ev_o (by assumption) rfl ?_))) fun y hy=>x_move rfl (by repeat (first | exact e27 | refine ev_o (by assumption) rfl ?_)) y) ?_
 refine run_gen fun A34 hh => ?_
 have h34:A34=A33.put (some 251) (.int .i64 0):=hh
 have s34:A34.tmps.size=294:=by rw [h34,sz_put]; exact s33
 have e251:A34.eval (.tmp 251) = .int .i64 0:=by rw [h34]; exact ev_same (by rw [s33]; decide)
 clear hh
 refine run_takeG (i:=34) (.bool true) rfl (by kernel_rfl) (by kernel_rfl) (by kernel_rfl) (fun y h=>h) (quiet_yes _ (wanted_yes (t:=250) rfl rfl (by rw [s34]; decide) (by repeat (first | exact e250 | refine ev_o (by assumption) rfl ?_))) fun y hy=>x_eqI rfl (by repeat (first | exact e251 | refine ev_o (by assumption) rfl ?_)) rfl y) ?_
 refine run_gen fun A35 hh => ?_
 have h35:A35=A34.put (some 252) (.bool true):=hh
 have s35:A35.tmps.size=294:=by rw [h35,sz_put]; exact s34
 have e252:A35.eval (.tmp 252) = .bool true:=by rw [h35]; exact ev_same (by rw [s34]; decide)
 clear hh
 refine run_takeG (i:=35) (.bool true) rfl (by kernel_rfl) (by kernel_rfl) (by kernel_rfl) (fun y h=>h) (quiet_yes _ (wanted_none rfl) fun y hy=>x_pick rfl (by repeat (first | exact e250 | refine ev_o (by assumption) rfl ?_)) (by repeat (first | exact e252 | refine ev_o (by assumption) rfl ?_)) y) ?_
 refine run_gen fun A36 hh => ?_
 have h36:A36=A35.put (some 253) (.bool true):=hh
 have s36:A36.tmps.size=294:=by rw [h36,sz_put]; exact s35
 have e253:A36.eval (.tmp 253) = .bool true:=by rw [h36]; exact ev_same (by rw [s35]; decide)
 clear hh
 refine run_takeG (i:=36) (.bool true) rfl (by kernel_rfl) (by kernel_rfl) (by kernel_rfl) (fun y h=>h) (quiet_yes _ (wanted_none rfl) fun y hy=>x_move rfl (by repeat (first | exact e253 | refine ev_o (by assumption) rfl ?_)) y) ?_
 refine run_gen fun A37 hh => ?_
 have h37:A37=A36.put (some 254) (.bool true):=hh
 have s37:A37.tmps.size=294:=by rw [h37,sz_put]; exact s36
 have e254:A37.eval (.tmp 254) = .bool true:=by rw [h37]; exact ev_same (by rw [s36]; decide)
 clear hh
 refine run_takeG (i:=37) (.int .i64 0) rfl (by kernel_rfl) (by kernel_rfl) (by kernel_rfl) (fun y h=>h) (quiet_yes _ (wanted_yes (t:=254) rfl rfl (by rw [s37]; decide) (by repeat (first | exact e254 | refine ev_o (by assumption) rfl ?_))) fun y hy=>x_move rfl (by repeat (first | exact e28 | refine ev_o (by assumption) rfl ?_)) y) ?_
 refine run_gen fun A38 hh => ?_
 have h38:A38=A37.put (some 255) (.int .i64 0):=hh
 have s38:A38.tmps.size=294:=by rw [h38,sz_put]; exact s37
 have e255:A38.eval (.tmp 255) = .int .i64 0:=by rw [h38]; exact ev_same (by rw [s37]; decide)
 clear hh
 refine run_takeG (i:=38) (.bool true) rfl (by kernel_rfl) (by kernel_rfl) (by kernel_rfl) (fun y h=>h) (quiet_yes _ (wanted_yes (t:=254) rfl rfl (by rw [s38]; decide) (by repeat (first | exact e254 | refine ev_o (by assumption) rfl ?_))) fun y hy=>x_eqI rfl (by repeat (first | exact e255 | refine ev_o (by assumption) rfl ?_)) rfl y) ?_
 refine run_gen fun A39 hh => ?_
 have h39:A39=A38.put (some 256) (.bool true):=hh
 have s39:A39.tmps.size=294:=by rw [h39,sz_put]; exact s38
 have e256:A39.eval (.tmp 256) = .bool true:=by rw [h39]; exact ev_same (by rw [s38]; decide)
 clear hh
 refine run_takeG (i:=39) (.bool true) rfl (by kernel_rfl) (by kernel_rfl) (by kernel_rfl) (fun y h=>h) (quiet_yes _ (wanted_none rfl) fun y hy=>x_pick rfl (by repeat (first | exact e254 | refine ev_o (by assumption) rfl ?_)) (by repeat (first | exact e256 | refine ev_o (by assumption) rfl ?_)) y) ?_
 refine run_gen fun A40 hh => ?_
 have h40:A40=A39.put (some 257) (.bool true):=hh
 have s40:A40.tmps.size=294:=by rw [h40,sz_put]; exact s39
 have e257:A40.eval (.tmp 257) = .bool true:=by rw [h40]; exact ev_same (by rw [s39]; decide)
 clear hh
 refine run_takeG (i:=40) (.bool true) rfl (by kernel_rfl) (by kernel_rfl) (by kernel_rfl) (fun y h=>h) (quiet_yes _ (wanted_none rfl) fun y hy=>x_move rfl (by repeat (first | exact e257 | refine ev_o (by assumption) rfl ?_)) y) ?_
 refine run_gen fun A41 hh => ?_
 have h41:A41=A40.put (some 258) (.bool true):=hh
 have s41:A41.tmps.size=294:=by rw [h41,sz_put]; exact s40
 have e258:A41.eval (.tmp 258) = .bool true:=by rw [h41]; exact ev_same (by rw [s40]; decide)
 clear hh
 refine run_takeG (i:=41) (.slice L30p 2 L30c) rfl (by kernel_rfl) (by kernel_rfl) (by kernel_rfl) (fun y h=>h) (quiet_yes _ (wanted_yes (t:=258) rfl rfl (by rw [s41]; decide) (by repeat (first | exact e258 | refine ev_o (by assumption) rfl ?_))) fun y hy=>x_move rfl (by repeat (first | exact e30 | refine ev_o (by assumption) rfl ?_)) y) ?_
 refine run_gen fun A42 hh => ?_
 have h42:A42=A41.put (some 259) (.slice L30p 2 L30c):=hh
 have s42:A42.tmps.size=294:=by rw [h42,sz_put]; exact s41
 have e259:A42.eval (.tmp 259) = .slice L30p 2 L30c:=by rw [h42]; exact ev_same (by rw [s41]; decide)
 clear hh
 refine run_only (i:=42) (by kernel_rfl) (at_makeG (w0:=Y82) (t:=260) (z:= .cells #[.int .i64 0, .int .i64 1] 3 (0,0)) (fun q=> .slice (some ⟨q,0,none⟩) 2 2) (fun _=>False) slice_inj rfl (wanted_yes (t:=258) rfl rfl (by rw [s42]; decide) (by repeat (first | exact e258 | refine ev_o (by assumption) rfl ?_))) rfl (fun y _=>by go_simp) (fun y h=>h.size) (fun _ _ _ h=>h.elim) ?_)
 intro d0 hd0 _
 refine run_gen fun A43 hh => ?_
 have h43:A43=A42.put (some 260) (.slice (some ⟨d0,0,none⟩) 2 2):=hh
 have s43:A43.tmps.size=294:=by rw [h43,sz_put]; exact s42
 have e260:A43.eval (.tmp 260) = .slice (some ⟨d0,0,none⟩) 2 2:=by rw [h43]; exact ev_same (by rw [s42]; decide)
 clear hh
 refine run_takeG (i:=43) (.slice (some ⟨d0,0,none⟩) 2 2) rfl (by kernel_rfl) (by kernel_rfl) (by kernel_rfl) (fun y h=>h.1) (quiet_call (fn:=60) (args := #[.slice (some ⟨d0,0,none⟩) 2 2]) (wanted_yes (t:=258) rfl rfl (by rw [s43]; decide) (by repeat (first | exact e258 | refine ev_o (by assumption) rfl ?_))) (fun y hy=>(Go.Conc.run_call_body (fn:=Try.f60) rfl Try.func60 (by kernel_rfl) (by kernel_rfl)).trans (by simp only [List.map_toArray,List.map_cons,List.map_nil,e260])) (fun y hy=>(of_c _ _ _ y).mono (by rintro e w1 ⟨h1,rfl⟩; exact ⟨h1,Below.refl _ _⟩))) ?_
 refine run_gen fun A44 hh => ?_
 have h44:A44=A43.put (some 261) (.slice (some ⟨d0,0,none⟩) 2 2):=hh
 have s44:A44.tmps.size=294:=by rw [h44,sz_put]; exact s43
 have e261:A44.eval (.tmp 261) = .slice (some ⟨d0,0,none⟩) 2 2:=by rw [h44]; exact ev_same (by rw [s43]; decide)
 clear hh
 have f0:A44.eval (.tmp 259) = .slice L30p 2 L30c:=(by repeat (first | exact e259 | refine ev_o (by assumption) rfl ?_))
 refine run_only (i:=44) (by kernel_rfl) (at_quiet (.bool true) rfl (quiet_call (fn:=35) (args := #[.slice L30p 2 L30c, .slice (some ⟨d0,0,none⟩) 2 2]) (wanted_yes (t:=258) rfl rfl (by rw [s44]; decide) (by repeat (first | exact e258 | refine ev_o (by assumption) rfl ?_))) (fun y hy=>(Go.Conc.run_call_body (fn:=Try.f35) rfl Try.func35 (by kernel_rfl) (by kernel_rfl)).trans (by simp only [List.map_toArray,List.map_cons,List.map_nil,f0,e261])) (fun y hy => ?_)) ?_)
 ·have hl:Ints y (some ⟨d0,0,none⟩) 2 (ltN [0,1]):=ints_has [0,1] hy.2
  have hI:=Ints_c L30p 2 L30c (natI [0,1]) (some ⟨d0,0,none⟩) 2 2 (ltN [0,1]) y (L30.out.below hy.1).cells hl (by decide)
  rw [show intsB 2 (natI [0,1]) 2 (ltN [0,1])=true by decide +kernel] at hI
  exact hI
 refine run_gen fun A45 hh => ?_
 have h45:A45=A44.put (some 262) (.bool true):=hh
 have s45:A45.tmps.size=294:=by rw [h45,sz_put]; exact s44
 have e262:A45.eval (.tmp 262) = .bool true:=by rw [h45]; exact ev_same (by rw [s44]; decide)
 clear hh
 refine run_mono _ _ _ _ _ (fun y (h:Below Y82.heap.size Y82 y∧y.heap[d0]? = some (.cells #[.int .i64 0, .int .i64 1] 3 (0,0)))=>h.1) ?_
 refine run_takeG (i:=45) (.bool true) rfl (by kernel_rfl) (by kernel_rfl) (by kernel_rfl) (fun y h=>h) (quiet_yes _ (wanted_none rfl) fun y hy=>x_pick rfl (by repeat (first | exact e258 | refine ev_o (by assumption) rfl ?_)) (by repeat (first | exact e262 | refine ev_o (by assumption) rfl ?_)) y) ?_
 refine run_gen fun A46 hh => ?_
 have h46:A46=A45.put (some 263) (.bool true):=hh
 have s46:A46.tmps.size=294:=by rw [h46,sz_put]; exact s45
 have e263:A46.eval (.tmp 263) = .bool true:=by rw [h46]; exact ev_same (by rw [s45]; decide)
 clear hh
 refine run_takeG (i:=46) (.bool true) rfl (by kernel_rfl) (by kernel_rfl) (by kernel_rfl) (fun y h=>h) (quiet_yes _ (wanted_none rfl) fun y hy=>x_move rfl (by repeat (first | exact e263 | refine ev_o (by assumption) rfl ?_)) y) ?_
 refine run_gen fun A47 hh => ?_
 have h47:A47=A46.put (some 264) (.bool true):=hh
 have s47:A47.tmps.size=294:=by rw [h47,sz_put]; exact s46
 have e264:A47.eval (.tmp 264) = .bool true:=by rw [h47]; exact ev_same (by rw [s46]; decide)
 clear hh
 refine run_takeG (i:=47) (.slice L32p 1 L32c) rfl (by kernel_rfl) (by kernel_rfl) (by kernel_rfl) (fun y h=>h) (quiet_yes _ (wanted_yes (t:=264) rfl rfl (by rw [s47]; decide) (by repeat (first | exact e264 | refine ev_o (by assumption) rfl ?_))) fun y hy=>x_move rfl (by repeat (first | exact e32 | refine ev_o (by assumption) rfl ?_)) y) ?_
 refine run_gen fun A48 hh => ?_
 have h48:A48=A47.put (some 265) (.slice L32p 1 L32c):=hh
 have s48:A48.tmps.size=294:=by rw [h48,sz_put]; exact s47
 have e265:A48.eval (.tmp 265) = .slice L32p 1 L32c:=by rw [h48]; exact ev_same (by rw [s47]; decide)
 clear hh
 refine run_only (i:=48) (by kernel_rfl) (at_makeG (w0:=Y82) (t:=266) (z:= .cells #[.int .i64 0] 3 (0,0)) (fun q=> .slice (some ⟨q,0,none⟩) 1 1) (fun _=>False) slice_inj rfl (wanted_yes (t:=264) rfl rfl (by rw [s48]; decide) (by repeat (first | exact e264 | refine ev_o (by assumption) rfl ?_))) rfl (fun y _=>by go_simp) (fun y h=>h.size) (fun _ _ _ h=>h.elim) ?_)
 intro d1 hd1 _
 refine run_gen fun A49 hh => ?_
 have h49:A49=A48.put (some 266) (.slice (some ⟨d1,0,none⟩) 1 1):=hh
 have s49:A49.tmps.size=294:=by rw [h49,sz_put]; exact s48
 have e266:A49.eval (.tmp 266) = .slice (some ⟨d1,0,none⟩) 1 1:=by rw [h49]; exact ev_same (by rw [s48]; decide)
 clear hh
 refine run_takeG (i:=49) (.slice (some ⟨d1,0,none⟩) 1 1) rfl (by kernel_rfl) (by kernel_rfl) (by kernel_rfl) (fun y h=>h.1) (quiet_call (fn:=60) (args := #[.slice (some ⟨d1,0,none⟩) 1 1]) (wanted_yes (t:=264) rfl rfl (by rw [s49]; decide) (by repeat (first | exact e264 | refine ev_o (by assumption) rfl ?_))) (fun y hy=>(Go.Conc.run_call_body (fn:=Try.f60) rfl Try.func60 (by kernel_rfl) (by kernel_rfl)).trans (by simp only [List.map_toArray,List.map_cons,List.map_nil,e266])) (fun y hy=>(of_c _ _ _ y).mono (by rintro e w1 ⟨h1,rfl⟩; exact ⟨h1,Below.refl _ _⟩))) ?_
 refine run_gen fun A50 hh => ?_
 have h50:A50=A49.put (some 267) (.slice (some ⟨d1,0,none⟩) 1 1):=hh
 have s50:A50.tmps.size=294:=by rw [h50,sz_put]; exact s49
 have e267:A50.eval (.tmp 267) = .slice (some ⟨d1,0,none⟩) 1 1:=by rw [h50]; exact ev_same (by rw [s49]; decide)
 clear hh
 have f1:A50.eval (.tmp 265) = .slice L32p 1 L32c:=(by repeat (first | exact e265 | refine ev_o (by assumption) rfl ?_))
 refine run_only (i:=50) (by kernel_rfl) (at_quiet (.bool true) rfl (quiet_call (fn:=35) (args := #[.slice L32p 1 L32c, .slice (some ⟨d1,0,none⟩) 1 1]) (wanted_yes (t:=264) rfl rfl (by rw [s50]; decide) (by repeat (first | exact e264 | refine ev_o (by assumption) rfl ?_))) (fun y hy=>(Go.Conc.run_call_body (fn:=Try.f35) rfl Try.func35 (by kernel_rfl) (by kernel_rfl)).trans (by simp only [List.map_toArray,List.map_cons,List.map_nil,f1,e267])) (fun y hy => ?_)) ?_)
 ·have hl:Ints y (some ⟨d1,0,none⟩) 1 (ltN [0]):=ints_has [0] hy.2
  have hI:=Ints_c L32p 1 L32c (natI [0]) (some ⟨d1,0,none⟩) 1 1 (ltN [0]) y (L32.out.below hy.1).cells hl (by decide)
  rw [show intsB 1 (natI [0]) 1 (ltN [0])=true by decide +kernel] at hI
  exact hI
 refine run_gen fun A51 hh => ?_
 have h51:A51=A50.put (some 268) (.bool true):=hh
 have s51:A51.tmps.size=294:=by rw [h51,sz_put]; exact s50
 have e268:A51.eval (.tmp 268) = .bool true:=by rw [h51]; exact ev_same (by rw [s50]; decide)
 clear hh
 refine run_mono _ _ _ _ _ (fun y (h:Below Y82.heap.size Y82 y∧y.heap[d1]? = some (.cells #[.int .i64 0] 3 (0,0)))=>h.1) ?_
 refine run_takeG (i:=51) (.bool true) rfl (by kernel_rfl) (by kernel_rfl) (by kernel_rfl) (fun y h=>h) (quiet_yes _ (wanted_none rfl) fun y hy=>x_pick rfl (by repeat (first | exact e264 | refine ev_o (by assumption) rfl ?_)) (by repeat (first | exact e268 | refine ev_o (by assumption) rfl ?_)) y) ?_
 refine run_gen fun A52 hh => ?_
 have h52:A52=A51.put (some 269) (.bool true):=hh
 have s52:A52.tmps.size=294:=by rw [h52,sz_put]; exact s51
 have e269:A52.eval (.tmp 269) = .bool true:=by rw [h52]; exact ev_same (by rw [s51]; decide)
 clear hh
 refine run_takeG (i:=52) (.bool true) rfl (by kernel_rfl) (by kernel_rfl) (by kernel_rfl) (fun y h=>h) (quiet_yes _ (wanted_none rfl) fun y hy=>x_move rfl (by repeat (first | exact e269 | refine ev_o (by assumption) rfl ?_)) y) ?_
 refine run_gen fun A53 hh => ?_
 have h53:A53=A52.put (some 270) (.bool true):=hh
 have s53:A53.tmps.size=294:=by rw [h53,sz_put]; exact s52
 have e270:A53.eval (.tmp 270) = .bool true:=by rw [h53]; exact ev_same (by rw [s52]; decide)
 clear hh
 refine run_takeG (i:=53) (.slice u1 1 k1) rfl (by kernel_rfl) (by kernel_rfl) (by kernel_rfl) (fun y h=>h) (quiet_yes _ (wanted_yes (t:=270) rfl rfl (by rw [s53]; decide) (by repeat (first | exact e270 | refine ev_o (by assumption) rfl ?_))) fun y hy=>x_move rfl (by repeat (first | exact e34 | refine ev_o (by assumption) rfl ?_)) y) ?_
 refine run_gen fun A54 hh => ?_
 have h54:A54=A53.put (some 271) (.slice u1 1 k1):=hh
 have s54:A54.tmps.size=294:=by rw [h54,sz_put]; exact s53
 have e271:A54.eval (.tmp 271) = .slice u1 1 k1:=by rw [h54]; exact ev_same (by rw [s53]; decide)
 clear hh
 refine run_only (i:=54) (by kernel_rfl) (at_makeG (w0:=Y82) (t:=272) (z:= .cells #[.int .i64 0] 3 (0,0)) (fun q=> .slice (some ⟨q,0,none⟩) 1 1) (fun _=>False) slice_inj rfl (wanted_yes (t:=270) rfl rfl (by rw [s54]; decide) (by repeat (first | exact e270 | refine ev_o (by assumption) rfl ?_))) rfl (fun y _=>by go_simp) (fun y h=>h.size) (fun _ _ _ h=>h.elim) ?_)
 intro d2 hd2 _
 refine run_gen fun A55 hh => ?_
 have h55:A55=A54.put (some 272) (.slice (some ⟨d2,0,none⟩) 1 1):=hh
 have s55:A55.tmps.size=294:=by rw [h55,sz_put]; exact s54
 have e272:A55.eval (.tmp 272) = .slice (some ⟨d2,0,none⟩) 1 1:=by rw [h55]; exact ev_same (by rw [s54]; decide)
 clear hh
 refine run_takeG (i:=55) (.slice (some ⟨d2,0,none⟩) 1 1) rfl (by kernel_rfl) (by kernel_rfl) (by kernel_rfl) (fun y h=>h.1) (quiet_call (fn:=60) (args := #[.slice (some ⟨d2,0,none⟩) 1 1]) (wanted_yes (t:=270) rfl rfl (by rw [s55]; decide) (by repeat (first | exact e270 | refine ev_o (by assumption) rfl ?_))) (fun y hy=>(Go.Conc.run_call_body (fn:=Try.f60) rfl Try.func60 (by kernel_rfl) (by kernel_rfl)).trans (by simp only [List.map_toArray,List.map_cons,List.map_nil,e272])) (fun y hy=>(of_c _ _ _ y).mono (by rintro e w1 ⟨h1,rfl⟩; exact ⟨h1,Below.refl _ _⟩))) ?_
 refine run_gen fun A56 hh => ?_
 have h56:A56=A55.put (some 273) (.slice (some ⟨d2,0,none⟩) 1 1):=hh
 have s56:A56.tmps.size=294:=by rw [h56,sz_put]; exact s55
 have e273:A56.eval (.tmp 273) = .slice (some ⟨d2,0,none⟩) 1 1:=by rw [h56]; exact ev_same (by rw [s55]; decide)
 clear hh
 have f2:A56.eval (.tmp 271) = .slice u1 1 k1:=(by repeat (first | exact e271 | refine ev_o (by assumption) rfl ?_))
 refine run_only (i:=56) (by kernel_rfl) (at_quiet (.bool true) rfl (quiet_call (fn:=35) (args := #[.slice u1 1 k1, .slice (some ⟨d2,0,none⟩) 1 1]) (wanted_yes (t:=270) rfl rfl (by rw [s56]; decide) (by repeat (first | exact e270 | refine ev_o (by assumption) rfl ?_))) (fun y hy=>(Go.Conc.run_call_body (fn:=Try.f35) rfl Try.func35 (by kernel_rfl) (by kernel_rfl)).trans (by simp only [List.map_toArray,List.map_cons,List.map_nil,f2,e273])) (fun y hy => ?_)) ?_)
 ·have hl:Ints y (some ⟨d2,0,none⟩) 1 (ltN [0]):=ints_has [0] hy.2
  have hI:=Ints_c u1 1 k1 (natI [0]) (some ⟨d2,0,none⟩) 1 1 (ltN [0]) y (L34.out.below hy.1).cells hl (by decide)
  rw [show intsB 1 (natI [0]) 1 (ltN [0])=true by decide +kernel] at hI
  exact hI
 refine run_gen fun A57 hh => ?_
 have h57:A57=A56.put (some 274) (.bool true):=hh
 have s57:A57.tmps.size=294:=by rw [h57,sz_put]; exact s56
 have e274:A57.eval (.tmp 274) = .bool true:=by rw [h57]; exact ev_same (by rw [s56]; decide)
 clear hh
 refine run_mono _ _ _ _ _ (fun y (h:Below Y82.heap.size Y82 y∧y.heap[d2]? = some (.cells #[.int .i64 0] 3 (0,0)))=>h.1) ?_
 refine run_takeG (i:=57) (.bool true) rfl (by kernel_rfl) (by kernel_rfl) (by kernel_rfl) (fun y h=>h) (quiet_yes _ (wanted_none rfl) fun y hy=>x_pick rfl (by repeat (first | exact e270 | refine ev_o (by assumption) rfl ?_)) (by repeat (first | exact e274 | refine ev_o (by assumption) rfl ?_)) y) ?_
 refine run_gen fun A58 hh => ?_
 have h58:A58=A57.put (some 275) (.bool true):=hh
 have s58:A58.tmps.size=294:=by rw [h58,sz_put]; exact s57
 have e275:A58.eval (.tmp 275) = .bool true:=by rw [h58]; exact ev_same (by rw [s57]; decide)
 clear hh
 refine run_takeG (i:=58) (.bool true) rfl (by kernel_rfl) (by kernel_rfl) (by kernel_rfl) (fun y h=>h) (quiet_yes _ (wanted_none rfl) fun y hy=>x_move rfl (by repeat (first | exact e275 | refine ev_o (by assumption) rfl ?_)) y) ?_
 refine run_gen fun A59 hh => ?_
 have h59:A59=A58.put (some 276) (.bool true):=hh
 have s59:A59.tmps.size=294:=by rw [h59,sz_put]; exact s58
 have e276:A59.eval (.tmp 276) = .bool true:=by rw [h59]; exact ev_same (by rw [s58]; decide)
 clear hh
 refine run_takeG (i:=59) (.slice u2 1 k2) rfl (by kernel_rfl) (by kernel_rfl) (by kernel_rfl) (fun y h=>h) (quiet_yes _ (wanted_yes (t:=276) rfl rfl (by rw [s59]; decide) (by repeat (first | exact e276 | refine ev_o (by assumption) rfl ?_))) fun y hy=>x_move rfl (by repeat (first | exact e35 | refine ev_o (by assumption) rfl ?_)) y) ?_
 refine run_gen fun A60 hh => ?_
 have h60:A60=A59.put (some 277) (.slice u2 1 k2):=hh
 have s60:A60.tmps.size=294:=by rw [h60,sz_put]; exact s59
 have e277:A60.eval (.tmp 277) = .slice u2 1 k2:=by rw [h60]; exact ev_same (by rw [s59]; decide)
 clear hh
 refine run_only (i:=60) (by kernel_rfl) (at_makeG (w0:=Y82) (t:=278) (z:= .cells #[.int .i64 0] 3 (0,0)) (fun q=> .slice (some ⟨q,0,none⟩) 1 1) (fun _=>False) slice_inj rfl (wanted_yes (t:=276) rfl rfl (by rw [s60]; decide) (by repeat (first | exact e276 | refine ev_o (by assumption) rfl ?_))) rfl (fun y _=>by go_simp) (fun y h=>h.size) (fun _ _ _ h=>h.elim) ?_)
 intro d3 hd3 _
 refine run_gen fun A61 hh => ?_
 have h61:A61=A60.put (some 278) (.slice (some ⟨d3,0,none⟩) 1 1):=hh
 have s61:A61.tmps.size=294:=by rw [h61,sz_put]; exact s60
 have e278:A61.eval (.tmp 278) = .slice (some ⟨d3,0,none⟩) 1 1:=by rw [h61]; exact ev_same (by rw [s60]; decide)
 clear hh
 refine run_takeG (i:=61) (.slice (some ⟨d3,0,none⟩) 1 1) rfl (by kernel_rfl) (by kernel_rfl) (by kernel_rfl) (fun y h=>h.1) (quiet_call (fn:=60) (args := #[.slice (some ⟨d3,0,none⟩) 1 1]) (wanted_yes (t:=276) rfl rfl (by rw [s61]; decide) (by repeat (first | exact e276 | refine ev_o (by assumption) rfl ?_))) (fun y hy=>(Go.Conc.run_call_body (fn:=Try.f60) rfl Try.func60 (by kernel_rfl) (by kernel_rfl)).trans (by simp only [List.map_toArray,List.map_cons,List.map_nil,e278])) (fun y hy=>(of_c _ _ _ y).mono (by rintro e w1 ⟨h1,rfl⟩; exact ⟨h1,Below.refl _ _⟩))) ?_
 refine run_gen fun A62 hh => ?_
 have h62:A62=A61.put (some 279) (.slice (some ⟨d3,0,none⟩) 1 1):=hh
 have s62:A62.tmps.size=294:=by rw [h62,sz_put]; exact s61
 have e279:A62.eval (.tmp 279) = .slice (some ⟨d3,0,none⟩) 1 1:=by rw [h62]; exact ev_same (by rw [s61]; decide)
 clear hh
 have f3:A62.eval (.tmp 277) = .slice u2 1 k2:=(by repeat (first | exact e277 | refine ev_o (by assumption) rfl ?_))
 refine run_only (i:=62) (by kernel_rfl) (at_quiet (.bool true) rfl (quiet_call (fn:=35) (args := #[.slice u2 1 k2, .slice (some ⟨d3,0,none⟩) 1 1]) (wanted_yes (t:=276) rfl rfl (by rw [s62]; decide) (by repeat (first | exact e276 | refine ev_o (by assumption) rfl ?_))) (fun y hy=>(Go.Conc.run_call_body (fn:=Try.f35) rfl Try.func35 (by kernel_rfl) (by kernel_rfl)).trans (by simp only [List.map_toArray,List.map_cons,List.map_nil,f3,e279])) (fun y hy => ?_)) ?_)
 ·have hl:Ints y (some ⟨d3,0,none⟩) 1 (ltN [0]):=ints_has [0] hy.2
  have hI:=Ints_c u2 1 k2 (natI [0]) (some ⟨d3,0,none⟩) 1 1 (ltN [0]) y (L35.out.below hy.1).cells hl (by decide)
  rw [show intsB 1 (natI [0]) 1 (ltN [0])=true by decide +kernel] at hI
  exact hI
 refine run_gen fun A63 hh => ?_
 have h63:A63=A62.put (some 280) (.bool true):=hh
 have s63:A63.tmps.size=294:=by rw [h63,sz_put]; exact s62
 have e280:A63.eval (.tmp 280) = .bool true:=by rw [h63]; exact ev_same (by rw [s62]; decide)
 clear hh
 refine run_mono _ _ _ _ _ (fun y (h:Below Y82.heap.size Y82 y∧y.heap[d3]? = some (.cells #[.int .i64 0] 3 (0,0)))=>h.1) ?_
 refine run_takeG (i:=63) (.bool true) rfl (by kernel_rfl) (by kernel_rfl) (by kernel_rfl) (fun y h=>h) (quiet_yes _ (wanted_none rfl) fun y hy=>x_pick rfl (by repeat (first | exact e276 | refine ev_o (by assumption) rfl ?_)) (by repeat (first | exact e280 | refine ev_o (by assumption) rfl ?_)) y) ?_
 refine run_gen fun A64 hh => ?_
 have h64:A64=A63.put (some 281) (.bool true):=hh
 have s64:A64.tmps.size=294:=by rw [h64,sz_put]; exact s63
 have e281:A64.eval (.tmp 281) = .bool true:=by rw [h64]; exact ev_same (by rw [s63]; decide)
 clear hh
 refine run_takeG (i:=64) (.bool true) rfl (by kernel_rfl) (by kernel_rfl) (by kernel_rfl) (fun y h=>h) (quiet_yes _ (wanted_none rfl) fun y hy=>x_move rfl (by repeat (first | exact e281 | refine ev_o (by assumption) rfl ?_)) y) ?_
 refine run_gen fun A65 hh => ?_
 have h65:A65=A64.put (some 282) (.bool true):=hh
 have s65:A65.tmps.size=294:=by rw [h65,sz_put]; exact s64
 have e282:A65.eval (.tmp 282) = .bool true:=by rw [h65]; exact ev_same (by rw [s64]; decide)
 clear hh
 refine run_takeG (i:=65) (.slice u3 1 k3) rfl (by kernel_rfl) (by kernel_rfl) (by kernel_rfl) (fun y h=>h) (quiet_yes _ (wanted_yes (t:=282) rfl rfl (by rw [s65]; decide) (by repeat (first | exact e282 | refine ev_o (by assumption) rfl ?_))) fun y hy=>x_move rfl (by repeat (first | exact e37 | refine ev_o (by assumption) rfl ?_)) y) ?_
 refine run_gen fun A66 hh => ?_
 have h66:A66=A65.put (some 283) (.slice u3 1 k3):=hh
 have s66:A66.tmps.size=294:=by rw [h66,sz_put]; exact s65
 have e283:A66.eval (.tmp 283) = .slice u3 1 k3:=by rw [h66]; exact ev_same (by rw [s65]; decide)
 clear hh
 refine run_only (i:=66) (by kernel_rfl) (at_makeG (w0:=Y82) (t:=284) (z:= .cells #[.int .i64 0] 3 (0,0)) (fun q=> .slice (some ⟨q,0,none⟩) 1 1) (fun _=>False) slice_inj rfl (wanted_yes (t:=282) rfl rfl (by rw [s66]; decide) (by repeat (first | exact e282 | refine ev_o (by assumption) rfl ?_))) rfl (fun y _=>by go_simp) (fun y h=>h.size) (fun _ _ _ h=>h.elim) ?_)
 intro d4 hd4 _
 refine run_gen fun A67 hh => ?_
 have h67:A67=A66.put (some 284) (.slice (some ⟨d4,0,none⟩) 1 1):=hh
 have s67:A67.tmps.size=294:=by rw [h67,sz_put]; exact s66
 have e284:A67.eval (.tmp 284) = .slice (some ⟨d4,0,none⟩) 1 1:=by rw [h67]; exact ev_same (by rw [s66]; decide)
 clear hh
 refine run_takeG (i:=67) (.slice (some ⟨d4,0,none⟩) 1 1) rfl (by kernel_rfl) (by kernel_rfl) (by kernel_rfl) (fun y h=>h.1) (quiet_call (fn:=60) (args := #[.slice (some ⟨d4,0,none⟩) 1 1]) (wanted_yes (t:=282) rfl rfl (by rw [s67]; decide) (by repeat (first | exact e282 | refine ev_o (by assumption) rfl ?_))) (fun y hy=>(Go.Conc.run_call_body (fn:=Try.f60) rfl Try.func60 (by kernel_rfl) (by kernel_rfl)).trans (by simp only [List.map_toArray,List.map_cons,List.map_nil,e284])) (fun y hy=>(of_c _ _ _ y).mono (by rintro e w1 ⟨h1,rfl⟩; exact ⟨h1,Below.refl _ _⟩))) ?_
 refine run_gen fun A68 hh => ?_
 have h68:A68=A67.put (some 285) (.slice (some ⟨d4,0,none⟩) 1 1):=hh
 have s68:A68.tmps.size=294:=by rw [h68,sz_put]; exact s67
 have e285:A68.eval (.tmp 285) = .slice (some ⟨d4,0,none⟩) 1 1:=by rw [h68]; exact ev_same (by rw [s67]; decide)
 clear hh
 have f4:A68.eval (.tmp 283) = .slice u3 1 k3:=(by repeat (first | exact e283 | refine ev_o (by assumption) rfl ?_))
 refine run_only (i:=68) (by kernel_rfl) (at_quiet (.bool true) rfl (quiet_call (fn:=35) (args := #[.slice u3 1 k3, .slice (some ⟨d4,0,none⟩) 1 1]) (wanted_yes (t:=282) rfl rfl (by rw [s68]; decide) (by repeat (first | exact e282 | refine ev_o (by assumption) rfl ?_))) (fun y hy=>(Go.Conc.run_call_body (fn:=Try.f35) rfl Try.func35 (by kernel_rfl) (by kernel_rfl)).trans (by simp only [List.map_toArray,List.map_cons,List.map_nil,f4,e285])) (fun y hy => ?_)) ?_)
 ·have hl:Ints y (some ⟨d4,0,none⟩) 1 (ltN [0]):=ints_has [0] hy.2
  have hI:=Ints_c u3 1 k3 (natI [0]) (some ⟨d4,0,none⟩) 1 1 (ltN [0]) y (L37.out.below hy.1).cells hl (by decide)
  rw [show intsB 1 (natI [0]) 1 (ltN [0])=true by decide +kernel] at hI
  exact hI
 refine run_gen fun A69 hh => ?_
 have h69:A69=A68.put (some 286) (.bool true):=hh
 have s69:A69.tmps.size=294:=by rw [h69,sz_put]; exact s68
 have e286:A69.eval (.tmp 286) = .bool true:=by rw [h69]; exact ev_same (by rw [s68]; decide)
 clear hh
 refine run_mono _ _ _ _ _ (fun y (h:Below Y82.heap.size Y82 y∧y.heap[d4]? = some (.cells #[.int .i64 0] 3 (0,0)))=>h.1) ?_
 refine run_takeG (i:=69) (.bool true) rfl (by kernel_rfl) (by kernel_rfl) (by kernel_rfl) (fun y h=>h) (quiet_yes _ (wanted_none rfl) fun y hy=>x_pick rfl (by repeat (first | exact e282 | refine ev_o (by assumption) rfl ?_)) (by repeat (first | exact e286 | refine ev_o (by assumption) rfl ?_)) y) ?_
 refine run_gen fun A70 hh => ?_
 have h70:A70=A69.put (some 287) (.bool true):=hh
 have s70:A70.tmps.size=294:=by rw [h70,sz_put]; exact s69
 have e287:A70.eval (.tmp 287) = .bool true:=by rw [h70]; exact ev_same (by rw [s69]; decide)
 clear hh
 refine run_takeG (i:=70) (.bool true) rfl (by kernel_rfl) (by kernel_rfl) (by kernel_rfl) (fun y h=>h) (quiet_yes _ (wanted_none rfl) fun y hy=>x_move rfl (by repeat (first | exact e287 | refine ev_o (by assumption) rfl ?_)) y) ?_
 refine run_gen fun A71 hh => ?_
 have h71:A71=A70.put (some 288) (.bool true):=hh
 have s71:A71.tmps.size=294:=by rw [h71,sz_put]; exact s70
 have e288:A71.eval (.tmp 288) = .bool true:=by rw [h71]; exact ev_same (by rw [s70]; decide)
 clear hh
 refine run_takeG (i:=71) (.slice u4 1 k4) rfl (by kernel_rfl) (by kernel_rfl) (by kernel_rfl) (fun y h=>h) (quiet_yes _ (wanted_yes (t:=288) rfl rfl (by rw [s71]; decide) (by repeat (first | exact e288 | refine ev_o (by assumption) rfl ?_))) fun y hy=>x_move rfl (by repeat (first | exact e38 | refine ev_o (by assumption) rfl ?_)) y) ?_
 refine run_gen fun A72 hh => ?_
 have h72:A72=A71.put (some 289) (.slice u4 1 k4):=hh
 have s72:A72.tmps.size=294:=by rw [h72,sz_put]; exact s71
 have e289:A72.eval (.tmp 289) = .slice u4 1 k4:=by rw [h72]; exact ev_same (by rw [s71]; decide)
 clear hh
 refine run_only (i:=72) (by kernel_rfl) (at_makeG (w0:=Y82) (t:=290) (z:= .cells #[.int .i64 0] 3 (0,0)) (fun q=> .slice (some ⟨q,0,none⟩) 1 1) (fun _=>False) slice_inj rfl (wanted_yes (t:=288) rfl rfl (by rw [s72]; decide) (by repeat (first | exact e288 | refine ev_o (by assumption) rfl ?_))) rfl (fun y _=>by go_simp) (fun y h=>h.size) (fun _ _ _ h=>h.elim) ?_)
 intro d5 hd5 _
 refine run_gen fun A73 hh => ?_
 have h73:A73=A72.put (some 290) (.slice (some ⟨d5,0,none⟩) 1 1):=hh
 have s73:A73.tmps.size=294:=by rw [h73,sz_put]; exact s72
 have e290:A73.eval (.tmp 290) = .slice (some ⟨d5,0,none⟩) 1 1:=by rw [h73]; exact ev_same (by rw [s72]; decide)
 clear hh
 refine run_takeG (i:=73) (.slice (some ⟨d5,0,none⟩) 1 1) rfl (by kernel_rfl) (by kernel_rfl) (by kernel_rfl) (fun y h=>h.1) (quiet_call (fn:=60) (args := #[.slice (some ⟨d5,0,none⟩) 1 1]) (wanted_yes (t:=288) rfl rfl (by rw [s73]; decide) (by repeat (first | exact e288 | refine ev_o (by assumption) rfl ?_))) (fun y hy=>(Go.Conc.run_call_body (fn:=Try.f60) rfl Try.func60 (by kernel_rfl) (by kernel_rfl)).trans (by simp only [List.map_toArray,List.map_cons,List.map_nil,e290])) (fun y hy=>(of_c _ _ _ y).mono (by rintro e w1 ⟨h1,rfl⟩; exact ⟨h1,Below.refl _ _⟩))) ?_
 refine run_gen fun A74 hh => ?_
 have h74:A74=A73.put (some 291) (.slice (some ⟨d5,0,none⟩) 1 1):=hh
 have s74:A74.tmps.size=294:=by rw [h74,sz_put]; exact s73
 have e291:A74.eval (.tmp 291) = .slice (some ⟨d5,0,none⟩) 1 1:=by rw [h74]; exact ev_same (by rw [s73]; decide)
 clear hh
 have f5:A74.eval (.tmp 289) = .slice u4 1 k4:=(by repeat (first | exact e289 | refine ev_o (by assumption) rfl ?_))
 refine run_only (i:=74) (by kernel_rfl) (at_quiet (.bool true) rfl (quiet_call (fn:=35) (args := #[.slice u4 1 k4, .slice (some ⟨d5,0,none⟩) 1 1]) (wanted_yes (t:=288) rfl rfl (by rw [s74]; decide) (by repeat (first | exact e288 | refine ev_o (by assumption) rfl ?_))) (fun y hy=>(Go.Conc.run_call_body (fn:=Try.f35) rfl Try.func35 (by kernel_rfl) (by kernel_rfl)).trans (by simp only [List.map_toArray,List.map_cons,List.map_nil,f5,e291])) (fun y hy => ?_)) ?_)
 ·have hl:Ints y (some ⟨d5,0,none⟩) 1 (ltN [0]):=ints_has [0] hy.2
  have hI:=Ints_c u4 1 k4 (natI [0]) (some ⟨d5,0,none⟩) 1 1 (ltN [0]) y (L38.out.below hy.1).cells hl (by decide)
  rw [show intsB 1 (natI [0]) 1 (ltN [0])=true by decide +kernel] at hI
  exact hI
 refine run_gen fun A75 hh => ?_
 have h75:A75=A74.put (some 292) (.bool true):=hh
 have s75:A75.tmps.size=294:=by rw [h75,sz_put]; exact s74
 have e292:A75.eval (.tmp 292) = .bool true:=by rw [h75]; exact ev_same (by rw [s74]; decide)
 clear hh
 refine run_mono _ _ _ _ _ (fun y (h:Below Y82.heap.size Y82 y∧y.heap[d5]? = some (.cells #[.int .i64 0] 3 (0,0)))=>h.1) ?_
 refine run_takeG (i:=75) (.bool true) rfl (by kernel_rfl) (by kernel_rfl) (by kernel_rfl) (fun y h=>h) (quiet_yes _ (wanted_none rfl) fun y hy=>x_pick rfl (by repeat (first | exact e288 | refine ev_o (by assumption) rfl ?_)) (by repeat (first | exact e292 | refine ev_o (by assumption) rfl ?_)) y) ?_
 refine run_gen fun A76 hh => ?_
 have h76:A76=A75.put (some 293) (.bool true):=hh
 have s76:A76.tmps.size=294:=by rw [h76,sz_put]; exact s75
 have e293:A76.eval (.tmp 293) = .bool true:=by rw [h76]; exact ev_same (by rw [s75]; decide)
 clear hh
 refine run_quiet (i:=76) (.bool true) (by kernel_rfl) rfl rfl (fun y hy=>x_assign rfl (by repeat (first | exact e293 | refine ev_o (by assumption) rfl ?_)) y) ?_
 refine run_gen fun A77 hh => ?_
 have h77:A77=A76.put (some 0) (.bool true):=hh
 have s77:A77.tmps.size=294:=by rw [h77,sz_put]; exact s76
 have e0:A77.eval (.tmp 0) = .bool true:=by rw [h77]; exact ev_same (by rw [s76]; decide)
 clear hh
 refine ⟨by kernel_rfl,fun y hy => ?_⟩
 have HBy:=bup B1.out hy
 go_wp2_with fail
 refine bodyPost_ret (v:= .bool true) ?_ (by repeat (first | exact df0 | refine df_o (by assumption) ?_)) ⟨rfl,HBy⟩
 have hz:A77.tmps[0]? = some (.bool true):=tmp_some s77 e0 (by decide)
 simp [results,Try.results18,go_sem,hz]
end Go.Proofs.Ytkbbhihndigmeaa
