/- The frame of the rows: how a table and a plan open. -/
import Derived.Test.YtkbbhihndigmeaaProg
import Derived.Test.YtkbbhihndigmeaaBasaa
import Derived.Test.YtkbbhihndigmeaaBasac
import Derived.ProofKit
import Derived.OpenShut
import Derived.Deep.Slices
import Derived.Lib.SmallJoins
import Derived.Shelf.Abstract
import Derived.Shelf.RegionOpen
import Derived.Conc.Own4
import Derived.Test.YtkbbhihndigmeaaBasbb
import Derived.Test.YtkbbhihndigmeaaBasba
import Derived.WalkKit
import Derived.Test.YtkbbhihndigmeaaBasad
import Derived.Test.YtkbbhihndigmeaaBasap
namespace Go.Proofs.Ytkbbhihndigmeaa
open Go Go.RowKit Go.ChangeShapes Go.WideShapes Go.Deep Go.Joins
theorem cellsLong:Try.prog.cellsOf 2=1:=by kernel_rfl
theorem cellsRow:Try.prog.cellsOf 25=1:=by kernel_rfl
theorem cellsRows:Try.prog.cellsOf 22=1:=by kernel_rfl
theorem cellsTab:Try.prog.cellsOf 24=1:=by kernel_rfl
theorem array1 {α : Type} {cs:Array α} (h:cs.size=1) : ∃ c0,cs = #[c0]:=by
 obtain ⟨l⟩:=cs
 match l,h with
 | [c0],_=>exact ⟨c0,rfl⟩
theorem add_plainS (b off n:Nat):(⟨b,off,none⟩:Addr).add n=⟨b,off+n,none⟩:=by
 unfold Addr.add
 split
 ·rename_i h
  rw [h]
  rfl
 ·rfl
section
variable {H:Type} {enc:TypeId × Value→H} {W:World} {sp:Nat→Bool}
set_option maxRecDepth 100000 in
theorem open_longsAt {k:Nat} {v:Value} {y:DataW H × List MemPlace} (h:DataW.trod enc Try.prog W 0 sp true k 25 [v]=some y) :
 ∃ a n cap f,v = .slice a n cap∧Ints W a n f:=by
 rcases open_ints Try.underlying25 Try.underlying2 cellsLong h with ⟨hcs,_⟩ | ⟨a',len,cap',zs,hcs,_,hl,hm,hk,_,hi,_⟩
 ·obtain rfl:v = .slice none 0 0:=by simpa using hcs
  exact ⟨none,0,0,fun _=>0,rfl, .inl rfl⟩
 ·obtain rfl:v = .slice (some a') len cap':=by simpa using hcs
  have hlk:len≤zs.length:=by rw [hk]; split <;> omega
  refine ⟨some a',len,cap',fun i=>zs.getD i 0,rfl,?_⟩
  by_cases h0:len=0
  ·exact .inl h0
  obtain ⟨b,off,rfl,hc⟩:=ints_at hi (by omega)
  exact .inr ⟨b,off,rfl,World.block_lt_of_cell? W _ (hc 0 (by omega)),fun i hin=>hc i (by omega)⟩
set_option maxRecDepth 100000 in
theorem open_longs {base:Nat} {v:Value} {d:DataW H} {p:List MemPlace} (hok:Value.okWide Try.prog W .any base 25 v) (h:DataW.Trod enc Try.prog W 0 sp true 25 v d p) :
 ∃ a n cap f,v = .slice a n cap∧Ints W a n f:=by
 obtain ⟨a,n,cap,rfl⟩:=okWide_slice Try.underlying25 hok
 obtain ⟨fuel,hf⟩:=h
 exact open_longsAt (by simpa [Value.cells] using hf)
set_option maxRecDepth 100000 in
theorem open_rows {k:Nat} {v:Value} {y:DataW H × List MemPlace} (h:DataW.trod enc Try.prog W 0 sp true k 22 [v]=some y) :
 ∃ a m cap f,v = .slice a m cap∧Tab W a m f:=by
 rcases open_slice1 Try.underlying22 cellsRow h with ⟨hcs,_⟩ | ⟨a',len,cap',m,n',V,D,Pl,hcs,_,hl,_,hm,_,hi⟩
 ·obtain rfl:v = .slice none 0 0:=by simpa using hcs
  exact ⟨none,0,0,fun _=>default,rfl, .inl rfl,fun i hi=>absurd hi (Nat.not_lt_zero i)⟩
 ·obtain rfl:v = .slice (some a') len cap':=by simpa using hcs
  have hlm:len≤m:=by rw [hm]; split <;> omega
  obtain ⟨f,hf⟩:=choose_lt (n:=m) (p:=fun i (q:Row3)=>W.cell? (a'.add i)=some (.slice q.a q.n q.cap)∧Ints W q.a q.n q.g) (fun i hik=>by
   obtain ⟨c,t⟩:=hi i hik
   obtain ⟨a,n,cap,g,e,hI⟩:=open_longsAt t
   rw [e] at c
   exact ⟨⟨a,n,cap,g⟩,c,hI⟩)
  refine ⟨some a',len,cap',f,rfl,?_,fun i hi=>(hf i (by omega)).2⟩
  by_cases h0:len=0
  ·exact .inl h0
  obtain ⟨b,off,spot⟩:=a'
  have hspot:spot=none:=by simpa [Addr.add] using World.cell?_spot (hf 0 (by omega)).1
  subst hspot
  have hf' : ∀ i,i<len→W.cell? ⟨b,off+i,none⟩=some (.slice (f i).a (f i).n (f i).cap):=fun i hin=>by
   have:=(hf i (by omega)).1
   rwa [add_plainS] at this
  exact .inr ⟨b,off,rfl,World.block_lt_of_cell? W _ (hf' 0 (by omega)),hf'⟩
set_option maxRecDepth 100000 in
theorem open_table {base:Nat} {v:Value} {d:DataW H} {p:List MemPlace} (hok:Value.okWide Try.prog W .any base 24 v) (h:DataW.Trod enc Try.prog W 0 sp true 24 v d p) :
 ∃ a m cap f,v=tabV a m cap∧Tab W a m f:=by
 obtain ⟨cs,rfl,hsz⟩:=okWide_struct Try.underlying24 hok
 obtain ⟨c0,rfl⟩:=array1 (hsz.trans cellsTab)
 obtain ⟨fuel,hf⟩:=h
 obtain ⟨xs,n,_,_,_,hlen,hg⟩:=DataW.trod_struct Try.underlying24 hf
 match xs,hlen with
 | [y0],_=>
   have h0:=hg 0 _ rfl
   obtain ⟨a,m,cap,f,rfl,hT⟩:=open_rows (v:=c0) (by simpa [Value.cells,cellsRows] using h0)
   exact ⟨a,m,cap,f,rfl,hT⟩
end
end Go.Proofs.Ytkbbhihndigmeaa

namespace Go.Proofs.Ytkbbhihndigmeaa
open Go Go.RowKit
theorem wfu8 {n:Int} (h:(Lit.int .u8 n).wf=true):0≤n∧n≤255:=by
 simp [Lit.wf] at h
 have h1:IntKind.u8.min=0:=by decide
 have h2:IntKind.u8.max=255:=by decide
 omega
theorem wfi8 {n:Int} (h:(Lit.int .i8 n).wf=true) : -128≤n∧n≤127:=by
 simp [Lit.wf] at h
 have h1:IntKind.i8.min = -128:=by decide
 have h2:IntKind.i8.max=127:=by decide
 omega
end Go.Proofs.Ytkbbhihndigmeaa

namespace Go.Proofs.Ytkbbhihndigmeaa
open Go Go.RowKit Go.Shelf
theorem great_no {m:Nat} {f:Nat→Row3} (h:greatB m f=false):m≤8 ∧ ∀ i,i<m→(f i).n≤8:=by
 simp only [greatB,Bool.or_eq_false_iff,decide_eq_false_iff_not,Bool.not_eq_false'] at h
 refine ⟨by omega,fun i hi => ?_⟩
 have:=(allB_iff _ _).1 h.2 i hi
 simpa using this
theorem two_all {T:Int} {X Y:List Nat} {e:Ending} {w:World} (h:(T ≠ 0∧e = .returned (.tuple #[.slice none 0 0, .slice none 0 0, .int .i64 T]))∨(T=0∧TwoL X Y 0 e w)):TwoL (if T=0 then X else []) (if T=0 then Y else []) T e w:=by
 rcases h with ⟨h,rfl⟩ | ⟨rfl,h⟩
 ·rw [if_neg h,if_neg h]
  exact ⟨none,0,none,0,rfl,lst_nil,lst_nil⟩
 ·rw [if_pos rfl,if_pos rfl]
  exact h
theorem one_all {T:Int} {X:List Nat} {e:Ending} {w:World} (h:(T ≠ 0∧e = .returned (.tuple #[.slice none 0 0, .int .i64 T]))∨T=0 ∧ ∃ x c,e = .returned (.tuple #[.slice x X.length c, .int .i64 0])∧Lst w X x c) : ∃ x c,e = .returned (.tuple #[.slice x (if T=0 then X else []).length c, .int .i64 T])∧Lst w (if T=0 then X else []) x c:=by
 rcases h with ⟨h,rfl⟩ | ⟨rfl,h⟩
 ·rw [if_neg h]
  exact ⟨none,0,rfl,lst_nil⟩
 ·rw [if_pos rfl]
  exact h
theorem intsL_yes {X:List Nat} {p q:Option Addr} {c d:Nat} {w:World} (hX:Lst w X p c) (hY:Lst w X q d):Calls Try.prog 35 #[.slice p X.length c, .slice q X.length d] w fun e w'=>e = .returned (.bool true)∧Below w.heap.size w w':=by
 have h:=IntsL_c X X p q c d w hX hY
 rw [decide_eq_true rfl] at h
 exact h
end Go.Proofs.Ytkbbhihndigmeaa

namespace Go.Proofs.Ytkbbhihndigmeaa
open Go Go.RowKit Go.Shelf
theorem fine_great {m:Nat} {f:Nat→Row3} (h:tableE m f=0):greatB m f=false:=by
 have hO:=okay_of h
 have h4:=hO.m4
 simp only [greatB,Bool.or_eq_false_iff,decide_eq_false_iff_not,Bool.not_eq_false']
 refine ⟨by omega,(allB_iff _ _).2 fun i hi => ?_⟩
 have h1:=hO.len i hi
 have h2:=hO.n4
 rw [decide_eq_true_eq]
 omega
def fineB (m:Nat) (f:Nat→Row3):Bool:=decide (tableE m f=0)
set_option maxHeartbeats 4000000 in
theorem fine_c (a:Option Addr) (m cap:Nat) (f:Nat→Row3) (w:World) (hf:Tab w a m f):Calls Try.prog 40 #[tabV a m cap] w fun e w'=>e = .returned (.bool (fineB m f))∧Below w.heap.size w w':=by
 obtain ⟨W,hW⟩ : ∃ W,w.alloc (.cells #[.slice a m cap] 24)=W:=⟨_,rfl⟩
 have hB:Below w.heap.size w W:=by rw [← hW]; exact Below.alloc1 (Below.refl _ _) _ (Nat.le_refl _)
 have hR:RowIs W w.heap.size #[.slice a m cap] 24:=by rw [← hW]; exact heap_new_at _ _ _ rfl
 have r0:W.cell? ⟨w.heap.size,0,none⟩=some (.slice a m cap):=RowIs.cell hR 0
 have rz:w.heap.size<W.heap.size:=hR.lt
 have HF:=Lib.hid (hf.below hB)
 clear hR hf
 cases hg:greatB m f with
 | true=>
   have e:fineB m f=false:=decide_eq_false fun h=>by rw [fine_great h] at hg; cases hg
   rw [e]
   clear e
   have HG:=Lib.hid hg
   clear hg
   go_enter Try.func40,Try.ntmps40
   go_wp2_with fail
   refine (great_c a m cap f _ HF.out).mono ?_
   rintro e w1 ⟨rfl,hb1⟩
   rw [HG.out]
   go_wp2_with fail
   go_ret
   exact ⟨rfl,bup hB hb1⟩
 | false=>
   have hm2:m≤1048576:=by have:=(great_no hg).1; omega
   have HG:=Lib.hid hg
   obtain ⟨T,hT⟩ : ∃ T,tableE m f=T:=⟨_,rfl⟩
   have e:fineB m f=(T==0):=by rw [fineB,hT]; simp [Bool.beq_eq_decide_eq]
   rw [e]
   have HT:=Lib.hid hT
   clear e hg hT
   go_enter Try.func40,Try.ntmps40
   go_wp2_with fail
   refine (great_c a m cap f _ HF.out).mono ?_
   rintro e w1 ⟨rfl,hb1⟩
   rw [HG.out]
   have q0:=(hb1.cell (p:=⟨w.heap.size,0,none⟩) rz).trans r0
   have qz:=Nat.lt_of_lt_of_le rz hb1.size
   clear r0 rz
   go_wp2_with fail
   refine (rcheckTable_c a m cap f _ (HF.out.below hb1) hm2).mono ?_
   rintro e w2 ⟨rfl,hb2⟩
   rw [HT.out]
   go_wp2_with fail
   go_ret
   exact ⟨rfl,bup hB (bup hb1 hb2)⟩
set_option maxHeartbeats 4000000 in
theorem small_c (n d:Int) (w:World) (h1:1≤d) (h2:d≤400000000) (h3 : -100*d≤n) (h4:n≤100*d) (h5:ratN n d=n) (h6:ratD n d=d):Calls Try.prog 43 #[.agg #[.int .i64 n, .int .i64 d]] w fun e w'=>e = .returned (.bool true)∧Below w.heap.size w w':=by
 obtain ⟨W,hW⟩ : ∃ W,w.alloc (.cells #[.int .i64 n, .int .i64 d] 30)=W:=⟨_,rfl⟩
 have hB:Below w.heap.size w W:=by rw [← hW]; exact Below.alloc1 (Below.refl _ _) _ (Nat.le_refl _)
 have hR:RowIs W w.heap.size #[.int .i64 n, .int .i64 d] 30:=by rw [← hW]; exact heap_new_at _ _ _ rfl
 have r0:W.cell? ⟨w.heap.size,0,none⟩=some (.int .i64 n):=RowIs.cell hR 0
 have r1:W.cell? ⟨w.heap.size,1,none⟩=some (.int .i64 d):=RowIs.cell hR 1
 have rz:w.heap.size<W.heap.size:=hR.lt
 have hw1:IntKind.i64.wrap (-100*d) = -100*d:=IntWalk.i64_in _ (by omega)
 have hw2:IntKind.i64.wrap (100*d)=100*d:=IntWalk.i64_in _ (by omega)
 have t1:(1:Int)≤d:=h1
 have C1:=fun (x:World)=>rBy_c n d x (by omega) (by omega) (by omega) (by omega)
 unfold ratV at C1
 rw [h5,h6] at C1
 replace C1:=Lib.hid C1
 have eqq : ∀ x,(Op.equalIn 10000 30 (.agg #[.int .i64 n, .int .i64 d]) (.agg #[.int .i64 n, .int .i64 d])).run Try.prog x = .ok true x:=fun x=>(eqRat n d n d x).trans (by simp)
 clear h5 h6 hR h1
 have hlc:=fun (x:Later W)=>later_cell x
 go_enter Try.func43,Try.ntmps43
 go_wp2_with fail
 refine wp_region_later (by kernel_rfl) (by kernel_rfl) ?_
 repeat (go_big_quiet_step ((first | (with_reducible refine calls_later (C1.out _)))))
 refine wpQuiet_nil ?_
 clear hlc
 rintro ⟨w1,hb1⟩
 go_wp2_with fail
 go_ret
 exact ⟨rfl,bup hB hb1⟩
end Go.Proofs.Ytkbbhihndigmeaa

namespace Go.Proofs.Ytkbbhihndigmeaa.RC
open Go Go.RowKit
section
variable {P:Program} {ops:Array Oper} {md:Region.Mode} {Q:Exit→Act→World→Prop} {C:World→Prop}
def CallB (P:Program) (ops:Array Oper) (C F:World→Prop) (o:Oper) (F':Value→World→Prop) (a:Act):Prop:=
 Region.wanted o (yielded ops a.tmps)=true∧(∀ v,Stable (F' v))∧(∀ v w,F' v w→C w) ∧ ∀ w,F w → ∃ fn args,(execOp a.eval o).run P w = .ok (.enter fn args) w∧Calls P fn args w fun e w'=>(∃ v,e = .returned v∧F' v w')∧Below w.heap.size w w'
def RunY (P:Program) (md:Region.Mode) (ops:Array Oper) (Q:Exit→Act→World→Prop) (C:World→Prop) (w0:World) (x c tx:Nat) (z:Obj) (g:Nat):Nat→Array Bool→Act→(World→Prop)→Prop
 | 0,done,a,F=>Run P md ops Q C (g+1) done a F ∧ ∀ b,w0.heap.size≤b→Run P md ops Q C g (done.setIfInBounds x true) (a.put (some tx) (ptrTo b)) (fun w=>F w∧w.heap[b]? = some z)
 | f+1,done,a,F=>done.getD c true=false∧x ∈ Region.ready md ops done∧(∃ i ∈ Region.ready md ops done,i ≠ x) ∧ ∀ i ∈ Region.ready md ops done,i ≠ x → ∃ o,ops[i]? = some o ∧
    ((∃ v,QuietIn P ops F o v a∧RunY P md ops Q C w0 x c tx z g f (done.setIfInBounds i true) (a.put o.dst v) F) ∨
     (∃ F',CallB P ops C F o F' a ∧ ∀ v,(∃ w,F' v w)→RunY P md ops Q C w0 x c tx z g f (done.setIfInBounds i true) (a.put o.dst v) (F' v)))
variable {w0:World} {x c tx:Nat} {z:Obj} {g:Nat} {ox:Oper}
theorem runY_made (hox:ops[x]? = some ox) (hdx:ox.dst=some tx) (hsel : ∀ (j:Nat) (o:Oper) cs b,ops[j]? = some o→o.op ≠ .select cs b) (hW:waitsB md ops x c=true) (hA:apartXB md ops x=true) (hxc:x ≠ c) :
 ∀ (f:Nat) (done:Array Bool) (a:Act) (F:World→Prop) (b:Nat),done.size=ops.size→w0.heap.size≤b→(∀ w,F w→C w)→RunY P md ops Q C w0 x c tx z g f done a F →
   Run P md ops Q C (f+g) (done.setIfInBounds x true) (a.put (some tx) (ptrTo b)) (fun w=>F w∧w.heap[b]? = some z):=by
 intro f
 induction f with
 | zero=>intro done a F b _ hb _ h; rw [Nat.zero_add]; exact h.2 b hb
 | succ f ih=>
   intro done a F b hds hb hC h
   obtain ⟨hc,hxr,⟨i0,hi0,hi0x⟩,hall⟩:=h
   have hxs:x<done.size:=by rw [hds]; exact (Array.getElem?_eq_some_iff.1 hox).1
   have hx0:done.getD x false=false:=getD_both (mem_ready.1 hxr).1
   rw [Nat.succ_add]
   refine ⟨List.ne_nil_of_mem (ready_mono hi0 hi0x),fun i hi => ?_⟩
   obtain ⟨hir,hix⟩:=ready_back hW hc hxc hxs hi
   obtain ⟨o,ho,hstep⟩:=hall i hir hix
   obtain ⟨p1,p2,p3⟩:=Oper.apart_spec (apart_of hA hox ho hix hir hx0)
   rw [hdx] at p1 p2
   have e1:=execOp_put o (fun cs b=>hsel i o cs b ho) a (some tx) (ptrTo b) p1
   have e2:=wanted_put o a (some tx) (ptrTo b) p1
   refine ⟨o,ho,?_⟩
   rcases hstep with ⟨v,hq,hK⟩ | ⟨F',⟨hwt,hS,hC',hrun⟩,hK⟩
   ·refine .inl ⟨v,(hq.of_same e1 e2).mono (fun w hw=>hw.1),?_⟩
    have:=ih _ _ F b (by simpa using hds) hb hC hK
    rw [Act.put_comm a _ _ (fun d hd e=>p2 d hd e),Array.setIfInBounds_comm _ _ hix.symm]
    exact this
   ·refine .inr (.inr (.inr (.inr ⟨fun v w=>F' v w∧w.heap[b]? = some z,⟨by rw [e2]; exact hwt,fun v w w' h hb'=>⟨hS v w w' h.1 hb',(hb'.block b (heap_size_lt h.2)).trans h.2⟩,fun v w hw=>hC' v w hw.1,fun w hw => ?_⟩,fun v hv => ?_⟩)))
    ·obtain ⟨fn,args,e,hcall⟩:=hrun w hw.1
     rw [e1]
     refine ⟨fn,args,e,hcall.mono ?_⟩
     rintro e w' ⟨⟨v,rfl,hf⟩,hbl⟩
     exact ⟨v,rfl,hf,(hbl.block b (heap_size_lt hw.2)).trans hw.2⟩
    ·obtain ⟨w,hf,_⟩:=hv
     have:=ih _ _ (F' v) b (by simpa using hds) hb (hC' v) (hK v ⟨w,hf⟩)
     rw [Act.put_comm a _ _ (fun d hd e=>p2 d hd e),Array.setIfInBounds_comm _ _ hix.symm]
     exact this
theorem runY_float (hox:ops[x]? = some ox) (hgx:ox.guard=none) (hdx:ox.dst=some tx) (hal : ∀ (a:Act) (w:World),(execOp a.eval ox).run P w = .ok (.value (ptrTo w.heap.size)) (w.alloc z)) (hsel : ∀ (j:Nat) (o:Oper) cs b,ops[j]? = some o→o.op ≠ .select cs b) (hW:waitsB md ops x c=true) (hA:apartXB md ops x=true) (hxc:x ≠ c) (hC0 : ∀ w,C w→w0.heap.size≤w.heap.size) :
 ∀ (f:Nat) (done:Array Bool) (a:Act) (F:World→Prop),done.size=ops.size→(∀ w,F w→C w)→RunY P md ops Q C w0 x c tx z g f done a F→Run P md ops Q C (f+g+1) done a F:=by
 intro f
 induction f with
 | zero=>intro done a F _ _ h; rw [Nat.zero_add]; exact h.1
 | succ f ih=>
   intro done a F hds hC H
   have H':=H
   obtain ⟨hc,hxr,⟨i0,hi0,hi0x⟩,hall⟩:=H
   refine ⟨List.ne_nil_of_mem hxr,fun i hi => ?_⟩
   by_cases hix:i=x
   ·subst hix
    refine ⟨ox,hox, .inr (.inl ⟨fun v w=> ∃ b,v=ptrTo b∧w0.heap.size≤b∧w.heap[b]? = some z,⟨by simp [Region.wanted,hgx],fun v w w' h hb => ?_,fun w hw=>⟨_,_,hal a w,(Below.refl _ w).alloc (Nat.le_refl _) z,w.heap.size,rfl,hC0 w (hC w hw),World.alloc_heap_new w z⟩⟩,fun v hv => ?_⟩)⟩
    ·obtain ⟨b,e,h1,h2⟩:=h
     exact ⟨b,e,h1,(hb.block b (heap_size_lt h2)).trans h2⟩
    obtain ⟨_,b,rfl,hb0,_⟩:=hv
    rw [hdx]
    refine run_mono _ _ _ _ _ ?_ (runY_made hox hdx hsel hW hA hxc (f+1) done a F b hds hb0 hC H')
    rintro w ⟨h1,b',e1,_,h2⟩
    have eb:=ptr_inj e1
    subst eb
    exact ⟨h1,h2⟩
   ·obtain ⟨o,ho,hstep⟩:=hall i hi hix
    refine ⟨o,ho,?_⟩
    rcases hstep with ⟨v,hq,hK⟩ | ⟨F',⟨hwt,hS,hC',hrun⟩,hK⟩
    ·refine .inl ⟨v,hq,?_⟩
     have:=ih _ _ F (by simpa using hds) hC hK
     rw [show f+1+g=f+g+1 by omega]
     exact this
    ·refine .inr (.inr (.inr (.inr ⟨F',⟨hwt,hS,hC',fun w hw => ?_⟩,fun v hv => ?_⟩)))
     ·obtain ⟨fn,args,e,hcall⟩:=hrun w hw
      exact ⟨fn,args,e,hcall.mono fun _ _ h=>h.1⟩
     ·have:=ih _ _ (F' v) (by simpa using hds) (hC' v) (hK v hv)
      rw [show f+1+g=f+g+1 by omega]
      exact this
theorem runY_quiet {f i:Nat} {o:Oper} {done:Array Bool} {a:Act} {F:World→Prop} (v:Value) (hc:done.getD c true=false) (hr:(Region.ready md ops done).filter (· != x)=[i]) (hxr:(Region.ready md ops done).contains x=true) (ho:ops[i]? = some o) (hq:QuietIn P ops F o v a)
 (h:RunY P md ops Q C w0 x c tx z g f (done.setIfInBounds i true) (a.put o.dst v) F):RunY P md ops Q C w0 x c tx z g (f+1) done a F:=by
 have hm : ∀ j,(j ∈ Region.ready md ops done∧j ≠ x)↔j=i:=fun j=>by
  have:j ∈ (Region.ready md ops done).filter (· != x)↔j=i:=by rw [hr]; simp
  simpa using this
 refine ⟨hc,by simpa using hxr,⟨i,(hm i).2 rfl⟩,fun j hj hjx => ?_⟩
 obtain rfl:=(hm j).1 ⟨hj,hjx⟩
 exact ⟨o,ho, .inl ⟨v,hq,h⟩⟩
theorem runY_call {f i:Nat} {o:Oper} {done:Array Bool} {a:Act} {F:World→Prop} (F':Value→World→Prop) (hc:done.getD c true=false) (hr:(Region.ready md ops done).filter (· != x)=[i]) (hxr:(Region.ready md ops done).contains x=true) (ho:ops[i]? = some o) (hg:o.guard=none) (hS : ∀ v,Stable (F' v)) (hC : ∀ v w,F' v w→C w)
 (hrun : ∀ w,F w → ∃ fn args,(execOp a.eval o).run P w = .ok (.enter fn args) w∧Calls P fn args w fun e w'=>(∃ v,e = .returned v∧F' v w')∧Below w.heap.size w w')
 (h : ∀ v,(∃ w,F' v w)→RunY P md ops Q C w0 x c tx z g f (done.setIfInBounds i true) (a.put o.dst v) (F' v)):RunY P md ops Q C w0 x c tx z g (f+1) done a F:=by
 have hm : ∀ j,(j ∈ Region.ready md ops done∧j ≠ x)↔j=i:=fun j=>by
  have:j ∈ (Region.ready md ops done).filter (· != x)↔j=i:=by rw [hr]; simp
  simpa using this
 refine ⟨hc,by simpa using hxr,⟨i,(hm i).2 rfl⟩,fun j hj hjx => ?_⟩
 obtain rfl:=(hm j).1 ⟨hj,hjx⟩
 exact ⟨o,ho, .inr ⟨F',⟨by simp [Region.wanted,hg],hS,hC,hrun⟩,h⟩⟩
theorem runY_mono : ∀ (f:Nat) (done:Array Bool) (a:Act) (F F':World→Prop),(∀ w,F' w→F w)→RunY P md ops Q C w0 x c tx z g f done a F→RunY P md ops Q C w0 x c tx z g f done a F':=by
 intro f
 induction f with
 | zero=>intro done a F F' hF h; exact ⟨run_mono _ _ _ _ _ hF h.1,fun b hb=>run_mono _ _ _ _ _ (fun w hw=>⟨hF w hw.1,hw.2⟩) (h.2 b hb)⟩
 | succ f ih=>
   intro done a F F' hF h
   refine ⟨h.1,h.2.1,h.2.2.1,fun i hi hix => ?_⟩
   obtain ⟨o,ho,hs⟩:=h.2.2.2 i hi hix
   refine ⟨o,ho,?_⟩
   rcases hs with ⟨v,hq,hK⟩ | ⟨F2,⟨hwt,hS,hC,hrun⟩,hK⟩
   ·exact .inl ⟨v,hq.mono hF,ih _ _ _ _ hF hK⟩
   ·exact .inr ⟨F2,⟨hwt,hS,hC,fun w hw=>hrun w (hF w hw)⟩,hK⟩
end
end Go.Proofs.Ytkbbhihndigmeaa.RC

namespace Go.Proofs.Ytkbbhihndigmeaa
open Go Go.RowKit Go.Shelf
theorem dot_between {x f:Nat→Int} {b:Int} : ∀ {m:Nat},(∀ i,i<m→0≤x i)→(∀ i,i<m → -b≤f i∧f i≤b) → -b*sumI x m≤dotN x f m∧dotN x f m≤b*sumI x m:=by
 intro m hx hf
 have h1:=dotN_mono (x:=x) (f:=fun _=> -b) (g:=f) (m:=m) hx fun i hi=>(hf i hi).1
 have h2:=dotN_mono (x:=x) (f:=f) (g:=fun _=>b) (m:=m) hx fun i hi=>(hf i hi).2
 rw [dotN_const,dotN_sum1] at h1 h2
 exact ⟨h1,h2⟩
theorem sure_between {f:Nat→Row3} {m n:Nat} {p:Nat→Int} (hO:Okay m n f) (hp : ∀ i,i<m→0≤p i) : -100*sumI p m≤sureN f m n p∧sureN f m n p≤100*sumI p m:=by
 obtain ⟨j,hj,e⟩:=leastF_is (ag (lossA f) p m) n hO.n1
 have e2:sureN f m n p=ag (lossA f) p m j:=e
 rw [e2]
 exact dot_between hp fun i hi=>hO.num i hi j hj
theorem rat_small {s S:Int} (hS:0<S) (h1 : -100*S≤s) (h2:s≤100*S):1≤ratD s S∧ratD s S≤S ∧ -100*ratD s S≤ratN s S∧ratN s S≤100*ratD s S∧ratN (ratN s S) (ratD s S)=ratN s S∧ratD (ratN s S) (ratD s S)=ratD s S:=by
 have hd:=ratD_pos s hS
 have he:=rat_eqn s hS
 obtain ⟨i1,i2⟩:=rat_idem s hS
 refine ⟨hd,ratD_le s hS,?_,?_,i1,i2⟩
 ·refine Int.le_of_mul_le_mul_right (a:=S) ?_ hS
  have:=Int.mul_le_mul_of_nonneg_right h1 (Int.le_of_lt hd)
  rw [← he]
  grind
 ·refine Int.le_of_mul_le_mul_right (a:=S) ?_ hS
  have:=Int.mul_le_mul_of_nonneg_right h2 (Int.le_of_lt hd)
  rw [← he]
  grind
theorem sure_small {f:Nat→Row3} {m n:Nat} {p:Nat→Int} (hO:Okay m n f) (hp : ∀ i,i<m→0≤p i) (h0:0<sumI p m):1≤ratD (sureN f m n p) (sumI p m)∧ratD (sureN f m n p) (sumI p m)≤sumI p m ∧ -100*ratD (sureN f m n p) (sumI p m)≤ratN (sureN f m n p) (sumI p m)∧ratN (sureN f m n p) (sumI p m)≤100*ratD (sureN f m n p) (sumI p m) ∧
 ratN (ratN (sureN f m n p) (sumI p m)) (ratD (sureN f m n p) (sumI p m))=ratN (sureN f m n p) (sumI p m)∧ratD (ratN (sureN f m n p) (sumI p m)) (ratD (sureN f m n p) (sumI p m))=ratD (sureN f m n p) (sumI p m):=
 rat_small h0 (sure_between hO hp).1 (sure_between hO hp).2
theorem sum_upto {x:Nat→Int} {b:Int} : ∀ {m:Nat},(∀ i,i<m→x i≤b)→sumI x m≤b*m
 | 0,_=>by simp [sumI]
 | m+1,h=>by
   have h1:=sum_upto (m:=m) fun i hi=>h i (by omega)
   have h2:=h m (by omega)
   rw [sumI]
   have:b*((m+1:Nat):Int)=b*(m:Int)+b:=by grind
   omega
theorem val_small {f:Nat→Row3} {m n:Nat} {x:Nat→Int} (hO:Okay m n f) (h:BestR (lossA f) m n x):1≤(valOf (lossA f) m n).2∧(valOf (lossA f) m n).2≤96000000 ∧ -100*(valOf (lossA f) m n).2≤(valOf (lossA f) m n).1∧(valOf (lossA f) m n).1≤100*(valOf (lossA f) m n).2 ∧
 ratN (valOf (lossA f) m n).1 (valOf (lossA f) m n).2=(valOf (lossA f) m n).1∧ratD (valOf (lossA f) m n).1 (valOf (lossA f) m n).2=(valOf (lossA f) m n).2:=by
 have h0:0<sumI x m:=by rw [← tot_sum]; exact h.sure.2.1
 have e:=(sure_val hO (fun i hi=>(h.few i hi).1) h0).2 h.sure
 have e1:ratN (sureN f m n x) (sumI x m)=(valOf (lossA f) m n).1:=congrArg Prod.fst e
 have e2:ratD (sureN f m n x) (sumI x m)=(valOf (lossA f) m n).2:=congrArg Prod.snd e
 have hs:=sure_small hO (fun i hi=>(h.few i hi).1) h0
 rw [e1,e2] at hs
 have hb:=sum_upto (x:=x) (m:=m) (b:=24000000) fun i hi=>(h.few i hi).2
 have h4:=hO.m4
 have:(24000000:Int)*(m:Int)≤96000000:=by omega
 exact ⟨hs.1,by omega,hs.2.2⟩
end Go.Proofs.Ytkbbhihndigmeaa

namespace Go.Proofs.Ytkbbhihndigmeaa
open Go Go.RowKit Go.Shelf
def ValO (m n:Nat) (A:Nat→Nat→Int) (e:Ending) (w:World):Prop:= ∃ gr xr gk xk,BestR A m n xr∧BestR (flip A) n m xk∧e = .returned (.tuple #[.agg #[.int .i64 (valOf A m n).1, .int .i64 (valOf A m n).2], .slice (some ⟨gr,0,none⟩) m m, .slice (some ⟨gk,0,none⟩) n n, .bool true])∧RowIs w gr (rowA m xr) 2∧RowIs w gk (rowA n xk) 2
set_option maxRecDepth 100000 in
set_option maxHeartbeats 16000000 in
theorem value_c (a:Option Addr) (m n cap:Nat) (f:Nat→Row3) (w:World) (hf:Tab w a m f) (hO:Okay m n f) :
 Calls Try.prog 41 #[tabV a m cap] w fun e w'=>ValO m n (lossA f) e w'∧Below w.heap.size w w':=by
 obtain ⟨W,hW⟩ : ∃ W,(w.alloc (.cells #[.slice a m cap] 24)).alloc (.cells #[.int .i64 0, .int .i64 0] 30)=W:=⟨_,rfl⟩
 have hB:Below w.heap.size w W:=by rw [← hW]; exact Below.alloc1 (Below.alloc1 (Below.refl _ _) _ (Nat.le_refl _)) _ (Nat.le_refl _)
 have R1:=Lib.hid (show RowIs W w.heap.size #[.slice a m cap] 24 by rw [← hW]; exact RowIs.alloc (heap_new_at _ _ _ rfl) _)
 have RZ:=Lib.hid (show RowIs W (w.heap.size+1) #[.int .i64 0, .int .i64 0] 30 by rw [← hW]; exact heap_new_at _ _ _ (by simp))
 have H1:=Lib.hid (hf.below hB)
 have B1:=Lib.hid hB
 have hE:=okay_is hO
 have hf0:(f 0).n=n:=hO.len 0 hO.m1
 have hm4:=hO.m4
 have hn4:=hO.n4
 have hm2:m≤1048576:=by omega
 have hr2 : ∀ i,i<m→(f i).n≤1048576:=fun i hi=>by rw [hO.len i hi]; omega
 have KM:=Lib.hid hm4
 have KN:=Lib.hid hn4
 have F0:=Lib.hid hf0
 have RR:=Lib.hid hr2
 have K0:=Lib.hid hE
 have KO:=Lib.hid hO
 obtain ⟨v1,hv1⟩ : ∃ v1,(valOf (lossA f) m n).1=v1:=⟨_,rfl⟩
 obtain ⟨v2,hv2⟩ : ∃ v2,(valOf (lossA f) m n).2=v2:=⟨_,rfl⟩
 have hv:valueR m f=(v1,v2,0):=by unfold valueR; rw [if_neg (fun h=>h hE),hf0, ← hv1, ← hv2]
 have KV:=Lib.hid hv
 have V1:=Lib.hid hv1
 have V2:=Lib.hid hv2
 clear hf hB hE hf0 hm4 hn4 hr2 hO hv hv1 hv2
 go_enter Try.func41,Try.ntmps41
 have cc1:W.cell? ⟨w.heap.size,0,none⟩=some (.slice a m cap):=RowIs.cell R1.out 0
 have zz2:w.heap.size<W.heap.size:=RowIs.lt R1.out
 have C3:=Value_v a m cap f W H1.out hm2 RR.out
 rw [KV.out] at C3
 replace C3:=Lib.hid C3
 go_wp2_with fail
 clear hW cc1 zz2
 refine (C3.out).mono ?_
 rintro e w4 ⟨rfl,hbq⟩
 replace R1:=Lib.hid (RowIs.below R1.out hbq)
 replace RZ:=Lib.hid (RowIs.below RZ.out hbq)
 replace H1:=Lib.hid (H1.out.below hbq)
 replace B1:=Lib.hid (bup B1.out hbq)
 clear hbq
 clear C3
 have nq1:w4.heap.size ≠ w.heap.size+1:=by have:=RowIs.lt RZ.out; omega
 obtain ⟨Y5,hY5⟩ : ∃ Y5,w4.alloc (.cells #[.int .i64 v1, .int .i64 v2] 30)=Y5:=⟨_,rfl⟩
 have hb6:Below w4.heap.size w4 Y5:=by rw [← hY5]; exact Below.alloc1 (Below.refl _ _) _ (Nat.le_refl _)
 have hr7:RowIs Y5 w4.heap.size #[.int .i64 v1, .int .i64 v2] 30:=by rw [← hY5]; exact heap_new_at _ _ _ rfl
 replace R1:=Lib.hid (RowIs.below R1.out hb6)
 replace RZ:=Lib.hid (RowIs.below RZ.out hb6)
 replace H1:=Lib.hid (H1.out.below hb6)
 replace B1:=Lib.hid (bup B1.out hb6)
 have Q1:=Lib.hid hr7
 clear hb6 hr7
 have cc8:Y5.cell? ⟨w.heap.size,0,none⟩=some (.slice a m cap):=RowIs.cell R1.out 0
 have zz9:w.heap.size<Y5.heap.size:=RowIs.lt R1.out
 have C10:=Lib.hid (Rows_v a m cap f Y5 H1.out hm2 RR.out)
 go_wp2_with fail
 clear hY5 cc8 zz9
 refine (C10.out).mono ?_
 rintro e w11 ⟨hres,hbq⟩
 obtain ⟨gr,xr,hbest,rfl,hrow⟩:=hres.elim (fun h=>absurd K0.out h.1) (fun h=>h.2)
 replace R1:=Lib.hid (RowIs.below R1.out hbq)
 replace RZ:=Lib.hid (RowIs.below RZ.out hbq)
 replace H1:=Lib.hid (H1.out.below hbq)
 replace Q1:=Lib.hid (RowIs.below Q1.out hbq)
 replace B1:=Lib.hid (bup B1.out hbq)
 rw [F0.out] at hbest
 have BR:=Lib.hid hbest
 have Ggr:=Lib.hid hrow
 clear hbest hrow hbq hres C10
 have cc12:w11.cell? ⟨w.heap.size,0,none⟩=some (.slice a m cap):=RowIs.cell R1.out 0
 have zz13:w.heap.size<w11.heap.size:=RowIs.lt R1.out
 have C14:=Lib.hid (Columns_v a m cap f w11 H1.out hm2 RR.out)
 go_wp2_with fail
 clear cc12 zz13
 refine (C14.out).mono ?_
 rintro e w15 ⟨hres,hbq⟩
 obtain ⟨gk,xk,hbest,rfl,hrow⟩:=hres.elim (fun h=>absurd K0.out h.1) (fun h=>h.2)
 replace R1:=Lib.hid (RowIs.below R1.out hbq)
 replace RZ:=Lib.hid (RowIs.below RZ.out hbq)
 replace H1:=Lib.hid (H1.out.below hbq)
 replace Q1:=Lib.hid (RowIs.below Q1.out hbq)
 replace Ggr:=Lib.hid (RowIs.below Ggr.out hbq)
 replace B1:=Lib.hid (bup B1.out hbq)
 rw [F0.out] at hbest hrow
 rw [F0.out]
 have BC:=Lib.hid hbest
 have Ggk:=Lib.hid hrow
 clear hbest hrow hbq hres C14
 have cc16:w15.cell? ⟨w.heap.size,0,none⟩=some (.slice a m cap):=RowIs.cell R1.out 0
 have zz17:w.heap.size<w15.heap.size:=RowIs.lt R1.out
 have hsm:=val_small KO.out BR.out
 rw [V1.out,V2.out] at hsm
 obtain ⟨sm1,sm2,sm3,sm4,sm5,sm6⟩:=hsm
 have t200:v2≤200000000:=by omega
 have T200:=Lib.hid t200
 have CS:=Lib.hid (fun (x:World)=>small_c v1 v2 x sm1 (by omega) sm3 sm4 sm5 sm6)
 clear sm1 sm2 sm3 sm4 sm5 sm6 t200
 have cc18:w15.cell? ⟨w4.heap.size,0,none⟩=some (.int .i64 v1):=RowIs.cell Q1.out 0
 have cc19:w15.cell? ⟨w4.heap.size,1,none⟩=some (.int .i64 v2):=RowIs.cell Q1.out 1
 have zz20:w4.heap.size<w15.heap.size:=RowIs.lt Q1.out
 go_wp2_with fail
 clear cc16 zz17 cc18 cc19 zz20
 refine (CS.out _).mono ?_
 rintro e w21 ⟨rfl,hbq⟩
 replace R1:=Lib.hid (RowIs.below R1.out hbq)
 replace RZ:=Lib.hid (RowIs.below RZ.out hbq)
 replace H1:=Lib.hid (H1.out.below hbq)
 replace Q1:=Lib.hid (RowIs.below Q1.out hbq)
 replace Ggr:=Lib.hid (RowIs.below Ggr.out hbq)
 replace Ggk:=Lib.hid (RowIs.below Ggk.out hbq)
 replace B1:=Lib.hid (bup B1.out hbq)
 clear hbq
 clear CS
 have lm:decide (8<m)=false:=decide_eq_false (by have:=KM.out; omega)
 have ln:decide (8<n)=false:=decide_eq_false (by have:=KN.out; omega)
 have LM:=Lib.hid lm
 have LN:=Lib.hid ln
 clear lm ln
 have cc22:w21.cell? ⟨w.heap.size,0,none⟩=some (.slice a m cap):=RowIs.cell R1.out 0
 have zz23:w.heap.size<w21.heap.size:=RowIs.lt R1.out
 go_wp2_with fail
 clear cc22 zz23
 refine (long_c (some ⟨gr,0,none⟩) m m _).mono ?_
 rintro e _ ⟨rfl,rfl⟩
 rw [LM.out]
 go_wp2_with fail
 refine (long_c (some ⟨gk,0,none⟩) n n _).mono ?_
 rintro e _ ⟨rfl,rfl⟩
 rw [LN.out]
 have cc24:w21.cell? ⟨w.heap.size,0,none⟩=some (.slice a m cap):=RowIs.cell R1.out 0
 have zz25:w.heap.size<w21.heap.size:=RowIs.lt R1.out
 have hpv:proofR m f m xr n xk=(v1,v2,0):=by
  have hq:=best_bounds KO.out BC.out
  have:=proof_val KO.out BR.out.sure hq (fun i hi=>by have:=(BR.out.few i hi).2; omega) (fun i hi=>by have:=(BC.out.few i hi).2; omega)
  rw [this,V1.out,V2.out]
 have KR:=Lib.hid hpv
 clear hpv
 have C26:=CheckProof_c a m cap f (some ⟨gr,0,none⟩) m m xr (some ⟨gk,0,none⟩) n n xk w21 H1.out hm2 RR.out (rowA_ints Ggr.out) hm2 (rowA_ints Ggk.out) (by have:=KN.out; omega)
 rw [KR.out] at C26
 replace C26:=Lib.hid C26
 go_wp2_with fail
 clear cc24 zz25
 refine (C26.out).mono ?_
 rintro e w27 ⟨rfl,hbq⟩
 replace R1:=Lib.hid (RowIs.below R1.out hbq)
 replace RZ:=Lib.hid (RowIs.below RZ.out hbq)
 replace H1:=Lib.hid (H1.out.below hbq)
 replace Q1:=Lib.hid (RowIs.below Q1.out hbq)
 replace Ggr:=Lib.hid (RowIs.below Ggr.out hbq)
 replace Ggk:=Lib.hid (RowIs.below Ggk.out hbq)
 replace B1:=Lib.hid (bup B1.out hbq)
 clear hbq
 clear C26
 have nq2:w27.heap.size ≠ w.heap.size+1:=by have:=RowIs.lt RZ.out; omega
 obtain ⟨Y28,hY28⟩ : ∃ Y28,w27.alloc (.cells #[.int .i64 v1, .int .i64 v2] 30)=Y28:=⟨_,rfl⟩
 have hb29:Below w27.heap.size w27 Y28:=by rw [← hY28]; exact Below.alloc1 (Below.refl _ _) _ (Nat.le_refl _)
 have hr30:RowIs Y28 w27.heap.size #[.int .i64 v1, .int .i64 v2] 30:=by rw [← hY28]; exact heap_new_at _ _ _ rfl
 replace R1:=Lib.hid (RowIs.below R1.out hb29)
 replace RZ:=Lib.hid (RowIs.below RZ.out hb29)
 replace H1:=Lib.hid (H1.out.below hb29)
 replace Q1:=Lib.hid (RowIs.below Q1.out hb29)
 replace Ggr:=Lib.hid (RowIs.below Ggr.out hb29)
 replace Ggk:=Lib.hid (RowIs.below Ggk.out hb29)
 replace B1:=Lib.hid (bup B1.out hb29)
 have Q2:=Lib.hid hr30
 clear hb29 hr30
 have cc31:Y28.cell? ⟨w.heap.size,0,none⟩=some (.slice a m cap):=RowIs.cell R1.out 0
 have zz32:w.heap.size<Y28.heap.size:=RowIs.lt R1.out
 have C33:=rCheckProof_c a m cap f (some ⟨gr,0,none⟩) m m xr (some ⟨gk,0,none⟩) n n xk Y28 H1.out hm2 (rowA_ints Ggr.out) hm2 (rowA_ints Ggk.out) (by have:=KN.out; omega)
 rw [KR.out] at C33
 replace C33:=Lib.hid C33
 go_wp2_with fail
 clear hY28 cc31 zz32
 refine (C33.out).mono ?_
 rintro e w34 ⟨rfl,hbq⟩
 replace R1:=Lib.hid (RowIs.below R1.out hbq)
 replace RZ:=Lib.hid (RowIs.below RZ.out hbq)
 replace H1:=Lib.hid (H1.out.below hbq)
 replace Q1:=Lib.hid (RowIs.below Q1.out hbq)
 replace Ggr:=Lib.hid (RowIs.below Ggr.out hbq)
 replace Ggk:=Lib.hid (RowIs.below Ggk.out hbq)
 replace Q2:=Lib.hid (RowIs.below Q2.out hbq)
 replace B1:=Lib.hid (bup B1.out hbq)
 clear hbq
 clear C33
 have nq3:w34.heap.size ≠ w.heap.size+1:=by have:=RowIs.lt RZ.out; omega
 obtain ⟨Y35,hY35⟩ : ∃ Y35,w34.alloc (.cells #[.int .i64 v1, .int .i64 v2] 30)=Y35:=⟨_,rfl⟩
 have hb36:Below w34.heap.size w34 Y35:=by rw [← hY35]; exact Below.alloc1 (Below.refl _ _) _ (Nat.le_refl _)
 have hr37:RowIs Y35 w34.heap.size #[.int .i64 v1, .int .i64 v2] 30:=by rw [← hY35]; exact heap_new_at _ _ _ rfl
 replace R1:=Lib.hid (RowIs.below R1.out hb36)
 replace RZ:=Lib.hid (RowIs.below RZ.out hb36)
 replace H1:=Lib.hid (H1.out.below hb36)
 replace Q1:=Lib.hid (RowIs.below Q1.out hb36)
 replace Ggr:=Lib.hid (RowIs.below Ggr.out hb36)
 replace Ggk:=Lib.hid (RowIs.below Ggk.out hb36)
 replace Q2:=Lib.hid (RowIs.below Q2.out hb36)
 replace B1:=Lib.hid (bup B1.out hb36)
 have Q3:=Lib.hid hr37
 clear hb36 hr37
 have cc38:Y35.cell? ⟨w.heap.size,0,none⟩=some (.slice a m cap):=RowIs.cell R1.out 0
 have zz39:w.heap.size<Y35.heap.size:=RowIs.lt R1.out
 have eq40 : ∀ x,(Op.equalIn 10000 30 (.agg #[.int .i64 v1, .int .i64 v2]) (.agg #[.int .i64 v1, .int .i64 v2])).run Try.prog x = .ok true x:=fun x=>(eqRat v1 v2 v1 v2 x).trans (by simp)
 have t200:=T200.out
 have hgr0:gr ≠ w.heap.size+1:=fun h=>by subst h; exact absurd (RZ.out.symm.trans Ggr.out) (by simp [rowA])
 have hgk0:gk ≠ w.heap.size+1:=fun h=>by subst h; exact absurd (RZ.out.symm.trans Ggk.out) (by simp [rowA])
 go_wp2_with fail
 clear hY35 cc38 zz39 eq40
 refine wp_region_runF (C:=fun y=>RowIs y (w4.heap.size) #[.int .i64 v1, .int .i64 v2] 30∧RowIs y (w27.heap.size) #[.int .i64 v1, .int .i64 v2] 30∧RowIs y (w34.heap.size) #[.int .i64 v1, .int .i64 v2] 30) (fun y=>Below Y35.heap.size Y35 y) (by kernel_rfl) (stable_below Y35) (Below.refl _ _) ?_
 change Run _ _ _ _ _ 28 _ _ _
 have hFC : ∀ y,Below Y35.heap.size Y35 y→RowIs y (w4.heap.size) #[.int .i64 v1, .int .i64 v2] 30∧RowIs y (w27.heap.size) #[.int .i64 v1, .int .i64 v2] 30∧RowIs y (w34.heap.size) #[.int .i64 v1, .int .i64 v2] 30:=fun y h=>⟨RowIs.below Q1.out h,RowIs.below Q2.out h,RowIs.below Q3.out h⟩
 refine run_takeG (i:=0) (.agg #[.int .i64 v1, .int .i64 v2]) rfl (by kernel_rfl) (by kernel_rfl) (by kernel_rfl) (fun y h=>hFC y h) (quiet_yes _ (by rfl) (fun y hy=>by obtain ⟨k0,k1,k2⟩:=hy; have c0:=RowIs.cell k0 0; have c1:=RowIs.cell k0 1; have cz:=RowIs.lt k0; go_simp)) ?_
 simp only [puts]
 refine run_takeG (i:=1) (.slice (some ⟨gr,0,none⟩) m m) rfl (by kernel_rfl) (by kernel_rfl) (by kernel_rfl) (fun y h=>hFC y h) (quiet_yes _ (by rfl) (fun y hy=>by go_simp)) ?_
 simp only [puts]
 refine run_takeG (i:=2) (.slice (some ⟨gk,0,none⟩) n n) rfl (by kernel_rfl) (by kernel_rfl) (by kernel_rfl) (fun y h=>hFC y h) (quiet_yes _ (by rfl) (fun y hy=>by go_simp)) ?_
 simp only [puts]
 refine run_takeG (i:=3) (.int .i64 0) rfl (by kernel_rfl) (by kernel_rfl) (by kernel_rfl) (fun y h=>hFC y h) (quiet_yes _ (by rfl) (fun y hy=>by go_simp)) ?_
 simp only [puts]
 refine run_takeG (i:=4) (.bool true) rfl (by kernel_rfl) (by kernel_rfl) (by kernel_rfl) (fun y h=>hFC y h) (quiet_yes _ (by rfl) (fun y hy=>by go_simp)) ?_
 simp only [puts]
 refine run_takeG (i:=5) (.bool true) rfl (by kernel_rfl) (by kernel_rfl) (by kernel_rfl) (fun y h=>hFC y h) (quiet_yes _ (by rfl) (fun y hy=>by go_simp)) ?_
 simp only [puts]
 refine run_takeG (i:=6) (.int .i64 0) rfl (by kernel_rfl) (by kernel_rfl) (by kernel_rfl) (fun y h=>hFC y h) (quiet_yes _ (by rfl) (fun y hy=>by go_simp)) ?_
 simp only [puts]
 refine run_takeG (i:=7) (.bool true) rfl (by kernel_rfl) (by kernel_rfl) (by kernel_rfl) (fun y h=>hFC y h) (quiet_yes _ (by rfl) (fun y hy=>by go_simp)) ?_
 simp only [puts]
 refine run_takeG (i:=8) (.bool true) rfl (by kernel_rfl) (by kernel_rfl) (by kernel_rfl) (fun y h=>hFC y h) (quiet_yes _ (by rfl) (fun y hy=>by go_simp)) ?_
 simp only [puts]
 refine run_takeG (i:=9) (.bool true) rfl (by kernel_rfl) (by kernel_rfl) (by kernel_rfl) (fun y h=>hFC y h) (quiet_yes _ (by rfl) (fun y hy=>by go_simp)) ?_
 simp only [puts]
 refine run_takeG (i:=10) (.agg #[.int .i64 v1, .int .i64 v2]) rfl (by kernel_rfl) (by kernel_rfl) (by kernel_rfl) (fun y h=>hFC y h) (quiet_yes _ (by rfl) (fun y hy=>by obtain ⟨k0,k1,k2⟩:=hy; have c0:=RowIs.cell k1 0; have c1:=RowIs.cell k1 1; have cz:=RowIs.lt k1; go_simp)) ?_
 simp only [puts]
 refine run_takeG (i:=11) (.agg #[.int .i64 v1, .int .i64 v2]) rfl (by kernel_rfl) (by kernel_rfl) (by kernel_rfl) (fun y h=>hFC y h) (quiet_yes _ (by rfl) (fun y hy=>by obtain ⟨k0,k1,k2⟩:=hy; have c0:=RowIs.cell k0 0; have c1:=RowIs.cell k0 1; have cz:=RowIs.lt k0; go_simp)) ?_
 simp only [puts]
 refine run_takeG (i:=12) (.bool true) rfl (by kernel_rfl) (by kernel_rfl) (by kernel_rfl) (fun y h=>hFC y h) (quiet_yes _ (by rfl) (fun y hy=>by go_simp)) ?_
 simp only [puts]
 refine run_takeG (i:=13) (.bool true) rfl (by kernel_rfl) (by kernel_rfl) (by kernel_rfl) (fun y h=>hFC y h) (quiet_yes _ (by rfl) (fun y hy=>by go_simp)) ?_
 simp only [puts]
 refine run_takeG (i:=14) (.bool true) rfl (by kernel_rfl) (by kernel_rfl) (by kernel_rfl) (fun y h=>hFC y h) (quiet_yes _ (by rfl) (fun y hy=>by go_simp)) ?_
 simp only [puts]
 refine run_takeG (i:=15) (.agg #[.int .i64 v1, .int .i64 v2]) rfl (by kernel_rfl) (by kernel_rfl) (by kernel_rfl) (fun y h=>hFC y h) (quiet_yes _ (by rfl) (fun y hy=>by obtain ⟨k0,k1,k2⟩:=hy; have c0:=RowIs.cell k2 0; have c1:=RowIs.cell k2 1; have cz:=RowIs.lt k2; go_simp)) ?_
 simp only [puts]
 refine run_takeG (i:=16) (.agg #[.int .i64 v1, .int .i64 v2]) rfl (by kernel_rfl) (by kernel_rfl) (by kernel_rfl) (fun y h=>hFC y h) (quiet_yes _ (by rfl) (fun y hy=>by obtain ⟨k0,k1,k2⟩:=hy; have c0:=RowIs.cell k0 0; have c1:=RowIs.cell k0 1; have cz:=RowIs.lt k0; go_simp)) ?_
 simp only [puts]
 refine run_takeG (i:=17) (.bool true) rfl (by kernel_rfl) (by kernel_rfl) (by kernel_rfl) (fun y h=>hFC y h) (quiet_yes _ (by rfl) (fun y hy=>by go_simp)) ?_
 simp only [puts]
 refine run_takeG (i:=18) (.bool true) rfl (by kernel_rfl) (by kernel_rfl) (by kernel_rfl) (fun y h=>hFC y h) (quiet_yes _ (by rfl) (fun y hy=>by go_simp)) ?_
 simp only [puts]
 refine run_takeG (i:=19) (.bool true) rfl (by kernel_rfl) (by kernel_rfl) (by kernel_rfl) (fun y h=>hFC y h) (quiet_yes _ (by rfl) (fun y hy=>by go_simp)) ?_
 simp only [puts]
 refine run_takeG (i:=20) (.pointer (some ⟨w4.heap.size,1,none⟩)) rfl (by kernel_rfl) (by kernel_rfl) (by kernel_rfl) (fun y h=>hFC y h) (quiet_yes _ (by rfl) (fun y hy=>by go_simp)) ?_
 simp only [puts]
 refine run_takeG (i:=21) (.int .i64 v2) rfl (by kernel_rfl) (by kernel_rfl) (by kernel_rfl) (fun y h=>hFC y h) (quiet_yes _ (by rfl) (fun y hy=>by obtain ⟨k0,k1,k2⟩:=hy; have c0:=RowIs.cell k0 0; have c1:=RowIs.cell k0 1; have cz:=RowIs.lt k0; go_simp)) ?_
 simp only [puts]
 refine run_takeG (i:=22) (.bool true) rfl (by kernel_rfl) (by kernel_rfl) (by kernel_rfl) (fun y h=>hFC y h) (quiet_yes _ (by rfl) (fun y hy=>by go_simp)) ?_
 simp only [puts]
 refine run_takeG (i:=23) (.bool true) rfl (by kernel_rfl) (by kernel_rfl) (by kernel_rfl) (fun y h=>hFC y h) (quiet_yes _ (by rfl) (fun y hy=>by go_simp)) ?_
 simp only [puts]
 refine run_store (i:=24) (fun y=>RowIs y (w.heap.size+1) #[.int .i64 v1, .int .i64 v2] 30∧(RowIs y (w4.heap.size) #[.int .i64 v1, .int .i64 v2] 30∧RowIs y (w27.heap.size) #[.int .i64 v1, .int .i64 v2] 30∧RowIs y (w34.heap.size) #[.int .i64 v1, .int .i64 v2] 30)∧Below w.heap.size w y∧RowIs y gr (rowA m xr) 2∧RowIs y gk (rowA n xk) 2) (by kernel_rfl) rfl rfl (fun y y1 ⟨h0,⟨h1,h2,h3⟩,h4,h5,h6⟩ hb=>⟨h0.below hb,⟨h1.below hb,h2.below hb,h3.below hb⟩,h4.trans (hb.mono h4.size),h5.below hb,h6.below hb⟩) (fun y h=>h.2.1) (fun y hy => ?_) ?_
 ·have rz:=RowIs.below RZ.out hy
  have z0:=rz.frozen 0
  have z1:=rz.frozen 1
  have zz:=rz.lt
  have c0:=rz.cell 0
  have c1:=rz.cell 1
  obtain ⟨k0,k1,k2⟩:=hFC y hy
  refine ⟨(y.setCell ⟨w.heap.size+1,0,none⟩ (.int .i64 v1)).setCell ⟨w.heap.size+1,1,none⟩ (.int .i64 v2),by go_simp,(rz.set 0 _).set 1 _,⟨(k0.other 0 _ nq1.symm).other 1 _ nq1.symm,(k1.other 0 _ nq2.symm).other 1 _ nq2.symm,(k2.other 0 _ nq3.symm).other 1 _ nq3.symm⟩,((bup B1.out hy).setCell (p:=⟨w.heap.size+1,0,none⟩) (Nat.le_succ _) _).setCell (p:=⟨w.heap.size+1,1,none⟩) (Nat.le_succ _) _,((Ggr.out.below hy).other 0 _ hgr0.symm).other 1 _ hgr0.symm,((Ggk.out.below hy).other 0 _ hgk0.symm).other 1 _ hgk0.symm⟩
 simp only [puts]
 refine run_takeG (i:=25) (.slice (some ⟨gr,0,none⟩) m m) rfl (by kernel_rfl) (by kernel_rfl) (by kernel_rfl) (fun y h=>h.2.1) (quiet_yes _ (by rfl) (fun y hy=>by go_simp)) ?_
 simp only [puts]
 refine run_takeG (i:=26) (.slice (some ⟨gk,0,none⟩) n n) rfl (by kernel_rfl) (by kernel_rfl) (by kernel_rfl) (fun y h=>h.2.1) (quiet_yes _ (by rfl) (fun y hy=>by go_simp)) ?_
 simp only [puts]
 refine run_takeG (i:=27) (.bool true) rfl (by kernel_rfl) (by kernel_rfl) (by kernel_rfl) (fun y h=>h.2.1) (quiet_yes _ (by rfl) (fun y hy=>by go_simp)) ?_
 simp only [puts]
 refine ⟨by kernel_rfl,fun y hy => ?_⟩
 obtain ⟨h0, -,h4,h5,h6⟩:=hy
 have y0:=RowIs.cell h0 0
 have y1:=RowIs.cell h0 1
 have yz:=RowIs.lt h0
 simp at y0 y1
 go_wp2_with fail
 exact bodyPost_ret (v:= .tuple #[.agg #[.int .i64 v1, .int .i64 v2], .slice (some ⟨gr,0,none⟩) m m, .slice (some ⟨gk,0,none⟩) n n, .bool true]) (by simp [results,Try.results41,go_sem,y0,y1]) rfl ⟨⟨gr,xr,gk,xk,BR.out,BC.out,by rw [V1.out,V2.out],h5,h6⟩,h4⟩
end Go.Proofs.Ytkbbhihndigmeaa

namespace Go.Proofs.Ytkbbhihndigmeaa
open Go Go.RowKit
def Shorts (w:World) (a:Option Addr) (n:Nat) (f:Nat→Int):Prop:=Cells w a n fun i=> .int .u16 (f i)
theorem Shorts.below {w w':World} {a:Option Addr} {n:Nat} {f:Nat→Int} (h:Shorts w a n f) (hb:Below w.heap.size w w'):Shorts w' a n f:=Cells.below h hb
def planG (len:Nat) (f:Nat→Int) (i:Nat):Int:=if 0<len then f (i % len) else 0
def planX (n len:Nat) (f:Nat→Int):Nat→Int:=if sumI (planG len f) n=0 then (fun i=>if i=0 then 1 else planG len f i) else planG len f
theorem planG_bd {len:Nat} {f:Nat→Int} (hf : ∀ i,i<len→0≤f i∧f i≤65535) (i:Nat):0≤planG len f i∧planG len f i≤65535:=by
 unfold planG
 split
 ·exact hf _ (Nat.mod_lt _ (by assumption))
 ·omega
theorem planX_bd {n len:Nat} {f:Nat→Int} (hf : ∀ i,i<len→0≤f i∧f i≤65535) (i:Nat):0≤planX n len f i∧planX n len f i≤65535:=by
 have:=planG_bd hf i
 unfold planX
 split
 ·dsimp only
  split <;> omega
 ·exact this
theorem sumI_some {g:Nat→Int} : ∀ {n:Nat},(∀ i,i<n→0≤g i)→(∃ i,i<n∧0<g i)→0<sumI g n
 | 0,_,⟨_,h,_⟩=>absurd h (Nat.not_lt_zero _)
 | n+1,h,⟨i,hi,h2⟩=>by
   have h0:0≤sumI g n:=by
    have : ∀ k,k≤n→0≤sumI g k:=fun k=>by
     induction k with
     | zero=>intro _; exact Int.le_refl _
     | succ k ih=>intro hk; rw [sumI]; have:=ih (by omega); have:=h k (by omega); omega
    exact this n (Nat.le_refl _)
   have h3:=h n (by omega)
   rw [sumI]
   by_cases e:i=n
   ·subst e; omega
   ·have:=sumI_some (n:=n) (fun i hi=>h i (by omega)) ⟨i,by omega,h2⟩
    omega
theorem sumI_all0 {g:Nat→Int} : ∀ {n:Nat},(∀ i,i<n→g i=0)→sumI g n=0
 | 0,_=>rfl
 | n+1,h=>by rw [sumI,sumI_all0 fun i hi=>h i (by omega),h n (by omega)]; rfl
theorem planX_pos {n len:Nat} {f:Nat→Int} (hn:1≤n) (hf : ∀ i,i<len→0≤f i∧f i≤65535):0<sumI (planX n len f) n:=by
 by_cases h:sumI (planG len f) n=0
 ·refine sumI_some (fun i _=>(planX_bd hf i).1) ⟨0,by omega,?_⟩
  unfold planX
  rw [if_pos h]
  simp
 ·have e:planX n len f=planG len f:=by unfold planX; rw [if_neg h]
  rw [e]
  have h2 : ∀ i,i<n→0≤planG len f i:=fun i _=>(planG_bd hf i).1
  refine Classical.byContradiction fun hc=>h ?_
  refine sumI_all0 fun i hi => ?_
  have:=h2 i hi
  refine Classical.byContradiction fun h4=>hc (sumI_some h2 ⟨i,hi,by omega⟩)
theorem own_plan {w w2:World} {base:Nat} {e:TypeId} {v':Value} {k len:Nat} {f:Nat→Int} {x:Int} (h:w2.ownsRow base e 1 v' (k+1) (numL (planG len f) k ++ [.int .i64 x])) (hx:x=planG len f k) (_:w=w) :
 w2.ownsRow base e 1 v' (k+1) (numL (planG len f) (k+1)):=by
 rw [numL_more, ← hx]
 exact h
theorem ints_of_own {w:World} {base:Nat} {e:TypeId} {g n cap:Nat} {F:Nat→Int} (h:w.ownsRow base e 1 (.slice (some ⟨g,0,none⟩) n cap) n (numL F n)):Ints w (some ⟨g,0,none⟩) n F∧base≤g∧g<w.heap.size:=by
 have hg:base≤g∧g<w.heap.size:=by
  rcases h.2 with ⟨hv,_⟩ | ⟨g',cap',cur,hv,hb,hh,_⟩
  ·cases hv
  ·cases hv
   exact ⟨hb,(Array.getElem?_eq_some_iff.1 hh).1⟩
 refine ⟨.inr ⟨g,0,rfl,hg.2,fun i hi => ?_⟩,hg⟩
 rw [Nat.zero_add,h.cellAt i (by omega)]
 exact numL_get F _ _ hi
theorem own_form {w:World} {base:Nat} {e:TypeId} {size n:Nat} {v:Value} {xs:List Value} (h:w.ownsRow base e size v n xs) (hn:0<n) : ∃ g cap,v = .slice (some ⟨g,0,none⟩) n cap∧g<w.heap.size:=by
 rcases h.2 with ⟨_,h0⟩ | ⟨g,cap,cur,hv,hb,hg,_⟩
 ·omega
 ·exact ⟨g,cap,hv,(Array.getElem?_eq_some_iff.1 hg).1⟩
set_option maxRecDepth 100000 in
set_option maxHeartbeats 4000000 in
theorem Planned_c (b:Option Addr) (n len cap:Nat) (f:Nat→Int) (w:World) (hf:Shorts w b len f) (hn:1≤n∧n≤4) (hl:len≤20) (hb : ∀ i,i<len→0≤f i∧f i≤65535) :
 Calls Try.prog 42 #[.int .i64 n, .slice b len cap] w fun e w'=> ∃ g cap',e = .returned (.slice (some ⟨g,0,none⟩) n cap')∧Ints w' (some ⟨g,0,none⟩) n (planX n len f)∧Below w.heap.size w w':=by
 obtain ⟨i0,hi,hz0,hz1,hz2⟩:=info_one info64
 have Hb:=Lib.hid hb
 have Hn:=Lib.hid hn
 have hn0:0<n:=by omega
 have hn6:n≤4:=hn.2
 clear hb hn
 go_enter Try.func42,Try.ntmps42
 go_wp2
 go_loopw [5,6] (fun v i wr=> ∃ k:Nat,k≤n∧i = .int .i64 k∧wr.ownsRow w.heap.size 2 1 v k (numL (planG len f) k)∧Below w.heap.size w wr) (fun _ i _=>n-(intOf i).toNat)
 case atStart=>exact ⟨0,Nat.zero_le _,rfl,World.ownsRow_nil _ _ _ _,Below.refl _ _⟩
 case round=>
  obtain ⟨k,hk,rfl,hown,hB⟩:=hrel
  have hBs:=hB.size
  by_cases hlt:k<n
  ·by_cases hl0:0<len
   ·have hm:k % len<len:=Nat.mod_lt _ hl0
    have hmod:Int.tmod (k:Int) (len:Int)=((k % len:Nat):Int):=rfl
    obtain ⟨bb,off,rfl,hbs,hc⟩:=Cells.at hf (k % len) hm
    have hck:=(hB.cell (p:=⟨bb,off+k % len,none⟩) hbs).trans (hc _ hm)
    have hx:=Hb.out (k % len) hm
    have hwr:IntKind.i64.wrap (f (k % len))=f (k % len):=IntWalk.i64_in _ (by omega)
    have HB:=Lib.hid hB
    clear hB hc
    go_wp2_with (at_builtin; refine wpList_append_own _ rfl _ _ 25 rfl w.heap.size 2 i0 (.int .i64 0) 1 8 Try.underlying25 hi hz0 hz1 hz2 rfl (by decide) _ _ _ rfl (hown.alloc _) ⟨wr.heap.size,0,none⟩ 1 1 [.int .i64 (f (k % len))] rfl rfl (World.news_of_block (cs := #[.int .i64 (f (k % len))]) (t:=2) (fr:=(0,0)) (heap_new_at _ _ _ rfl)) (by simp [Value.oneCell']) (by unfold maxLen; omega) (by omega) (by simp; omega) ?_; intro v' w2 hown2 hgr2 _)
    go_roundw
    case rel=>
     refine ⟨k+1,by omega,by go_num,?_,(Below.alloc1 HB.out _ (Nat.le_refl _)).grown hgr2 (by simp; omega) (fun j h=>(hown.lt j h).1)⟩
     exact own_plan (w:=w) hown2 (by unfold planG; rw [if_pos hl0]) rfl
    case measure=>simp [intOf]; omega
   ·obtain rfl:len=0:=by omega
    have HB:=Lib.hid hB
    clear hB
    go_wp2_with (at_builtin; refine wpList_append_own _ rfl _ _ 25 rfl w.heap.size 2 i0 (.int .i64 0) 1 8 Try.underlying25 hi hz0 hz1 hz2 rfl (by decide) _ _ _ rfl (hown.alloc _) ⟨wr.heap.size,0,none⟩ 1 1 [.int .i64 0] rfl rfl (World.news_of_block (cs := #[.int .i64 0]) (t:=2) (fr:=(0,0)) (heap_new_at _ _ _ rfl)) (by simp [Value.oneCell']) (by unfold maxLen; omega) (by omega) (by simp; omega) ?_; intro v' w2 hown2 hgr2 _)
    go_roundw
    case rel=>
     refine ⟨k+1,by omega,by go_num,?_,(Below.alloc1 HB.out _ (Nat.le_refl _)).grown hgr2 (by simp; omega) (fun j h=>(hown.lt j h).1)⟩
     exact own_plan (w:=w) hown2 (by unfold planG; rw [if_neg (by omega)]) rfl
    case measure=>simp [intOf]; omega
  ·obtain rfl:k=n:=by omega
   obtain ⟨g,cap',rfl,hgz⟩:=own_form hown hn0
   obtain ⟨hI,hg1,hg2⟩:=ints_of_own hown
   have hf0:=hown.frozenAt 0
   have hc0:wr.cell? ⟨g,0,none⟩=some (.int .i64 (planG len f 0)):=by rw [hown.cellAt 0 (by omega)]; exact numL_get _ _ _ hn0
   have hG:=planG_bd Hb.out
   have Hown:=Lib.hid hown
   have HB:=Lib.hid hB
   clear hown hB
   by_cases h0:sumI (planG len f) k=0
   ·have hS:=rSum_c (some ⟨g,0,none⟩) k cap' (planG len f) wr hI (by omega) (fun i _=>by have:=hG i; omega)
    rw [h0] at hS
    have H0:=Lib.hid h0
    have HG:=Lib.hid hG
    clear h0 hG hI
    go_wp2_with fail
    refine hS.mono ?_
    rintro e w1 ⟨rfl,rfl⟩
    go_wp2
    go_ret
    obtain ⟨r1,r2⟩:=Hown.out.stored 0 (.int .i64 1)
    have e1:(numL (planG len f) k).set 0 (.int .i64 1)=numL (planX k len f) k:=by
     have em:planX k len f=fun i=>if i=0 then 1 else planG len f i:=by unfold planX; rw [if_pos H0.out]
     rw [em]
     refine List.ext_getElem? fun j => ?_
     rw [List.getElem?_set]
     by_cases hj:j<k
     ·rw [numL_get _ _ _ hj,numL_get _ _ _ hj,numL_len]
      by_cases e:0=j
      ·subst e
       simp [hn0]
      ·rw [if_neg e]
       simp [(show ¬ j=0 by omega)]
     ·rw [List.getElem?_eq_none (by rw [numL_len]; omega),List.getElem?_eq_none (by rw [numL_len]; omega),if_neg (by omega)]
    rw [e1] at r1
    obtain ⟨q1,q2,q3⟩:=ints_of_own r1
    exact ⟨g,cap',rfl,q1,HB.out.setCell (p:=⟨g,0,none⟩) hg1 _⟩
   ·have hS:=rSum_c (some ⟨g,0,none⟩) k cap' (planG len f) wr hI (by omega) (fun i _=>by have:=hG i; omega)
    have h0':(sumI (planG len f) k==0)=false:=by simpa using h0
    have H0:=Lib.hid h0
    have HI:=Lib.hid hI
    clear h0 hG hI
    go_wp2_with fail
    refine hS.mono ?_
    rintro e w1 ⟨rfl,rfl⟩
    go_wp2
    go_ret
    have em:planX k len f=planG len f:=by unfold planX; rw [if_neg H0.out]
    exact ⟨g,cap',rfl,by rw [em]; exact HI.out,HB.out⟩
end Go.Proofs.Ytkbbhihndigmeaa

namespace Go.Proofs.Ytkbbhihndigmeaa
open Go Go.RowKit Go.Shelf
theorem planE_ok {m:Nat} {r:Nat→Int} (hr : ∀ i,i<m→0≤r i∧r i≤100000000) (h0:0<sumI r m):planE m m r=0:=by
 unfold planE
 rw [if_pos rfl,if_pos ((allB_iff _ _).2 fun i hi=>by simp only [inB,decide_eq_true_eq]; exact hr i hi),if_neg (by omega)]
structure SureIs (f:Nat→Row3) (m n:Nat) (r:Nat→Int) (a b:Int):Prop where
 eq:sureR m f m r=(a,b,0)
 sure:Surely (lossA f) m n r a b
 d1:1≤b
 d2:b≤sumI r m
 n1 : -100*b≤a
 n2:a≤100*b
 r1:ratN a b=a
 r2:ratD a b=b
 most : ∀ v s,Surely (lossA f) m n r v s→v*b≤a*s
theorem sure_is {f:Nat→Row3} {m n:Nat} {r:Nat→Int} (hO:Okay m n f) (hr : ∀ i,i<m→0≤r i∧r i≤100000000) (h0:0<sumI r m) : ∃ a b,SureIs f m n r a b∧a=ratN (sureN f m n r) (sumI r m)∧b=ratD (sureN f m n r) (sumI r m):=by
 have hf0:(f 0).n=n:=hO.len 0 hO.m1
 obtain ⟨h1,h2,h3,h4,h5,h6⟩:=sure_small hO (fun i hi=>(hr i hi).1) h0
 have hx:=sure_self (f:=f) (n:=n) (x:=r) (fun i hi=>(hr i hi).1) h0
 refine ⟨_,_,⟨?_,?_,h1,h2,h3,h4,h5,h6,fun v s hs => ?_⟩,rfl,rfl⟩
 ·unfold sureR
  rw [hf0,okay_is hO,planE_ok hr h0,if_neg (by decide),if_neg (by decide)]
 ·exact hx.le h0 h1 (by have:=rat_eqn (sureN f m n r) h0; omega)
 ·have:=sure_most hO.n1 hs
  have he:=rat_eqn (sureN f m n r) h0
  refine Int.le_of_mul_le_mul_right (a:=sumI r m) ?_ h0
  have h7:=Int.mul_le_mul_of_nonneg_right this (show 0≤ratD (sureN f m n r) (sumI r m) by omega)
  obtain ⟨D,hD⟩ : ∃ D,ratD (sureN f m n r) (sumI r m)=D:=⟨_,rfl⟩
  obtain ⟨N,hN⟩ : ∃ N,ratN (sureN f m n r) (sumI r m)=N:=⟨_,rfl⟩
  obtain ⟨S,hS⟩ : ∃ S,sumI r m=S:=⟨_,rfl⟩
  obtain ⟨T,hT⟩ : ∃ T,sureN f m n r=T:=⟨_,rfl⟩
  rw [hD,hN,hS,hT] at he
  rw [hD,hS,hT] at h7
  rw [hD,hN,hS]
  have h8:s*T*D=N*s*S:=by have:=congrArg (s * ·) he; grind
  rw [h8] at h7
  rw [show v*D*S=v*S*D by grind]
  exact h7
structure BoundIs (f:Nat→Row3) (m n:Nat) (q:Nat→Int) (a b:Int):Prop where
 eq:boundR m f n q=(a,b,0)
 bound:Bounds (lossA f) m n q a b
 d1:1≤b
 d2:b≤sumI q n
 n1 : -100*b≤a
 n2:a≤100*b
 r1:ratN a b=a
 r2:ratD a b=b
theorem bound_is {f:Nat→Row3} {m n:Nat} {q:Nat→Int} (hO:Okay m n f) (hq : ∀ i,i<n→0≤q i∧q i≤100000000) (h0:0<sumI q n) : ∃ a b,BoundIs f m n q a b∧a = - ratN (boundN f m n q) (sumI q n)∧b=ratD (boundN f m n q) (sumI q n):=by
 have hf0:(f 0).n=n:=hO.len 0 hO.m1
 have hO':Okay n m (fun j=>turnF f m j):=okay_turn hO (fun _ _=>rfl) (fun _=>rfl)
 have hl:lossA (fun j=>turnF f m j)=flip (lossA f):=loss_turn (f':=fun j=>turnF f m j) (fun _=>rfl)
 have hb:sureN (fun j=>turnF f m j) n m q=boundN f m n q:=by
  show leastF (ag (lossA fun j=>turnF f m j) q n) m=_
  rw [hl]
 obtain ⟨a,b,h,ea,eb⟩:=sure_is hO' hq h0
 rw [hb] at ea eb
 obtain ⟨e3,e4⟩:=rat_neg a b
 refine ⟨-a,b,⟨?_,?_,h.d1,h.d2,by have:=h.n2; omega,by have:=h.n1; omega,by rw [e3,h.r1],by rw [e4,h.r2]⟩,by rw [ea],eb⟩
 ·unfold boundR
  rw [hf0,okay_is hO,planE_ok hq h0,if_neg (by decide),if_neg (by decide), ← ea, ← eb]
 ·have:=h.sure
  rw [hl] at this
  exact surely_flip.1 (by rw [Int.neg_neg]; exact this)
theorem proof_is {f:Nat→Row3} {m n:Nat} {r q:Nat→Int} {a b c d:Int} (hO:Okay m n f) (hr : ∀ i,i<m→0≤r i∧r i≤100000000) (h0:0<sumI r m) (hq : ∀ i,i<n→0≤q i∧q i≤100000000) (h1:0<sumI q n)
 (ha:SureIs f m n r a b) (hc:BoundIs f m n q c d):proofR m f m r n q=if a=c∧b=d then (a,b,0) else (0,0,14):=by
 have hf0:(f 0).n=n:=hO.len 0 hO.m1
 have e1:=ha.eq
 have e2:=hc.eq
 unfold sureR at e1
 unfold boundR at e2
 rw [hf0,okay_is hO,planE_ok hr h0,if_neg (by decide),if_neg (by decide)] at e1
 rw [hf0,okay_is hO,planE_ok hq h1,if_neg (by decide),if_neg (by decide)] at e2
 simp only [Prod.mk.injEq,and_true] at e1 e2
 unfold proofR
 rw [hf0,okay_is hO,planE_ok hr h0,planE_ok hq h1,if_neg (by decide),if_neg (by decide),if_neg (by decide),e1.1,e1.2,e2.1,e2.2]
theorem sure_no_more {f:Nat→Row3} {m n:Nat} {r:Nat→Int} {a b:Int} (hO:Okay m n f) (ha:SureIs f m n r a b):a*(valOf (lossA f) m n).2≤(valOf (lossA f) m n).1*b:=by
 obtain ⟨hs, -,q,hq⟩:=valOf_is hO
 exact weak2 ha.d1 hs ha.sure hq
theorem bound_no_less {f:Nat→Row3} {m n:Nat} {q:Nat→Int} {a b:Int} (hO:Okay m n f) (ha:BoundIs f m n q a b):(valOf (lossA f) m n).1*b≤a*(valOf (lossA f) m n).2:=by
 obtain ⟨hs,⟨x,hx⟩, -⟩:=valOf_is hO
 exact weak2 hs ha.d1 hx ha.bound
theorem both_val {f:Nat→Row3} {m n:Nat} {r q:Nat→Int} {a b:Int} (ha:SureIs f m n r a b) (hb:BoundIs f m n q a b):valOf (lossA f) m n=(a,b):=by
 rw [val_of ⟨ha.d1,⟨r,ha.sure⟩,q,hb.bound⟩,ha.r1,ha.r2]
end Go.Proofs.Ytkbbhihndigmeaa

namespace Go.Proofs.Ytkbbhihndigmeaa
open Go Go.RowKit Go.Shelf
theorem mul_bds {x y A B:Int} (hx : -A≤x) (hx':x≤A) (hy:0≤y) (hy':y≤B) : -(A*B)≤x*y∧x*y≤A*B:=by
 by_cases h:0≤x
 ·have:=mul_bd h hx' hy hy'
  omega
 ·have:=mul_bd (x:= -x) (y:=y) (A:=A) (B:=B) (by omega) (by omega) hy hy'
  rw [Int.neg_mul] at this
  omega
theorem less_fit (a b c d:Int) (w:World) (b1:1≤b) (b2:b≤96000000) (a1 : -100*b≤a) (a2:a≤100*b) (d1:1≤d) (d2:d≤96000000) (c1 : -100*d≤c) (c2:c≤100*d) :
 Calls Try.prog 44 #[.agg #[.int .i64 a, .int .i64 b], .agg #[.int .i64 c, .int .i64 d]] w fun e w'=>e = .returned (.bool (ltB a b c d))∧Below w.heap.size w w':=by
 have h1:=mul_bds (x:=a) (y:=d) (A:=9600000000) (B:=96000000) (by omega) (by omega) (by omega) d2
 have h2:=mul_bds (x:=c) (y:=b) (A:=9600000000) (B:=96000000) (by omega) (by omega) (by omega) b2
 exact rLess_c a b c d w (by omega) (by omega) (by omega) (by omega)
end Go.Proofs.Ytkbbhihndigmeaa
