/- The frame of the rows: how a table and a plan open. -/
import Derived.Test.YtkbbhihndigmeaaProg
import Derived.Test.YtkbbhihndigmeaaBasaa
import Derived.Test.YtkbbhihndigmeaaBasac
import Derived.ProofKit
import Derived.OpenShut
import Derived.Deep.Slices
import Derived.Lib.SmallJoins
import Derived.Shelf.Abstract
import Derived.Shelf.RegionOpen
import Derived.Conc.Own4
import Derived.Test.YtkbbhihndigmeaaBasbb
import Derived.Test.YtkbbhihndigmeaaBasba
namespace Go.Proofs.Ytkbbhihndigmeaa
open Go Go.RowKit Go.ChangeShapes Go.WideShapes Go.Deep Go.Joins
theorem cellsLong:Try.prog.cellsOf 2=1:=by kernel_rfl
theorem cellsRow:Try.prog.cellsOf 25=1:=by kernel_rfl
theorem cellsRows:Try.prog.cellsOf 22=1:=by kernel_rfl
theorem cellsTab:Try.prog.cellsOf 24=1:=by kernel_rfl
theorem array1 {α : Type} {cs:Array α} (h:cs.size=1) : ∃ c0,cs = #[c0]:=by
 obtain ⟨l⟩:=cs
 match l,h with
 | [c0],_=>exact ⟨c0,rfl⟩
theorem add_plainS (b off n:Nat):(⟨b,off,none⟩:Addr).add n=⟨b,off+n,none⟩:=by
 unfold Addr.add
 split
 ·rename_i h
  rw [h]
  rfl
 ·rfl
section
variable {H:Type} {enc:TypeId × Value→H} {W:World} {sp:Nat→Bool}
set_option maxRecDepth 100000 in
theorem open_longsAt {k:Nat} {v:Value} {y:DataW H × List MemPlace} (h:DataW.trod enc Try.prog W 0 sp true k 25 [v]=some y) :
 ∃ a n cap f,v = .slice a n cap∧Ints W a n f:=by
 rcases open_ints Try.underlying25 Try.underlying2 cellsLong h with ⟨hcs,_⟩ | ⟨a',len,cap',zs,hcs,_,hl,hm,hk,_,hi,_⟩
 ·obtain rfl:v = .slice none 0 0:=by simpa using hcs
  exact ⟨none,0,0,fun _=>0,rfl, .inl rfl⟩
 ·obtain rfl:v = .slice (some a') len cap':=by simpa using hcs
  have hlk:len≤zs.length:=by rw [hk]; split <;> omega
  refine ⟨some a',len,cap',fun i=>zs.getD i 0,rfl,?_⟩
  by_cases h0:len=0
  ·exact .inl h0
  obtain ⟨b,off,rfl,hc⟩:=ints_at hi (by omega)
  exact .inr ⟨b,off,rfl,World.block_lt_of_cell? W _ (hc 0 (by omega)),fun i hin=>hc i (by omega)⟩
set_option maxRecDepth 100000 in
theorem open_longs {base:Nat} {v:Value} {d:DataW H} {p:List MemPlace} (hok:Value.okWide Try.prog W .any base 25 v) (h:DataW.Trod enc Try.prog W 0 sp true 25 v d p) :
 ∃ a n cap f,v = .slice a n cap∧Ints W a n f:=by
 obtain ⟨a,n,cap,rfl⟩:=okWide_slice Try.underlying25 hok
 obtain ⟨fuel,hf⟩:=h
 exact open_longsAt (by simpa [Value.cells] using hf)
set_option maxRecDepth 100000 in
theorem open_rows {k:Nat} {v:Value} {y:DataW H × List MemPlace} (h:DataW.trod enc Try.prog W 0 sp true k 22 [v]=some y) :
 ∃ a m cap f,v = .slice a m cap∧Tab W a m f:=by
 rcases open_slice1 Try.underlying22 cellsRow h with ⟨hcs,_⟩ | ⟨a',len,cap',m,n',V,D,Pl,hcs,_,hl,_,hm,_,hi⟩
 ·obtain rfl:v = .slice none 0 0:=by simpa using hcs
  exact ⟨none,0,0,fun _=>default,rfl, .inl rfl,fun i hi=>absurd hi (Nat.not_lt_zero i)⟩
 ·obtain rfl:v = .slice (some a') len cap':=by simpa using hcs
  have hlm:len≤m:=by rw [hm]; split <;> omega
  obtain ⟨f,hf⟩:=choose_lt (n:=m) (p:=fun i (q:Row3)=>W.cell? (a'.add i)=some (.slice q.a q.n q.cap)∧Ints W q.a q.n q.g) (fun i hik=>by
   obtain ⟨c,t⟩:=hi i hik
   obtain ⟨a,n,cap,g,e,hI⟩:=open_longsAt t
   rw [e] at c
   exact ⟨⟨a,n,cap,g⟩,c,hI⟩)
  refine ⟨some a',len,cap',f,rfl,?_,fun i hi=>(hf i (by omega)).2⟩
  by_cases h0:len=0
  ·exact .inl h0
  obtain ⟨b,off,spot⟩:=a'
  have hspot:spot=none:=by simpa [Addr.add] using World.cell?_spot (hf 0 (by omega)).1
  subst hspot
  have hf' : ∀ i,i<len→W.cell? ⟨b,off+i,none⟩=some (.slice (f i).a (f i).n (f i).cap):=fun i hin=>by
   have:=(hf i (by omega)).1
   rwa [add_plainS] at this
  exact .inr ⟨b,off,rfl,World.block_lt_of_cell? W _ (hf' 0 (by omega)),hf'⟩
set_option maxRecDepth 100000 in
theorem open_table {base:Nat} {v:Value} {d:DataW H} {p:List MemPlace} (hok:Value.okWide Try.prog W .any base 24 v) (h:DataW.Trod enc Try.prog W 0 sp true 24 v d p) :
 ∃ a m cap f,v=tabV a m cap∧Tab W a m f:=by
 obtain ⟨cs,rfl,hsz⟩:=okWide_struct Try.underlying24 hok
 obtain ⟨c0,rfl⟩:=array1 (hsz.trans cellsTab)
 obtain ⟨fuel,hf⟩:=h
 obtain ⟨xs,n,_,_,_,hlen,hg⟩:=DataW.trod_struct Try.underlying24 hf
 match xs,hlen with
 | [y0],_=>
   have h0:=hg 0 _ rfl
   obtain ⟨a,m,cap,f,rfl,hT⟩:=open_rows (v:=c0) (by simpa [Value.cells,cellsRows] using h0)
   exact ⟨a,m,cap,f,rfl,hT⟩
end
end Go.Proofs.Ytkbbhihndigmeaa

namespace Go.Proofs.Ytkbbhihndigmeaa
open Go Go.RowKit
theorem wfu8 {n:Int} (h:(Lit.int .u8 n).wf=true):0≤n∧n≤255:=by
 simp [Lit.wf] at h
 have h1:IntKind.u8.min=0:=by decide
 have h2:IntKind.u8.max=255:=by decide
 omega
theorem wfi8 {n:Int} (h:(Lit.int .i8 n).wf=true) : -128≤n∧n≤127:=by
 simp [Lit.wf] at h
 have h1:IntKind.i8.min = -128:=by decide
 have h2:IntKind.i8.max=127:=by decide
 omega
end Go.Proofs.Ytkbbhihndigmeaa

namespace Go.Proofs.Ytkbbhihndigmeaa
open Go Go.RowKit Go.Shelf
theorem great_no {m:Nat} {f:Nat→Row3} (h:greatB m f=false):m≤8 ∧ ∀ i,i<m→(f i).n≤8:=by
 simp only [greatB,Bool.or_eq_false_iff,decide_eq_false_iff_not,Bool.not_eq_false'] at h
 refine ⟨by omega,fun i hi => ?_⟩
 have:=(allB_iff _ _).1 h.2 i hi
 simpa using this
theorem two_all {T:Int} {X Y:List Nat} {e:Ending} {w:World} (h:(T ≠ 0∧e = .returned (.tuple #[.slice none 0 0, .slice none 0 0, .int .i64 T]))∨(T=0∧TwoL X Y 0 e w)):TwoL (if T=0 then X else []) (if T=0 then Y else []) T e w:=by
 rcases h with ⟨h,rfl⟩ | ⟨rfl,h⟩
 ·rw [if_neg h,if_neg h]
  exact ⟨none,0,none,0,rfl,lst_nil,lst_nil⟩
 ·rw [if_pos rfl,if_pos rfl]
  exact h
theorem one_all {T:Int} {X:List Nat} {e:Ending} {w:World} (h:(T ≠ 0∧e = .returned (.tuple #[.slice none 0 0, .int .i64 T]))∨T=0 ∧ ∃ x c,e = .returned (.tuple #[.slice x X.length c, .int .i64 0])∧Lst w X x c) : ∃ x c,e = .returned (.tuple #[.slice x (if T=0 then X else []).length c, .int .i64 T])∧Lst w (if T=0 then X else []) x c:=by
 rcases h with ⟨h,rfl⟩ | ⟨rfl,h⟩
 ·rw [if_neg h]
  exact ⟨none,0,rfl,lst_nil⟩
 ·rw [if_pos rfl]
  exact h
theorem intsL_yes {X:List Nat} {p q:Option Addr} {c d:Nat} {w:World} (hX:Lst w X p c) (hY:Lst w X q d):Calls Try.prog 35 #[.slice p X.length c, .slice q X.length d] w fun e w'=>e = .returned (.bool true)∧Below w.heap.size w w':=by
 have h:=IntsL_c X X p q c d w hX hY
 rw [decide_eq_true rfl] at h
 exact h
end Go.Proofs.Ytkbbhihndigmeaa

namespace Go.Proofs.Ytkbbhihndigmeaa
open Go Go.RowKit Go.Shelf
theorem fine_great {m:Nat} {f:Nat→Row3} (h:tableE m f=0):greatB m f=false:=by
 have hO:=okay_of h
 have h4:=hO.m4
 simp only [greatB,Bool.or_eq_false_iff,decide_eq_false_iff_not,Bool.not_eq_false']
 refine ⟨by omega,(allB_iff _ _).2 fun i hi => ?_⟩
 have h1:=hO.len i hi
 have h2:=hO.n4
 rw [decide_eq_true_eq]
 omega
def fineB (m:Nat) (f:Nat→Row3):Bool:=decide (tableE m f=0)
set_option maxHeartbeats 4000000 in
theorem fine_c (a:Option Addr) (m cap:Nat) (f:Nat→Row3) (w:World) (hf:Tab w a m f):Calls Try.prog 40 #[tabV a m cap] w fun e w'=>e = .returned (.bool (fineB m f))∧Below w.heap.size w w':=by
 obtain ⟨W,hW⟩ : ∃ W,w.alloc (.cells #[.slice a m cap] 24)=W:=⟨_,rfl⟩
 have hB:Below w.heap.size w W:=by rw [← hW]; exact Below.alloc1 (Below.refl _ _) _ (Nat.le_refl _)
 have hR:RowIs W w.heap.size #[.slice a m cap] 24:=by rw [← hW]; exact heap_new_at _ _ _ rfl
 have r0:W.cell? ⟨w.heap.size,0,none⟩=some (.slice a m cap):=RowIs.cell hR 0
 have rz:w.heap.size<W.heap.size:=hR.lt
 have HF:=Lib.hid (hf.below hB)
 clear hR hf
 cases hg:greatB m f with
 | true=>
   have e:fineB m f=false:=decide_eq_false fun h=>by rw [fine_great h] at hg; cases hg
   rw [e]
   clear e
   have HG:=Lib.hid hg
   clear hg
   go_enter Try.func40,Try.ntmps40
   go_wp2_with fail
   refine (great_c a m cap f _ HF.out).mono ?_
   rintro e w1 ⟨rfl,hb1⟩
   rw [HG.out]
   go_wp2_with fail
   go_ret
   exact ⟨rfl,bup hB hb1⟩
 | false=>
   have hm2:m≤1048576:=by have:=(great_no hg).1; omega
   have HG:=Lib.hid hg
   obtain ⟨T,hT⟩ : ∃ T,tableE m f=T:=⟨_,rfl⟩
   have e:fineB m f=(T==0):=by rw [fineB,hT]; simp [Bool.beq_eq_decide_eq]
   rw [e]
   have HT:=Lib.hid hT
   clear e hg hT
   go_enter Try.func40,Try.ntmps40
   go_wp2_with fail
   refine (great_c a m cap f _ HF.out).mono ?_
   rintro e w1 ⟨rfl,hb1⟩
   rw [HG.out]
   have q0:=(hb1.cell (p:=⟨w.heap.size,0,none⟩) rz).trans r0
   have qz:=Nat.lt_of_lt_of_le rz hb1.size
   clear r0 rz
   go_wp2_with fail
   refine (rcheckTable_c a m cap f _ (HF.out.below hb1) hm2).mono ?_
   rintro e w2 ⟨rfl,hb2⟩
   rw [HT.out]
   go_wp2_with fail
   go_ret
   exact ⟨rfl,bup hB (bup hb1 hb2)⟩
set_option maxHeartbeats 4000000 in
theorem small_c (n d:Int) (w:World) (h1:1≤d) (h2:d≤400000000) (h3 : -100*d≤n) (h4:n≤100*d) (h5:ratN n d=n) (h6:ratD n d=d):Calls Try.prog 43 #[.agg #[.int .i64 n, .int .i64 d]] w fun e w'=>e = .returned (.bool true)∧Below w.heap.size w w':=by
 obtain ⟨W,hW⟩ : ∃ W,w.alloc (.cells #[.int .i64 n, .int .i64 d] 30)=W:=⟨_,rfl⟩
 have hB:Below w.heap.size w W:=by rw [← hW]; exact Below.alloc1 (Below.refl _ _) _ (Nat.le_refl _)
 have hR:RowIs W w.heap.size #[.int .i64 n, .int .i64 d] 30:=by rw [← hW]; exact heap_new_at _ _ _ rfl
 have r0:W.cell? ⟨w.heap.size,0,none⟩=some (.int .i64 n):=RowIs.cell hR 0
 have r1:W.cell? ⟨w.heap.size,1,none⟩=some (.int .i64 d):=RowIs.cell hR 1
 have rz:w.heap.size<W.heap.size:=hR.lt
 have hw1:IntKind.i64.wrap (-100*d) = -100*d:=IntWalk.i64_in _ (by omega)
 have hw2:IntKind.i64.wrap (100*d)=100*d:=IntWalk.i64_in _ (by omega)
 have t1:(1:Int)≤d:=h1
 have C1:=fun (x:World)=>rBy_c n d x (by omega) (by omega) (by omega) (by omega)
 unfold ratV at C1
 rw [h5,h6] at C1
 replace C1:=Lib.hid C1
 have eqq : ∀ x,(Op.equalIn 10000 30 (.agg #[.int .i64 n, .int .i64 d]) (.agg #[.int .i64 n, .int .i64 d])).run Try.prog x = .ok true x:=fun x=>(eqRat n d n d x).trans (by simp)
 clear h5 h6 hR h1
 have hlc:=fun (x:Later W)=>later_cell x
 go_enter Try.func43,Try.ntmps43
 go_wp2_with fail
 refine wp_region_later (by kernel_rfl) (by kernel_rfl) ?_
 repeat (go_big_quiet_step ((first | (with_reducible refine calls_later (C1.out _)))))
 refine wpQuiet_nil ?_
 clear hlc
 rintro ⟨w1,hb1⟩
 go_wp2_with fail
 go_ret
 exact ⟨rfl,bup hB hb1⟩
end Go.Proofs.Ytkbbhihndigmeaa

namespace Go.Proofs.Ytkbbhihndigmeaa
open Go Go.RowKit Go.Shelf
theorem dot_between {x f:Nat→Int} {b:Int} : ∀ {m:Nat},(∀ i,i<m→0≤x i)→(∀ i,i<m → -b≤f i∧f i≤b) → -b*sumI x m≤dotN x f m∧dotN x f m≤b*sumI x m:=by
 intro m hx hf
 have h1:=dotN_mono (x:=x) (f:=fun _=> -b) (g:=f) (m:=m) hx fun i hi=>(hf i hi).1
 have h2:=dotN_mono (x:=x) (f:=f) (g:=fun _=>b) (m:=m) hx fun i hi=>(hf i hi).2
 rw [dotN_const,dotN_sum1] at h1 h2
 exact ⟨h1,h2⟩
theorem sure_between {f:Nat→Row3} {m n:Nat} {p:Nat→Int} (hO:Okay m n f) (hp : ∀ i,i<m→0≤p i) : -100*sumI p m≤sureN f m n p∧sureN f m n p≤100*sumI p m:=by
 obtain ⟨j,hj,e⟩:=leastF_is (ag (lossA f) p m) n hO.n1
 have e2:sureN f m n p=ag (lossA f) p m j:=e
 rw [e2]
 exact dot_between hp fun i hi=>hO.num i hi j hj
theorem rat_small {s S:Int} (hS:0<S) (h1 : -100*S≤s) (h2:s≤100*S):1≤ratD s S∧ratD s S≤S ∧ -100*ratD s S≤ratN s S∧ratN s S≤100*ratD s S∧ratN (ratN s S) (ratD s S)=ratN s S∧ratD (ratN s S) (ratD s S)=ratD s S:=by
 have hd:=ratD_pos s hS
 have he:=rat_eqn s hS
 obtain ⟨i1,i2⟩:=rat_idem s hS
 refine ⟨hd,ratD_le s hS,?_,?_,i1,i2⟩
 ·refine Int.le_of_mul_le_mul_right (a:=S) ?_ hS
  have:=Int.mul_le_mul_of_nonneg_right h1 (Int.le_of_lt hd)
  rw [← he]
  grind
 ·refine Int.le_of_mul_le_mul_right (a:=S) ?_ hS
  have:=Int.mul_le_mul_of_nonneg_right h2 (Int.le_of_lt hd)
  rw [← he]
  grind
theorem sure_small {f:Nat→Row3} {m n:Nat} {p:Nat→Int} (hO:Okay m n f) (hp : ∀ i,i<m→0≤p i) (h0:0<sumI p m):1≤ratD (sureN f m n p) (sumI p m)∧ratD (sureN f m n p) (sumI p m)≤sumI p m ∧ -100*ratD (sureN f m n p) (sumI p m)≤ratN (sureN f m n p) (sumI p m)∧ratN (sureN f m n p) (sumI p m)≤100*ratD (sureN f m n p) (sumI p m) ∧
 ratN (ratN (sureN f m n p) (sumI p m)) (ratD (sureN f m n p) (sumI p m))=ratN (sureN f m n p) (sumI p m)∧ratD (ratN (sureN f m n p) (sumI p m)) (ratD (sureN f m n p) (sumI p m))=ratD (sureN f m n p) (sumI p m):=
 rat_small h0 (sure_between hO hp).1 (sure_between hO hp).2
theorem sum_upto {x:Nat→Int} {b:Int} : ∀ {m:Nat},(∀ i,i<m→x i≤b)→sumI x m≤b*m
 | 0,_=>by simp [sumI]
 | m+1,h=>by
   have h1:=sum_upto (m:=m) fun i hi=>h i (by omega)
   have h2:=h m (by omega)
   rw [sumI]
   have:b*((m+1:Nat):Int)=b*(m:Int)+b:=by grind
   omega
theorem val_small {f:Nat→Row3} {m n:Nat} {x:Nat→Int} (hO:Okay m n f) (h:BestR (lossA f) m n x):1≤(valOf (lossA f) m n).2∧(valOf (lossA f) m n).2≤96000000 ∧ -100*(valOf (lossA f) m n).2≤(valOf (lossA f) m n).1∧(valOf (lossA f) m n).1≤100*(valOf (lossA f) m n).2 ∧
 ratN (valOf (lossA f) m n).1 (valOf (lossA f) m n).2=(valOf (lossA f) m n).1∧ratD (valOf (lossA f) m n).1 (valOf (lossA f) m n).2=(valOf (lossA f) m n).2:=by
 have h0:0<sumI x m:=by rw [← tot_sum]; exact h.sure.2.1
 have e:=(sure_val hO (fun i hi=>(h.few i hi).1) h0).2 h.sure
 have e1:ratN (sureN f m n x) (sumI x m)=(valOf (lossA f) m n).1:=congrArg Prod.fst e
 have e2:ratD (sureN f m n x) (sumI x m)=(valOf (lossA f) m n).2:=congrArg Prod.snd e
 have hs:=sure_small hO (fun i hi=>(h.few i hi).1) h0
 rw [e1,e2] at hs
 have hb:=sum_upto (x:=x) (m:=m) (b:=24000000) fun i hi=>(h.few i hi).2
 have h4:=hO.m4
 have:(24000000:Int)*(m:Int)≤96000000:=by omega
 exact ⟨hs.1,by omega,hs.2.2⟩
end Go.Proofs.Ytkbbhihndigmeaa

namespace Go.Proofs.Ytkbbhihndigmeaa
open Go Go.RowKit Go.Shelf
def ValO (m n:Nat) (A:Nat→Nat→Int) (e:Ending) (w:World):Prop:= ∃ gr xr gk xk,BestR A m n xr∧BestR (flip A) n m xk∧e = .returned (.tuple #[.agg #[.int .i64 (valOf A m n).1, .int .i64 (valOf A m n).2], .slice (some ⟨gr,0,none⟩) m m, .slice (some ⟨gk,0,none⟩) n n, .bool true])∧RowIs w gr (rowA m xr) 2∧RowIs w gk (rowA n xk) 2
set_option maxRecDepth 100000 in
set_option maxHeartbeats 16000000 in
theorem value_c (a:Option Addr) (m n cap:Nat) (f:Nat→Row3) (w:World) (hf:Tab w a m f) (hO:Okay m n f) :
 Calls Try.prog 41 #[tabV a m cap] w fun e w'=>ValO m n (lossA f) e w'∧Below w.heap.size w w':=by
 obtain ⟨W,hW⟩ : ∃ W,(w.alloc (.cells #[.slice a m cap] 24)).alloc (.cells #[.int .i64 0, .int .i64 0] 30)=W:=⟨_,rfl⟩
 have hB:Below w.heap.size w W:=by rw [← hW]; exact Below.alloc1 (Below.alloc1 (Below.refl _ _) _ (Nat.le_refl _)) _ (Nat.le_refl _)
 have R1:=Lib.hid (show RowIs W w.heap.size #[.slice a m cap] 24 by rw [← hW]; exact RowIs.alloc (heap_new_at _ _ _ rfl) _)
 have RZ:=Lib.hid (show RowIs W (w.heap.size+1) #[.int .i64 0, .int .i64 0] 30 by rw [← hW]; exact heap_new_at _ _ _ (by simp))
 have H1:=Lib.hid (hf.below hB)
 have B1:=Lib.hid hB
 have hE:=okay_is hO
 have hf0:(f 0).n=n:=hO.len 0 hO.m1
 have hm4:=hO.m4
 have hn4:=hO.n4
 have hm2:m≤1048576:=by omega
 have hr2 : ∀ i,i<m→(f i).n≤1048576:=fun i hi=>by rw [hO.len i hi]; omega
 have KM:=Lib.hid hm4
 have KN:=Lib.hid hn4
 have F0:=Lib.hid hf0
 have RR:=Lib.hid hr2
 have K0:=Lib.hid hE
 have KO:=Lib.hid hO
 obtain ⟨v1,hv1⟩ : ∃ v1,(valOf (lossA f) m n).1=v1:=⟨_,rfl⟩
 obtain ⟨v2,hv2⟩ : ∃ v2,(valOf (lossA f) m n).2=v2:=⟨_,rfl⟩
 have hv:valueR m f=(v1,v2,0):=by unfold valueR; rw [if_neg (fun h=>h hE),hf0, ← hv1, ← hv2]
 have KV:=Lib.hid hv
 have V1:=Lib.hid hv1
 have V2:=Lib.hid hv2
 clear hf hB hE hf0 hm4 hn4 hr2 hO hv hv1 hv2
 go_enter Try.func41,Try.ntmps41
 have cc1:W.cell? ⟨w.heap.size,0,none⟩=some (.slice a m cap):=RowIs.cell R1.out 0
 have zz2:w.heap.size<W.heap.size:=RowIs.lt R1.out
 have C3:=Value_v a m cap f W H1.out hm2 RR.out
 rw [KV.out] at C3
 replace C3:=Lib.hid C3
 go_wp2_with fail
 clear hW cc1 zz2
 refine (C3.out).mono ?_
 rintro e w4 ⟨rfl,hbq⟩
 replace R1:=Lib.hid (RowIs.below R1.out hbq)
 replace RZ:=Lib.hid (RowIs.below RZ.out hbq)
 replace H1:=Lib.hid (H1.out.below hbq)
 replace B1:=Lib.hid (bup B1.out hbq)
 clear hbq
 clear C3
 have nq1:w4.heap.size ≠ w.heap.size+1:=by have:=RowIs.lt RZ.out; omega
 obtain ⟨Y5,hY5⟩ : ∃ Y5,w4.alloc (.cells #[.int .i64 v1, .int .i64 v2] 30)=Y5:=⟨_,rfl⟩
 have hb6:Below w4.heap.size w4 Y5:=by rw [← hY5]; exact Below.alloc1 (Below.refl _ _) _ (Nat.le_refl _)
 have hr7:RowIs Y5 w4.heap.size #[.int .i64 v1, .int .i64 v2] 30:=by rw [← hY5]; exact heap_new_at _ _ _ rfl
 replace R1:=Lib.hid (RowIs.below R1.out hb6)
 replace RZ:=Lib.hid (RowIs.below RZ.out hb6)
 replace H1:=Lib.hid (H1.out.below hb6)
 replace B1:=Lib.hid (bup B1.out hb6)
 have Q1:=Lib.hid hr7
 clear hb6 hr7
 have cc8:Y5.cell? ⟨w.heap.size,0,none⟩=some (.slice a m cap):=RowIs.cell R1.out 0
 have zz9:w.heap.size<Y5.heap.size:=RowIs.lt R1.out
 have C10:=Lib.hid (Rows_v a m cap f Y5 H1.out hm2 RR.out)
 go_wp2_with fail
 clear hY5 cc8 zz9
 refine (C10.out).mono ?_
 rintro e w11 ⟨hres,hbq⟩
 obtain ⟨gr,xr,hbest,rfl,hrow⟩:=hres.elim (fun h=>absurd K0.out h.1) (fun h=>h.2)
 replace R1:=Lib.hid (RowIs.below R1.out hbq)
 replace RZ:=Lib.hid (RowIs.below RZ.out hbq)
 replace H1:=Lib.hid (H1.out.below hbq)
 replace Q1:=Lib.hid (RowIs.below Q1.out hbq)
 replace B1:=Lib.hid (bup B1.out hbq)
 rw [F0.out] at hbest
 have BR:=Lib.hid hbest
 have Ggr:=Lib.hid hrow
 clear hbest hrow hbq hres C10
 have cc12:w11.cell? ⟨w.heap.size,0,none⟩=some (.slice a m cap):=RowIs.cell R1.out 0
 have zz13:w.heap.size<w11.heap.size:=RowIs.lt R1.out
 have C14:=Lib.hid (Columns_v a m cap f w11 H1.out hm2 RR.out)
 go_wp2_with fail
 clear cc12 zz13
 refine (C14.out).mono ?_
 rintro e w15 ⟨hres,hbq⟩
 obtain ⟨gk,xk,hbest,rfl,hrow⟩:=hres.elim (fun h=>absurd K0.out h.1) (fun h=>h.2)
 replace R1:=Lib.hid (RowIs.below R1.out hbq)
 replace RZ:=Lib.hid (RowIs.below RZ.out hbq)
 replace H1:=Lib.hid (H1.out.below hbq)
 replace Q1:=Lib.hid (RowIs.below Q1.out hbq)
 replace Ggr:=Lib.hid (RowIs.below Ggr.out hbq)
 replace B1:=Lib.hid (bup B1.out hbq)
 rw [F0.out] at hbest hrow
 rw [F0.out]
 have BC:=Lib.hid hbest
 have Ggk:=Lib.hid hrow
 clear hbest hrow hbq hres C14
 have cc16:w15.cell? ⟨w.heap.size,0,none⟩=some (.slice a m cap):=RowIs.cell R1.out 0
 have zz17:w.heap.size<w15.heap.size:=RowIs.lt R1.out
 have hsm:=val_small KO.out BR.out
 rw [V1.out,V2.out] at hsm
 obtain ⟨sm1,sm2,sm3,sm4,sm5,sm6⟩:=hsm
 have t200:v2≤200000000:=by omega
 have T200:=Lib.hid t200
 have CS:=Lib.hid (fun (x:World)=>small_c v1 v2 x sm1 (by omega) sm3 sm4 sm5 sm6)
 clear sm1 sm2 sm3 sm4 sm5 sm6 t200
 have cc18:w15.cell? ⟨w4.heap.size,0,none⟩=some (.int .i64 v1):=RowIs.cell Q1.out 0
 have cc19:w15.cell? ⟨w4.heap.size,1,none⟩=some (.int .i64 v2):=RowIs.cell Q1.out 1
 have zz20:w4.heap.size<w15.heap.size:=RowIs.lt Q1.out
 go_wp2_with fail
 clear cc16 zz17 cc18 cc19 zz20
 refine (CS.out _).mono ?_
 rintro e w21 ⟨rfl,hbq⟩
 replace R1:=Lib.hid (RowIs.below R1.out hbq)
 replace RZ:=Lib.hid (RowIs.below RZ.out hbq)
 replace H1:=Lib.hid (H1.out.below hbq)
 replace Q1:=Lib.hid (RowIs.below Q1.out hbq)
 replace Ggr:=Lib.hid (RowIs.below Ggr.out hbq)
 replace Ggk:=Lib.hid (RowIs.below Ggk.out hbq)
 replace B1:=Lib.hid (bup B1.out hbq)
 clear hbq
 clear CS
 have lm:decide (8<m)=false:=decide_eq_false (by have:=KM.out; omega)
 have ln:decide (8<n)=false:=decide_eq_false (by have:=KN.out; omega)
 have LM:=Lib.hid lm
 have LN:=Lib.hid ln
 clear lm ln
 have cc22:w21.cell? ⟨w.heap.size,0,none⟩=some (.slice a m cap):=RowIs.cell R1.out 0
 have zz23:w.heap.size<w21.heap.size:=RowIs.lt R1.out
 go_wp2_with fail
 clear cc22 zz23
 refine (long_c (some ⟨gr,0,none⟩) m m _).mono ?_
 rintro e _ ⟨rfl,rfl⟩
 rw [LM.out]
 go_wp2_with fail
 refine (long_c (some ⟨gk,0,none⟩) n n _).mono ?_
 rintro e _ ⟨rfl,rfl⟩
 rw [LN.out]
 have cc24:w21.cell? ⟨w.heap.size,0,none⟩=some (.slice a m cap):=RowIs.cell R1.out 0
 have zz25:w.heap.size<w21.heap.size:=RowIs.lt R1.out
 have hpv:proofR m f m xr n xk=(v1,v2,0):=by
  have hq:=best_bounds KO.out BC.out
  have:=proof_val KO.out BR.out.sure hq (fun i hi=>by have:=(BR.out.few i hi).2; omega) (fun i hi=>by have:=(BC.out.few i hi).2; omega)
  rw [this,V1.out,V2.out]
 have KR:=Lib.hid hpv
 clear hpv
 have C26:=CheckProof_c a m cap f (some ⟨gr,0,none⟩) m m xr (some ⟨gk,0,none⟩) n n xk w21 H1.out hm2 RR.out (rowA_ints Ggr.out) hm2 (rowA_ints Ggk.out) (by have:=KN.out; omega)
 rw [KR.out] at C26
 replace C26:=Lib.hid C26
 go_wp2_with fail
 clear cc24 zz25
 refine (C26.out).mono ?_
 rintro e w27 ⟨rfl,hbq⟩
 replace R1:=Lib.hid (RowIs.below R1.out hbq)
 replace RZ:=Lib.hid (RowIs.below RZ.out hbq)
 replace H1:=Lib.hid (H1.out.below hbq)
 replace Q1:=Lib.hid (RowIs.below Q1.out hbq)
 replace Ggr:=Lib.hid (RowIs.below Ggr.out hbq)
 replace Ggk:=Lib.hid (RowIs.below Ggk.out hbq)
 replace B1:=Lib.hid (bup B1.out hbq)
 clear hbq
 clear C26
 have nq2:w27.heap.size ≠ w.heap.size+1:=by have:=RowIs.lt RZ.out; omega
 obtain ⟨Y28,hY28⟩ : ∃ Y28,w27.alloc (.cells #[.int .i64 v1, .int .i64 v2] 30)=Y28:=⟨_,rfl⟩
 have hb29:Below w27.heap.size w27 Y28:=by rw [← hY28]; exact Below.alloc1 (Below.refl _ _) _ (Nat.le_refl _)
 have hr30:RowIs Y28 w27.heap.size #[.int .i64 v1, .int .i64 v2] 30:=by rw [← hY28]; exact heap_new_at _ _ _ rfl
 replace R1:=Lib.hid (RowIs.below R1.out hb29)
 replace RZ:=Lib.hid (RowIs.below RZ.out hb29)
 replace H1:=Lib.hid (H1.out.below hb29)
 replace Q1:=Lib.hid (RowIs.below Q1.out hb29)
 replace Ggr:=Lib.hid (RowIs.below Ggr.out hb29)
 replace Ggk:=Lib.hid (RowIs.below Ggk.out hb29)
 replace B1:=Lib.hid (bup B1.out hb29)
 have Q2:=Lib.hid hr30
 clear hb29 hr30
 have cc31:Y28.cell? ⟨w.heap.size,0,none⟩=some (.slice a m cap):=RowIs.cell R1.out 0
 have zz32:w.heap.size<Y28.heap.size:=RowIs.lt R1.out
 have C33:=rCheckProof_c a m cap f (some ⟨gr,0,none⟩) m m xr (some ⟨gk,0,none⟩) n n xk Y28 H1.out hm2 (rowA_ints Ggr.out) hm2 (rowA_ints Ggk.out) (by have:=KN.out; omega)
 rw [KR.out] at C33
 replace C33:=Lib.hid C33
 go_wp2_with fail
 clear hY28 cc31 zz32
 refine (C33.out).mono ?_
 rintro e w34 ⟨rfl,hbq⟩
 replace R1:=Lib.hid (RowIs.below R1.out hbq)
 replace RZ:=Lib.hid (RowIs.below RZ.out hbq)
 replace H1:=Lib.hid (H1.out.below hbq)
 replace Q1:=Lib.hid (RowIs.below Q1.out hbq)
 replace Ggr:=Lib.hid (RowIs.below Ggr.out hbq)
 replace Ggk:=Lib.hid (RowIs.below Ggk.out hbq)
 replace Q2:=Lib.hid (RowIs.below Q2.out hbq)
 replace B1:=Lib.hid (bup B1.out hbq)
 clear hbq
 clear C33
 have nq3:w34.heap.size ≠ w.heap.size+1:=by have:=RowIs.lt RZ.out; omega
 obtain ⟨Y35,hY35⟩ : ∃ Y35,w34.alloc (.cells #[.int .i64 v1, .int .i64 v2] 30)=Y35:=⟨_,rfl⟩
 have hb36:Below w34.heap.size w34 Y35:=by rw [← hY35]; exact Below.alloc1 (Below.refl _ _) _ (Nat.le_refl _)
 have hr37:RowIs Y35 w34.heap.size #[.int .i64 v1, .int .i64 v2] 30:=by rw [← hY35]; exact heap_new_at _ _ _ rfl
 replace R1:=Lib.hid (RowIs.below R1.out hb36)
 replace RZ:=Lib.hid (RowIs.below RZ.out hb36)
 replace H1:=Lib.hid (H1.out.below hb36)
 replace Q1:=Lib.hid (RowIs.below Q1.out hb36)
 replace Ggr:=Lib.hid (RowIs.below Ggr.out hb36)
 replace Ggk:=Lib.hid (RowIs.below Ggk.out hb36)
 replace Q2:=Lib.hid (RowIs.below Q2.out hb36)
 replace B1:=Lib.hid (bup B1.out hb36)
 have Q3:=Lib.hid hr37
 clear hb36 hr37
 have cc38:Y35.cell? ⟨w.heap.size,0,none⟩=some (.slice a m cap):=RowIs.cell R1.out 0
 have zz39:w.heap.size<Y35.heap.size:=RowIs.lt R1.out
 have eq40 : ∀ x,(Op.equalIn 10000 30 (.agg #[.int .i64 v1, .int .i64 v2]) (.agg #[.int .i64 v1, .int .i64 v2])).run Try.prog x = .ok true x:=fun x=>(eqRat v1 v2 v1 v2 x).trans (by simp)
 have t200:=T200.out
 have hgr0:gr ≠ w.heap.size+1:=fun h=>by subst h; exact absurd (RZ.out.symm.trans Ggr.out) (by simp [rowA])
 have hgk0:gk ≠ w.heap.size+1:=fun h=>by subst h; exact absurd (RZ.out.symm.trans Ggk.out) (by simp [rowA])
 go_wp2_with fail
 clear hY35 cc38 zz39 eq40
 refine wp_region_runF (C:=fun y=>RowIs y (w4.heap.size) #[.int .i64 v1, .int .i64 v2] 30∧RowIs y (w27.heap.size) #[.int .i64 v1, .int .i64 v2] 30∧RowIs y (w34.heap.size) #[.int .i64 v1, .int .i64 v2] 30) (fun y=>Below Y35.heap.size Y35 y) (by kernel_rfl) (stable_below Y35) (Below.refl _ _) ?_
 change Run _ _ _ _ _ 28 _ _ _
 have hFC : ∀ y,Below Y35.heap.size Y35 y→RowIs y (w4.heap.size) #[.int .i64 v1, .int .i64 v2] 30∧RowIs y (w27.heap.size) #[.int .i64 v1, .int .i64 v2] 30∧RowIs y (w34.heap.size) #[.int .i64 v1, .int .i64 v2] 30:=fun y h=>⟨RowIs.below Q1.out h,RowIs.below Q2.out h,RowIs.below Q3.out h⟩
 refine run_takeG (i:=0) (.agg #[.int .i64 v1, .int .i64 v2]) rfl (by kernel_rfl) (by kernel_rfl) (by kernel_rfl) (fun y h=>hFC y h) (quiet_yes _ (by rfl) (fun y hy=>by obtain ⟨k0,k1,k2⟩:=hy; have c0:=RowIs.cell k0 0; have c1:=RowIs.cell k0 1; have cz:=RowIs.lt k0; go_simp)) ?_
 simp only [puts]
 refine run_takeG (i:=1) (.slice (some ⟨gr,0,none⟩) m m) rfl (by kernel_rfl) (by kernel_rfl) (by kernel_rfl) (fun y h=>hFC y h) (quiet_yes _ (by rfl) (fun y hy=>by go_simp)) ?_
 simp only [puts]
 refine run_takeG (i:=2) (.slice (some ⟨gk,0,none⟩) n n) rfl (by kernel_rfl) (by kernel_rfl) (by kernel_rfl) (fun y h=>hFC y h) (quiet_yes _ (by rfl) (fun y hy=>by go_simp)) ?_
 simp only [puts]
 refine run_takeG (i:=3) (.int .i64 0) rfl (by kernel_rfl) (by kernel_rfl) (by kernel_rfl) (fun y h=>hFC y h) (quiet_yes _ (by rfl) (fun y hy=>by go_simp)) ?_
 simp only [puts]
 refine run_takeG (i:=4) (.bool true) rfl (by kernel_rfl) (by kernel_rfl) (by kernel_rfl) (fun y h=>hFC y h) (quiet_yes _ (by rfl) (fun y hy=>by go_simp)) ?_
 simp only [puts]
 refine run_takeG (i:=5) (.bool true) rfl (by kernel_rfl) (by kernel_rfl) (by kernel_rfl) (fun y h=>hFC y h) (quiet_yes _ (by rfl) (fun y hy=>by go_simp)) ?_
 simp only [puts]
 refine run_takeG (i:=6) (.int .i64 0) rfl (by kernel_rfl) (by kernel_rfl) (by kernel_rfl) (fun y h=>hFC y h) (quiet_yes _ (by rfl) (fun y hy=>by go_simp)) ?_
 simp only [puts]
 refine run_takeG (i:=7) (.bool true) rfl (by kernel_rfl) (by kernel_rfl) (by kernel_rfl) (fun y h=>hFC y h) (quiet_yes _ (by rfl) (fun y hy=>by go_simp)) ?_
 simp only [puts]
 refine run_takeG (i:=8) (.bool true) rfl (by kernel_rfl) (by kernel_rfl) (by kernel_rfl) (fun y h=>hFC y h) (quiet_yes _ (by rfl) (fun y hy=>by go_simp)) ?_
 simp only [puts]
 refine run_takeG (i:=9) (.bool true) rfl (by kernel_rfl) (by kernel_rfl) (by kernel_rfl) (fun y h=>hFC y h) (quiet_yes _ (by rfl) (fun y hy=>by go_simp)) ?_
 simp only [puts]
 refine run_takeG (i:=10) (.agg #[.int .i64 v1, .int .i64 v2]) rfl (by kernel_rfl) (by kernel_rfl) (by kernel_rfl) (fun y h=>hFC y h) (quiet_yes _ (by rfl) (fun y hy=>by obtain ⟨k0,k1,k2⟩:=hy; have c0:=RowIs.cell k1 0; have c1:=RowIs.cell k1 1; have cz:=RowIs.lt k1; go_simp)) ?_
 simp only [puts]
 refine run_takeG (i:=11) (.agg #[.int .i64 v1, .int .i64 v2]) rfl (by kernel_rfl) (by kernel_rfl) (by kernel_rfl) (fun y h=>hFC y h) (quiet_yes _ (by rfl) (fun y hy=>by obtain ⟨k0,k1,k2⟩:=hy; have c0:=RowIs.cell k0 0; have c1:=RowIs.cell k0 1; have cz:=RowIs.lt k0; go_simp)) ?_
 simp only [puts]
 refine run_takeG (i:=12) (.bool true) rfl (by kernel_rfl) (by kernel_rfl) (by kernel_rfl) (fun y h=>hFC y h) (quiet_yes _ (by rfl) (fun y hy=>by go_simp)) ?_
 simp only [puts]
 refine run_takeG (i:=13) (.bool true) rfl (by kernel_rfl) (by kernel_rfl) (by kernel_rfl) (fun y h=>hFC y h) (quiet_yes _ (by rfl) (fun y hy=>by go_simp)) ?_
 simp only [puts]
 refine run_takeG (i:=14) (.bool true) rfl (by kernel_rfl) (by kernel_rfl) (by kernel_rfl) (fun y h=>hFC y h) (quiet_yes _ (by rfl) (fun y hy=>by go_simp)) ?_
 simp only [puts]
 refine run_takeG (i:=15) (.agg #[.int .i64 v1, .int .i64 v2]) rfl (by kernel_rfl) (by kernel_rfl) (by kernel_rfl) (fun y h=>hFC y h) (quiet_yes _ (by rfl) (fun y hy=>by obtain ⟨k0,k1,k2⟩:=hy; have c0:=RowIs.cell k2 0; have c1:=RowIs.cell k2 1; have cz:=RowIs.lt k2; go_simp)) ?_
 simp only [puts]
 refine run_takeG (i:=16) (.agg #[.int .i64 v1, .int .i64 v2]) rfl (by kernel_rfl) (by kernel_rfl) (by kernel_rfl) (fun y h=>hFC y h) (quiet_yes _ (by rfl) (fun y hy=>by obtain ⟨k0,k1,k2⟩:=hy; have c0:=RowIs.cell k0 0; have c1:=RowIs.cell k0 1; have cz:=RowIs.lt k0; go_simp)) ?_
 simp only [puts]
 refine run_takeG (i:=17) (.bool true) rfl (by kernel_rfl) (by kernel_rfl) (by kernel_rfl) (fun y h=>hFC y h) (quiet_yes _ (by rfl) (fun y hy=>by go_simp)) ?_
 simp only [puts]
 refine run_takeG (i:=18) (.bool true) rfl (by kernel_rfl) (by kernel_rfl) (by kernel_rfl) (fun y h=>hFC y h) (quiet_yes _ (by rfl) (fun y hy=>by go_simp)) ?_
 simp only [puts]
 refine run_takeG (i:=19) (.bool true) rfl (by kernel_rfl) (by kernel_rfl) (by kernel_rfl) (fun y h=>hFC y h) (quiet_yes _ (by rfl) (fun y hy=>by go_simp)) ?_
 simp only [puts]
 refine run_takeG (i:=20) (.pointer (some ⟨w4.heap.size,1,none⟩)) rfl (by kernel_rfl) (by kernel_rfl) (by kernel_rfl) (fun y h=>hFC y h) (quiet_yes _ (by rfl) (fun y hy=>by go_simp)) ?_
 simp only [puts]
 refine run_takeG (i:=21) (.int .i64 v2) rfl (by kernel_rfl) (by kernel_rfl) (by kernel_rfl) (fun y h=>hFC y h) (quiet_yes _ (by rfl) (fun y hy=>by obtain ⟨k0,k1,k2⟩:=hy; have c0:=RowIs.cell k0 0; have c1:=RowIs.cell k0 1; have cz:=RowIs.lt k0; go_simp)) ?_
 simp only [puts]
 refine run_takeG (i:=22) (.bool true) rfl (by kernel_rfl) (by kernel_rfl) (by kernel_rfl) (fun y h=>hFC y h) (quiet_yes _ (by rfl) (fun y hy=>by go_simp)) ?_
 simp only [puts]
 refine run_takeG (i:=23) (.bool true) rfl (by kernel_rfl) (by kernel_rfl) (by kernel_rfl) (fun y h=>hFC y h) (quiet_yes _ (by rfl) (fun y hy=>by go_simp)) ?_
 simp only [puts]
 refine run_store (i:=24) (fun y=>RowIs y (w.heap.size+1) #[.int .i64 v1, .int .i64 v2] 30∧(RowIs y (w4.heap.size) #[.int .i64 v1, .int .i64 v2] 30∧RowIs y (w27.heap.size) #[.int .i64 v1, .int .i64 v2] 30∧RowIs y (w34.heap.size) #[.int .i64 v1, .int .i64 v2] 30)∧Below w.heap.size w y∧RowIs y gr (rowA m xr) 2∧RowIs y gk (rowA n xk) 2) (by kernel_rfl) rfl rfl (fun y y1 ⟨h0,⟨h1,h2,h3⟩,h4,h5,h6⟩ hb=>⟨h0.below hb,⟨h1.below hb,h2.below hb,h3.below hb⟩,h4.trans (hb.mono h4.size),h5.below hb,h6.below hb⟩) (fun y h=>h.2.1) (fun y hy => ?_) ?_
 ·have rz:=RowIs.below RZ.out hy
  have z0:=rz.frozen 0
  have z1:=rz.frozen 1
  have zz:=rz.lt
  have c0:=rz.cell 0
  have c1:=rz.cell 1
  obtain ⟨k0,k1,k2⟩:=hFC y hy
  refine ⟨(y.setCell ⟨w.heap.size+1,0,none⟩ (.int .i64 v1)).setCell ⟨w.heap.size+1,1,none⟩ (.int .i64 v2),by go_simp,(rz.set 0 _).set 1 _,⟨(k0.other 0 _ nq1.symm).other 1 _ nq1.symm,(k1.other 0 _ nq2.symm).other 1 _ nq2.symm,(k2.other 0 _ nq3.symm).other 1 _ nq3.symm⟩,((bup B1.out hy).setCell (p:=⟨w.heap.size+1,0,none⟩) (Nat.le_succ _) _).setCell (p:=⟨w.heap.size+1,1,none⟩) (Nat.le_succ _) _,((Ggr.out.below hy).other 0 _ hgr0.symm).other 1 _ hgr0.symm,((Ggk.out.below hy).other 0 _ hgk0.symm).other 1 _ hgk0.symm⟩
 simp only [puts]
 refine run_takeG (i:=25) (.slice (some ⟨gr,0,none⟩) m m) rfl (by kernel_rfl) (by kernel_rfl) (by kernel_rfl) (fun y h=>h.2.1) (quiet_yes _ (by rfl) (fun y hy=>by go_simp)) ?_
 simp only [puts]
 refine run_takeG (i:=26) (.slice (some ⟨gk,0,none⟩) n n) rfl (by kernel_rfl) (by kernel_rfl) (by kernel_rfl) (fun y h=>h.2.1) (quiet_yes _ (by rfl) (fun y hy=>by go_simp)) ?_
 simp only [puts]
 refine run_takeG (i:=27) (.bool true) rfl (by kernel_rfl) (by kernel_rfl) (by kernel_rfl) (fun y h=>h.2.1) (quiet_yes _ (by rfl) (fun y hy=>by go_simp)) ?_
 simp only [puts]
 refine ⟨by kernel_rfl,fun y hy => ?_⟩
 obtain ⟨h0, -,h4,h5,h6⟩:=hy
 have y0:=RowIs.cell h0 0
 have y1:=RowIs.cell h0 1
 have yz:=RowIs.lt h0
 simp at y0 y1
 go_wp2_with fail
 exact bodyPost_ret (v:= .tuple #[.agg #[.int .i64 v1, .int .i64 v2], .slice (some ⟨gr,0,none⟩) m m, .slice (some ⟨gk,0,none⟩) n n, .bool true]) (by simp [results,Try.results41,go_sem,y0,y1]) rfl ⟨⟨gr,xr,gk,xk,BR.out,BC.out,by rw [V1.out,V2.out],h5,h6⟩,h4⟩
end Go.Proofs.Ytkbbhihndigmeaa

namespace Go.Proofs.Ytkbbhihndigmeaa
open Go Go.RowKit Go.Shelf
theorem planE_ok {m:Nat} {r:Nat→Int} (hr : ∀ i,i<m→0≤r i∧r i≤100000000) (h0:0<sumI r m):planE m m r=0:=by
 unfold planE
 rw [if_pos rfl,if_pos ((allB_iff _ _).2 fun i hi=>by simp only [inB,decide_eq_true_eq]; exact hr i hi),if_neg (by omega)]
structure SureIs (f:Nat→Row3) (m n:Nat) (r:Nat→Int) (a b:Int):Prop where
 eq:sureR m f m r=(a,b,0)
 sure:Surely (lossA f) m n r a b
 d1:1≤b
 d2:b≤sumI r m
 n1 : -100*b≤a
 n2:a≤100*b
 r1:ratN a b=a
 r2:ratD a b=b
 most : ∀ v s,Surely (lossA f) m n r v s→v*b≤a*s
theorem sure_is {f:Nat→Row3} {m n:Nat} {r:Nat→Int} (hO:Okay m n f) (hr : ∀ i,i<m→0≤r i∧r i≤100000000) (h0:0<sumI r m) : ∃ a b,SureIs f m n r a b∧a=ratN (sureN f m n r) (sumI r m)∧b=ratD (sureN f m n r) (sumI r m):=by
 have hf0:(f 0).n=n:=hO.len 0 hO.m1
 obtain ⟨h1,h2,h3,h4,h5,h6⟩:=sure_small hO (fun i hi=>(hr i hi).1) h0
 have hx:=sure_self (f:=f) (n:=n) (x:=r) (fun i hi=>(hr i hi).1) h0
 refine ⟨_,_,⟨?_,?_,h1,h2,h3,h4,h5,h6,fun v s hs => ?_⟩,rfl,rfl⟩
 ·unfold sureR
  rw [hf0,okay_is hO,planE_ok hr h0,if_neg (by decide),if_neg (by decide)]
 ·exact hx.le h0 h1 (by have:=rat_eqn (sureN f m n r) h0; omega)
 ·have:=sure_most hO.n1 hs
  have he:=rat_eqn (sureN f m n r) h0
  refine Int.le_of_mul_le_mul_right (a:=sumI r m) ?_ h0
  have h7:=Int.mul_le_mul_of_nonneg_right this (show 0≤ratD (sureN f m n r) (sumI r m) by omega)
  obtain ⟨D,hD⟩ : ∃ D,ratD (sureN f m n r) (sumI r m)=D:=⟨_,rfl⟩
  obtain ⟨N,hN⟩ : ∃ N,ratN (sureN f m n r) (sumI r m)=N:=⟨_,rfl⟩
  obtain ⟨S,hS⟩ : ∃ S,sumI r m=S:=⟨_,rfl⟩
  obtain ⟨T,hT⟩ : ∃ T,sureN f m n r=T:=⟨_,rfl⟩
  rw [hD,hN,hS,hT] at he
  rw [hD,hS,hT] at h7
  rw [hD,hN,hS]
  have h8:s*T*D=N*s*S:=by have:=congrArg (s * ·) he; grind
  rw [h8] at h7
  rw [show v*D*S=v*S*D by grind]
  exact h7
structure BoundIs (f:Nat→Row3) (m n:Nat) (q:Nat→Int) (a b:Int):Prop where
 eq:boundR m f n q=(a,b,0)
 bound:Bounds (lossA f) m n q a b
 d1:1≤b
 d2:b≤sumI q n
 n1 : -100*b≤a
 n2:a≤100*b
 r1:ratN a b=a
 r2:ratD a b=b
theorem bound_is {f:Nat→Row3} {m n:Nat} {q:Nat→Int} (hO:Okay m n f) (hq : ∀ i,i<n→0≤q i∧q i≤100000000) (h0:0<sumI q n) : ∃ a b,BoundIs f m n q a b∧a = - ratN (boundN f m n q) (sumI q n)∧b=ratD (boundN f m n q) (sumI q n):=by
 have hf0:(f 0).n=n:=hO.len 0 hO.m1
 have hO':Okay n m (fun j=>turnF f m j):=okay_turn hO (fun _ _=>rfl) (fun _=>rfl)
 have hl:lossA (fun j=>turnF f m j)=flip (lossA f):=loss_turn (f':=fun j=>turnF f m j) (fun _=>rfl)
 have hb:sureN (fun j=>turnF f m j) n m q=boundN f m n q:=by
  show leastF (ag (lossA fun j=>turnF f m j) q n) m=_
  rw [hl]
 obtain ⟨a,b,h,ea,eb⟩:=sure_is hO' hq h0
 rw [hb] at ea eb
 obtain ⟨e3,e4⟩:=rat_neg a b
 refine ⟨-a,b,⟨?_,?_,h.d1,h.d2,by have:=h.n2; omega,by have:=h.n1; omega,by rw [e3,h.r1],by rw [e4,h.r2]⟩,by rw [ea],eb⟩
 ·unfold boundR
  rw [hf0,okay_is hO,planE_ok hq h0,if_neg (by decide),if_neg (by decide), ← ea, ← eb]
 ·have:=h.sure
  rw [hl] at this
  exact surely_flip.1 (by rw [Int.neg_neg]; exact this)
theorem proof_is {f:Nat→Row3} {m n:Nat} {r q:Nat→Int} {a b c d:Int} (hO:Okay m n f) (hr : ∀ i,i<m→0≤r i∧r i≤100000000) (h0:0<sumI r m) (hq : ∀ i,i<n→0≤q i∧q i≤100000000) (h1:0<sumI q n)
 (ha:SureIs f m n r a b) (hc:BoundIs f m n q c d):proofR m f m r n q=if a=c∧b=d then (a,b,0) else (0,0,14):=by
 have hf0:(f 0).n=n:=hO.len 0 hO.m1
 have e1:=ha.eq
 have e2:=hc.eq
 unfold sureR at e1
 unfold boundR at e2
 rw [hf0,okay_is hO,planE_ok hr h0,if_neg (by decide),if_neg (by decide)] at e1
 rw [hf0,okay_is hO,planE_ok hq h1,if_neg (by decide),if_neg (by decide)] at e2
 simp only [Prod.mk.injEq,and_true] at e1 e2
 unfold proofR
 rw [hf0,okay_is hO,planE_ok hr h0,planE_ok hq h1,if_neg (by decide),if_neg (by decide),if_neg (by decide),e1.1,e1.2,e2.1,e2.2]
theorem sure_no_more {f:Nat→Row3} {m n:Nat} {r:Nat→Int} {a b:Int} (hO:Okay m n f) (ha:SureIs f m n r a b):a*(valOf (lossA f) m n).2≤(valOf (lossA f) m n).1*b:=by
 obtain ⟨hs, -,q,hq⟩:=valOf_is hO
 exact weak2 ha.d1 hs ha.sure hq
theorem bound_no_less {f:Nat→Row3} {m n:Nat} {q:Nat→Int} {a b:Int} (hO:Okay m n f) (ha:BoundIs f m n q a b):(valOf (lossA f) m n).1*b≤a*(valOf (lossA f) m n).2:=by
 obtain ⟨hs,⟨x,hx⟩, -⟩:=valOf_is hO
 exact weak2 hs ha.d1 hx ha.bound
theorem both_val {f:Nat→Row3} {m n:Nat} {r q:Nat→Int} {a b:Int} (ha:SureIs f m n r a b) (hb:BoundIs f m n q a b):valOf (lossA f) m n=(a,b):=by
 rw [val_of ⟨ha.d1,⟨r,ha.sure⟩,q,hb.bound⟩,ha.r1,ha.r2]
end Go.Proofs.Ytkbbhihndigmeaa

namespace Go.Proofs.Ytkbbhihndigmeaa
open Go Go.RowKit Go.Shelf
theorem mul_bds {x y A B:Int} (hx : -A≤x) (hx':x≤A) (hy:0≤y) (hy':y≤B) : -(A*B)≤x*y∧x*y≤A*B:=by
 by_cases h:0≤x
 ·have:=mul_bd h hx' hy hy'
  omega
 ·have:=mul_bd (x:= -x) (y:=y) (A:=A) (B:=B) (by omega) (by omega) hy hy'
  rw [Int.neg_mul] at this
  omega
theorem less_fit (a b c d:Int) (w:World) (b1:1≤b) (b2:b≤96000000) (a1 : -100*b≤a) (a2:a≤100*b) (d1:1≤d) (d2:d≤96000000) (c1 : -100*d≤c) (c2:c≤100*d) :
 Calls Try.prog 44 #[.agg #[.int .i64 a, .int .i64 b], .agg #[.int .i64 c, .int .i64 d]] w fun e w'=>e = .returned (.bool (ltB a b c d))∧Below w.heap.size w w':=by
 have h1:=mul_bds (x:=a) (y:=d) (A:=9600000000) (B:=96000000) (by omega) (by omega) (by omega) d2
 have h2:=mul_bds (x:=c) (y:=b) (A:=9600000000) (B:=96000000) (by omega) (by omega) (by omega) b2
 exact rLess_c a b c d w (by omega) (by omega) (by omega) (by omega)
end Go.Proofs.Ytkbbhihndigmeaa

namespace Go.Proofs.Ytkbbhihndigmeaa
open Go Go.RowKit Go.Shelf
theorem drop_lst (i m:Nat) (a:Nat) (ha:a<m-1) (hi:i<m):((List.range m).eraseIdx i).getD a 0=skip i a:=by
 rw [List.getD_eq_getElem?_getD,getElem_skip]
 have:=skip_lt (c:=i) ha
 rw [List.getElem?_range (by omega)]
 rfl
theorem val_drop {B:Nat→Nat→Int} {m n:Nat} {v s:Int} {i o:Nat} (h:ValIs B m n v s) (hi:i<m) (ho:o<m) (hne:o ≠ i) (hb : ∀ j,j<n→B i j≤B o j):ValIs (fun a b=>B (skip i a) b) (m-1) n v s:=by
 obtain ⟨hs,⟨x,hx⟩,q,hq⟩:=h
 obtain ⟨y,hy,hy0⟩:=hx.drop hs hi ho hne hb
 have hl:((List.range m).eraseIdx i).length=m-1:=by rw [List.length_eraseIdx,if_pos (by simpa using hi),List.length_range]
 have hn:((List.range m).eraseIdx i).Nodup:=List.nodup_range.sublist (List.eraseIdx_sublist _ _)
 have:=rows_same hs hy hq hn (fun k hk=>List.mem_range.1 ((List.eraseIdx_sublist _ _).mem hk)) (fun k hk hno=>by
  refine Classical.byContradiction fun h0=>hno ?_
  have hki:k ≠ i:=fun e=>h0 (by rw [e]; exact hy0)
  rw [List.mem_eraseIdx_iff_getElem?]
  exact ⟨k,hki,by rw [List.getElem?_range hk]⟩)
 rw [hl] at this
 exact this.at fun a ha b _=>by rw [drop_lst i m a ha hi]
theorem erase_getD (R:List Nat) (i a:Nat):(R.eraseIdx i).getD a 0=R.getD (skip i a) 0:=by rw [List.getD_eq_getElem?_getD,List.getD_eq_getElem?_getD,getElem_skip]
def PureIn (A:Nat→Nat→Int) (R C:List Nat) (p q:Nat):Prop:=p ∈ R∧q ∈ C∧(∀ c ∈ C,A p q≤A p c) ∧ ∀ r ∈ R,A r q≤A p q
theorem sub_flip (A:Nat→Nat→Int) (R C:List Nat):flip (sub2 A R C)=sub2 (flip A) C R:=rfl
theorem need_row {f:Nat→Row3} {R C:List Nat} {i:Nat} (h:needO f C R=some i):i<R.length∧2≤R.length ∧ ∃ s,s<R.length∧s ≠ i ∧ ∀ j ∈ C,lossA f (R.getD i 0) j≤lossA f (R.getD s 0) j:=by
 obtain ⟨h1,h2,o,ho,hb⟩:=need_two h
 obtain ⟨s,hs,rfl⟩:=mem_getD ho
 unfold betterB at hb
 rw [Bool.and_eq_true,List.all_eq_true] at hb
 refine ⟨h1,h2,s,hs,fun e => ?_,fun j hj => ?_⟩
 ·subst e
  have:=hb.2
  unfold gapI at this
  simp at this
 ·have:=hb.1 j hj
  simp only [decide_eq_true_eq] at this
  unfold gapI at this
  show (f _).g j≤(f _).g j
  omega
theorem row_left {f:Nat→Row3} {R C:List Nat} {i:Nat} {v s:Int} (h:needO f C R=some i) (hv:ValIs (sub2 (lossA f) R C) R.length C.length v s) :
 ValIs (sub2 (lossA f) (R.eraseIdx i) C) (R.eraseIdx i).length C.length v s ∧ ∀ p q,PureIn (lossA f) (R.eraseIdx i) C p q→PureIn (lossA f) R C p q:=by
 obtain ⟨h1,h2,o,ho,hne,hb⟩:=need_row h
 have hl:(R.eraseIdx i).length=R.length-1:=by rw [List.length_eraseIdx,if_pos h1]
 refine ⟨?_,fun p q hp => ?_⟩
 ·rw [hl]
  exact (val_drop hv h1 ho hne fun j hj=>hb _ (getD_mem hj)).at fun a _ b _=>by unfold sub2; rw [erase_getD]
 ·obtain ⟨k1,k2,k3,k4⟩:=hp
  have hsub:=(List.eraseIdx_sublist R i)
  refine ⟨hsub.mem k1,k2,k3,fun r hr => ?_⟩
  by_cases hri:r ∈ R.eraseIdx i
  ·exact k4 r hri
  ·have e:r=R.getD i 0:=by
     refine Classical.byContradiction fun hno=>hri ?_
     rw [List.mem_eraseIdx_iff_getElem?]
     obtain ⟨t,ht,rfl⟩:=mem_getD hr
     exact ⟨t,fun e=>hno (by rw [e]),by rw [List.getD_eq_getElem?_getD,List.getElem?_eq_getElem ht]; rfl⟩
   subst e
   refine Int.le_trans (hb q k2) (k4 _ ?_)
   rw [List.mem_eraseIdx_iff_getElem?]
   exact ⟨o,hne,by rw [List.getD_eq_getElem?_getD,List.getElem?_eq_getElem ho]; rfl⟩
theorem pure_flip {A:Nat→Nat→Int} {R C:List Nat} {p q:Nat} (h:PureIn (flip A) C R q p):PureIn A R C p q:=by
 obtain ⟨h1,h2,h3,h4⟩:=h
 refine ⟨h2,h1,fun c hc => ?_,fun r hr => ?_⟩
 ·have : -A p c ≤ -A p q:=h4 c hc
  omega
 ·have : -A p q ≤ -A r q:=h3 r hr
  omega
theorem flip_pure {A:Nat→Nat→Int} {R C:List Nat} {p q:Nat} (h:PureIn A R C p q):PureIn (flip A) C R q p:=pure_flip (A:=flip A) (by rw [flip_flip]; exact h)
theorem col_left {f f':Nat→Row3} {R C:List Nat} {i:Nat} {v s:Int} (hf:lossA f'=flip (lossA f)) (h:needO f' R C=some i) (hv:ValIs (sub2 (lossA f) R C) R.length C.length v s) :
 ValIs (sub2 (lossA f) R (C.eraseIdx i)) R.length (C.eraseIdx i).length v s ∧ ∀ p q,PureIn (lossA f) R (C.eraseIdx i) p q→PureIn (lossA f) R C p q:=by
 have h2:=hv.flip
 rw [sub_flip, ← hf] at h2
 obtain ⟨h3,h4⟩:=row_left h h2
 rw [hf] at h3 h4
 rw [← sub_flip] at h3
 have h5:=h3.unflip
 rw [Int.neg_neg] at h5
 exact ⟨h5,fun p q hp=>pure_flip (h4 q p (flip_pure hp))⟩
structure LeftIs (f f':Nat→Row3) (R C R' C':List Nat) (v s:Int):Prop where
 sub1:R'.Sublist R
 sub2:C'.Sublist C
 pos1:0<R'.length
 pos2:0<C'.length
 no1:needO f C' R'=none
 no2:needO f' R' C'=none
 val:ValIs (Go.Proofs.Ytkbbhihndigmeaa.sub2 (lossA f) R' C') R'.length C'.length v s
 pure : ∀ p q,PureIn (lossA f) R' C' p q→PureIn (lossA f) R C p q
theorem left_is {f f':Nat→Row3} (hf:lossA f'=flip (lossA f)) {v s:Int} : ∀ k R C,R.length+C.length≤k→0<R.length→0<C.length→ValIs (sub2 (lossA f) R C) R.length C.length v s→LeftIs f f' R C (leftF f f' k R C).1 (leftF f f' k R C).2 v s
 | 0,_,_,h,h0,_,_=>by omega
 | k+1,R,C,h,h0,h1,hv=>by
   rw [leftF]
   cases e1:needO f C R with
   | some i=>
     dsimp only
     obtain ⟨k1,k2, -⟩:=need_row e1
     obtain ⟨l1,l2⟩:=row_left e1 hv
     have hl:(R.eraseIdx i).length=R.length-1:=by rw [List.length_eraseIdx,if_pos k1]
     have:=left_is hf k (R.eraseIdx i) C (by omega) (by omega) h1 l1
     exact ⟨this.sub1.trans (List.eraseIdx_sublist _ _),this.sub2,this.pos1,this.pos2,this.no1,this.no2,this.val,fun p q hp=>l2 p q (this.pure p q hp)⟩
   | none=>
     dsimp only
     cases e2:needO f' R C with
     | some i=>
       dsimp only
       obtain ⟨k1,k2, -⟩:=need_row e2
       obtain ⟨l1,l2⟩:=col_left hf e2 hv
       have hl:(C.eraseIdx i).length=C.length-1:=by rw [List.length_eraseIdx,if_pos k1]
       have:=left_is hf k R (C.eraseIdx i) (by omega) h0 (by omega) l1
       exact ⟨this.sub1,this.sub2.trans (List.eraseIdx_sublist _ _),this.pos1,this.pos2,this.no1,this.no2,this.val,fun p q hp=>l2 p q (this.pure p q hp)⟩
     | none=>exact ⟨List.Sublist.refl _,List.Sublist.refl _,h0,h1,e1,e2,hv,fun _ _ h=>h⟩
theorem range_getD {n i:Nat} (h:i<n):(List.range n).getD i 0=i:=by rw [List.getD_eq_getElem?_getD,List.getElem?_range h]; rfl
theorem turn_loss (f:Nat→Row3) (m:Nat):lossA (fun j=>turnF f m j)=flip (lossA f):=loss_turn fun _=>rfl
theorem leftR_is {f:Nat→Row3} {m n:Nat} (hO:Okay m n f):LeftIs f (fun j=>turnF f m j) (List.range m) (List.range n) (leftR f m n).1 (leftR f m n).2 (valOf (lossA f) m n).1 (valOf (lossA f) m n).2:=by
 have hm:=hO.m1
 have hn:=hO.n1
 refine left_is (turn_loss f m) _ _ _ (by simp) (by rw [List.length_range]; omega) (by rw [List.length_range]; omega) ?_
 rw [List.length_range,List.length_range]
 exact (valOf_is hO).at fun i hi j hj=>by unfold sub2; rw [range_getD hi,range_getD hj]
theorem sub_rising {n:Nat} {x:List Nat} (h:x.Sublist (List.range n)):Rising n x:=⟨List.Pairwise.sublist h List.pairwise_lt_range,fun _ hi=>List.mem_range.1 (h.mem hi)⟩
theorem left_done {f g:Nat→Row3} {m n:Nat} (hO:Okay m n f) (hg : ∀ i j,(g i).g j=lossA f ((leftR f m n).1.getD i 0) ((leftR f m n).2.getD j 0)) :
 spareO (lossA g) (leftR f m n).1.length (leftR f m n).2.length=none∧spareO (flip (lossA g)) (leftR f m n).2.length (leftR f m n).1.length=none ∧
 leftR g (leftR f m n).1.length (leftR f m n).2.length=(List.range (leftR f m n).1.length,List.range (leftR f m n).2.length):=by
 have h:=leftR_is hO
 obtain ⟨R,hR⟩ : ∃ R,(leftR f m n).1=R:=⟨_,rfl⟩
 obtain ⟨C,hC⟩ : ∃ C,(leftR f m n).2=C:=⟨_,rfl⟩
 rw [hR,hC] at h ⊢
 replace hg : ∀ i j,(g i).g j=lossA f (R.getD i 0) (C.getD j 0):=fun i j=>by rw [hg,hR,hC]
 have a1:spareO (lossA g) R.length C.length=needO f C R:=spare_need (sub_rising h.sub1).1 fun i _ j _=>hg i j
 have a2:spareO (flip (lossA g)) C.length R.length=needO (fun j=>turnF f m j) R C:=spare_need (sub_rising h.sub2).1 fun i _ j _=>by
  show -(g j).g i = -(f _).g _
  rw [hg]
 rw [h.no1] at a1
 rw [h.no2] at a2
 have b1:needO g (List.range C.length) (List.range R.length)=none:=by
  have:=spare_need (f:=g) (A:=lossA g) (R:=List.range R.length) (C:=List.range C.length) List.pairwise_lt_range fun i hi j hj=>by
   rw [List.length_range] at hi hj
   rw [range_getD hi,range_getD hj]
  rw [List.length_range,List.length_range] at this
  rw [← this,a1]
 have b2:needO (fun j=>turnF g R.length j) (List.range R.length) (List.range C.length)=none:=by
  have:=spare_need (f:=fun j=>turnF g R.length j) (A:=flip (lossA g)) (R:=List.range C.length) (C:=List.range R.length) List.pairwise_lt_range fun i hi j hj=>by
   rw [List.length_range] at hi hj
   rw [range_getD hi,range_getD hj]
   rfl
  rw [List.length_range,List.length_range] at this
  rw [← this,a2]
 exact ⟨a1,a2,left_end b1 b2 _⟩
theorem left_pure {f g:Nat→Row3} {m n i k:Nat} (hO:Okay m n f) (hg : ∀ i j,(g i).g j=lossA f ((leftR f m n).1.getD i 0) ((leftR f m n).2.getD j 0)) (hi:i<(leftR f m n).1.length) (hk:k<(leftR f m n).2.length)
 (h:isPureB g (leftR f m n).1.length (leftR f m n).2.length i k=true):isPureB f m n ((leftR f m n).1.getD i 0) ((leftR f m n).2.getD k 0)=true:=by
 have hL:=leftR_is hO
 obtain ⟨R,hR⟩ : ∃ R,(leftR f m n).1=R:=⟨_,rfl⟩
 obtain ⟨C,hC⟩ : ∃ C,(leftR f m n).2=C:=⟨_,rfl⟩
 rw [hR] at hi
 rw [hC] at hk
 rw [hR,hC] at hL h ⊢
 have hg' : ∀ i j,(g i).g j=lossA f (R.getD i 0) (C.getD j 0):=fun i j=>by rw [hg,hR,hC]
 clear hg
 unfold isPureB at h
 rw [Bool.and_eq_true,decide_eq_true_eq,decide_eq_true_eq] at h
 obtain ⟨-, -,h3,h4⟩:=hL.pure (R.getD i 0) (C.getD k 0) ⟨getD_mem hi,getD_mem hk,fun c hc=>by
  obtain ⟨t,ht,rfl⟩:=mem_getD hc
  have:=h.2 t ht
  rwa [hg',hg'] at this,fun r hr=>by
  obtain ⟨t,ht,rfl⟩:=mem_getD hr
  have:=h.1 t ht
  rwa [hg',hg'] at this⟩
 unfold isPureB
 rw [Bool.and_eq_true,decide_eq_true_eq,decide_eq_true_eq]
 exact ⟨fun r hr=>h4 r (List.mem_range.2 hr),fun c hc=>h3 c (List.mem_range.2 hc)⟩
end Go.Proofs.Ytkbbhihndigmeaa

namespace Go.Proofs.Ytkbbhihndigmeaa
open Go Go.RowKit Go.Shelf
theorem rising_get {n:Nat} {x:List Nat} (h:Rising n x) {i:Nat} (hi:i<x.length):x.getD i 0<n:=by
 rw [List.getD_eq_getElem?_getD,List.getElem?_eq_getElem hi]
 exact h.2 _ (List.getElem_mem hi)
theorem rising_lt {n:Nat} {x:List Nat} (h:Rising n x) {i j:Nat} (hi:i<j) (hj:j<x.length):x.getD i 0<x.getD j 0:=by
 rw [List.getD_eq_getElem?_getD,List.getD_eq_getElem?_getD,List.getElem?_eq_getElem hj,List.getElem?_eq_getElem (show i<x.length by omega)]
 exact List.pairwise_iff_getElem.1 h.1 i j (by omega) hj hi
theorem rising_filter (n:Nat) (p:Nat→Bool):Rising n ((List.range n).filter p):=
 ⟨List.Pairwise.sublist List.filter_sublist List.pairwise_lt_range,fun _ hi=>List.mem_range.1 (List.mem_filter.1 hi).1⟩
set_option maxRecDepth 100000 in
set_option maxHeartbeats 8000000 in
theorem isList_c (x:List Nat) (p:Option Addr) (cap b:Nat) (w:World) (hL:Lst w x p cap) (hx:Rising b x) (hb:b≤1048576) :
 Calls Try.prog 47 #[.slice p x.length cap, .int .i64 b] w fun e w'=>e = .returned (.bool true)∧Below w.heap.size w w':=by
 have hlen:=rising_len hx
 by_cases h0:x.length=0
 ·rw [h0]
  clear hL hx hlen
  go_enter Try.func47,Try.ntmps47
  go_wp2_with fail
  go_loopw [5] (fun i wr=>i = .int .i64 0∧Below w.heap.size w wr) (fun _ _=>0)
  case atStart=>exact ⟨rfl,Below.refl _ _⟩
  case round=>
   obtain ⟨rfl,hbl⟩:=hrel
   go_wp2_with fail
   go_ret
   exact ⟨rfl,hbl⟩
 obtain ⟨xb,xo,rfl,hc⟩:=lstC hL (by omega)
 have hz : ∀ y,Below w.heap.size w y→xb<y.heap.size:=fun y hy=>by
  obtain ⟨b2,o2,e2,hz2, -⟩:=Cells.at (Lst.below hL hy).cells 0 (by omega)
  injection e2 with he
  injection he with h1 h2 _
  omega
 have HZ:=Lib.hid hz
 have HC:=Lib.hid hc
 have HR:=Lib.hid hx
 obtain ⟨n,hn⟩ : ∃ n,x.length=n:=⟨_,rfl⟩
 have HN:=Lib.hid hn
 rw [hn] at hlen ⊢
 obtain ⟨d,hd⟩ : ∃ d:Int,(b:Int)=d:=⟨_,rfl⟩
 rw [hd]
 have HBI:=Lib.hid hd
 clear hL hx hc hz hn h0 hd
 go_enter Try.func47,Try.ntmps47
 go_wp2_with fail
 go_loopw [5] (fun i wr=> ∃ k:Nat,k≤n∧i = .int .i64 k∧Below w.heap.size w wr) (fun i _=>n-(intOf i).toNat)
 case atStart=>exact ⟨0,Nat.zero_le _,rfl,Below.refl _ _⟩
 case round=>
  obtain ⟨k,hk,rfl,hbl⟩:=hrel
  have hs:=HZ.out wr hbl
  by_cases hlt:k<n
  ·have hk':k<x.length:=by rw [HN.out]; exact hlt
   have c0:=HC.out wr hbl k hk'
   have g0:=rising_get HR.out hk'
   obtain ⟨u,hu⟩ : ∃ u:Int,((x.getD k 0:Nat):Int)=u:=⟨_,rfl⟩
   rw [hu] at c0
   have t2:decide (d≤u)=false:=decide_eq_false (by have:=HBI.out; omega)
   have t3:decide (u<0)=false:=decide_eq_false (by omega)
   have HU:=Lib.hid hu
   have HB:=Lib.hid hbl
   clear hu hbl g0
   by_cases hk0:k=0
   ·subst hk0
    rw [Nat.add_zero] at c0
    have t9:decide ((0:Int)<0)=false:=rfl
    have hlc:=fun (x:Later wr)=>later_cell x
    go_wp2_with fail
    refine wp_region_later (by kernel_rfl) (by kernel_rfl) ?_
    repeat (go_big_quiet_step (fail))
    refine wpQuiet_nil ?_
    clear hlc
    rintro ⟨w1,hb1⟩
    go_wp2_with fail
    go_roundw
    case rel=>exact ⟨1,by omega,by go_num,bup HB.out hb1⟩
    case measure=>simp [intOf]; omega
   ·have hk1:k-1<x.length:=by omega
    have c1:=HC.out wr HB.out (k-1) hk1
    have l1:=rising_lt HR.out (show k-1<k by omega) hk'
    obtain ⟨v,hv⟩ : ∃ v:Int,((x.getD (k-1) 0:Nat):Int)=v:=⟨_,rfl⟩
    rw [hv] at c1
    have t4:v<u:=by have:=HU.out; omega
    have t5:decide (u≤v)=false:=decide_eq_false (by omega)
    obtain ⟨q,rfl⟩ : ∃ q,k=q+1:=⟨k-1,by omega⟩
    rw [Nat.add_sub_cancel] at c1
    have t6:IntKind.i64.wrap ((q:Int)+1-1)=(q:Int):=by rw [Int.add_sub_cancel]; exact IntWalk.i64_in _ (by omega)
    have t7:decide ((0:Int)<(q:Int)+1)=true:=decide_eq_true (by omega)
    have t8:decide ((q:Int)+1<(n:Int))=true:=decide_eq_true (by omega)
    clear hv hk1 hk0 l1
    have hlc:=fun (x:Later wr)=>later_cell x
    go_wp2_with fail
    refine wp_region_later (by kernel_rfl) (by kernel_rfl) ?_
    repeat (go_big_quiet_step (fail))
    refine wpQuiet_nil ?_
    clear hlc
    rintro ⟨w1,hb1⟩
    go_wp2_with fail
    go_roundw
    case rel=>exact ⟨q+2,by omega,by go_num,bup HB.out hb1⟩
    case measure=>simp [intOf]; omega
  ·obtain rfl:k=n:=by omega
   go_wp2_with fail
   go_ret
   exact ⟨rfl,hbl⟩
set_option maxRecDepth 100000 in
set_option maxHeartbeats 8000000 in
theorem has_c (x:List Nat) (p:Option Addr) (cap d:Nat) (w:World) (hL:Lst w x p cap) (hx:d ∈ x) (hl:x.length≤1048576) :
 Calls Try.prog 48 #[.slice p x.length cap, .int .i64 d] w fun e w'=>e = .returned (.bool true)∧w=w':=by
 obtain ⟨i,hi,he⟩:=List.getElem_of_mem hx
 obtain ⟨xb,xo,rfl,hz,hc⟩:=Cells.at hL.cells 0 (by omega)
 obtain ⟨n,hn⟩ : ∃ n,x.length=n:=⟨_,rfl⟩
 rw [hn] at hc hl hi ⊢
 have hd:x.getD i 0=d:=by rw [List.getD_eq_getElem?_getD,List.getElem?_eq_getElem (by omega)]; exact he
 have HC:=Lib.hid hc
 have HD:=Lib.hid hd
 clear hL hx hc he hn hd
 go_enter Try.func48,Try.ntmps48
 go_wp2_with fail
 go_loop [5] (fun j=> ∃ k:Nat,k≤i∧j = .int .i64 k) (fun j=>i+1-(intOf j).toNat)
 case atStart=>exact ⟨0,Nat.zero_le _,rfl⟩
 case round=>
  obtain ⟨k,hk,rfl⟩:=hrel
  have c0:=HC.out k (by omega)
  have hlt:k<n:=by omega
  obtain ⟨u,hu⟩ : ∃ u,x.getD k 0=u:=⟨_,rfl⟩
  rw [hu] at c0
  have HU:=Lib.hid hu
  clear hu
  by_cases hud:(u:Int)=(d:Int)
  ·have hub:((u:Int)==(d:Int))=true:=by simpa using hud
   go_wp2_with fail
   go_ret
   exact ⟨rfl,rfl⟩
  ·have hub:((u:Int)==(d:Int))=false:=by simpa using hud
   have hki:k ≠ i:=fun e=>by subst e; rw [HD.out] at HU; exact hud (by rw [HU.out])
   go_wp2_with fail
   exact ⟨⟨k+1,by omega,by go_num⟩,by simp [intOf]; omega⟩
end Go.Proofs.Ytkbbhihndigmeaa

namespace Go.Proofs.Ytkbbhihndigmeaa
open Go Go.RowKit Go.Shelf
theorem used_mem {A:Nat→Nat→Int} {m n i:Nat} (h:i ∈ usedC A m n):i<m ∧ ∃ x,Surely A m n x (valOf A m n).1 (valOf A m n).2∧0<x i:=by
 unfold usedC at h
 simp only [List.mem_filter,decide_eq_true_eq,List.mem_range] at h
 obtain ⟨h1,R,G,s, -,h2,h3⟩:=h
 exact ⟨h1,_,h3,h2⟩
theorem used_rising (A:Nat→Nat→Int) (m n:Nat):Rising m (usedC A m n):=rising_filter _ _
theorem best_some {A:Nat→Nat→Int} {m n:Nat} {x:Nat→Int} (h:BestR A m n x):0<(usedC A m n).length:=by
 refine Classical.byContradiction fun hn => ?_
 have h0:usedC A m n=[]:=List.length_eq_zero_iff.1 (by omega)
 have hz:sumI x m=0:=by
  have : ∀ k,k≤m→sumI x k=0:=fun k=>by
   induction k with
   | zero=>exact fun _=>rfl
   | succ k ih=>
     intro hk
     rw [sumI,ih (by omega)]
     have h1:=(h.few k (by omega)).1
     by_cases h2:0<x k
     ·have:=h.used k (by omega) h2
      rw [h0] at this
      cases this
     ·omega
  exact this m (Nat.le_refl _)
 have:=h.sure.2.1
 rw [tot_sum,hz] at this
 exact Int.lt_irrefl _ this
theorem used_ans {f:Nat→Row3} {m n:Nat} {q:Nat→Int} (hO:Okay m n f) (hq:BestR (flip (lossA f)) n m q) {i:Nat} (h:i ∈ usedC (lossA f) m n):i ∈ ansL f m n q:=by
 obtain ⟨hi,x,hx,hp⟩:=used_mem h
 have hb:=best_bounds hO hq
 have hs:=(valOf_is hO).1
 have h1:=slack hs hx hb hi hp
 unfold ansL leastL
 rw [List.mem_filter,decide_eq_true_eq]
 refine ⟨List.mem_range.2 hi,?_⟩
 rw [least_iff hi]
 intro k hk
 have h2:=hb.2.2 k hk
 rw [ag_flip,ag_flip]
 have h3:(valOf (lossA f) m n).2*dotN q (fun j=>lossA f k j) n≤(valOf (lossA f) m n).2*dotN q (fun j=>lossA f i j) n:=by omega
 have:=Int.le_of_mul_le_mul_left h3 hs
 omega
theorem used_rows {f:Nat→Row3} {m n:Nat} {x q:Nat→Int} (hO:Okay m n f) (hx:BestR (lossA f) m n x) (hq:BestR (flip (lossA f)) n m q) :
 ValIs (sub2 (lossA f) (usedC (lossA f) m n) (List.range n)) (usedC (lossA f) m n).length (List.range n).length (valOf (lossA f) m n).1 (valOf (lossA f) m n).2:=by
 have hr:=used_rising (lossA f) m n
 rw [List.length_range]
 exact (rows_same (valOf_is hO).1 hx.sure (best_bounds hO hq) (List.Pairwise.imp (fun h=>Nat.ne_of_lt h) hr.1) hr.2 fun i hi hno=>by
  have h1:=(hx.few i hi).1
  refine Classical.byContradiction fun h2=>hno (hx.used i hi (by omega))).at fun i _ j hj=>by unfold sub2; rw [range_getD hj]
theorem used_cols {f:Nat→Row3} {m n:Nat} {x q:Nat→Int} (hO:Okay m n f) (hx:BestR (lossA f) m n x) (hq:BestR (flip (lossA f)) n m q) :
 ValIs (sub2 (lossA f) (List.range m) (usedC (flip (lossA f)) n m)) (List.range m).length (usedC (flip (lossA f)) n m).length (valOf (lossA f) m n).1 (valOf (lossA f) m n).2:=by
 have hr:=used_rising (flip (lossA f)) n m
 rw [List.length_range]
 exact (cols_same (valOf_is hO).1 hx.sure (best_bounds hO hq) (List.Pairwise.imp (fun h=>Nat.ne_of_lt h) hr.1) hr.2 fun i hi hno=>by
  have h1:=(hq.few i hi).1
  refine Classical.byContradiction fun h2=>hno (hq.used i hi (by omega))).at fun i hi j _=>by unfold sub2; rw [range_getD hi]
theorem pow_wrap : ∀ n,n≤4→IntKind.i64.wrap ((2:Int) ^ n)=2 ^ n∧IntKind.i64.wrap ((2:Int) ^ n-1)=((2 ^ n-1:Nat):Int)
 | 0,_=>by decide +kernel
 | 1,_=>by decide +kernel
 | 2,_=>by decide +kernel
 | 3,_=>by decide +kernel
 | 4,_=>by decide +kernel
 | _+5,h=>by omega
theorem part_okay {f g:Nat→Row3} {m n:Nat} {R C:List Nat} (hO:Okay m n f) (hR:Rising m R) (hC:Rising n C) (h1:0<R.length) (h2:0<C.length) (hl : ∀ j,(g j).n=C.length) (hg : ∀ i,(g i).g=fun j=>lossA f (R.getD i 0) (C.getD j 0)):Okay R.length C.length g:=by
 have h3:=rising_len hR
 have h4:=rising_len hC
 have h5:=hO.m4
 have h6:=hO.n4
 exact ⟨h1,by omega,h2,by omega,fun i _=>hl i,fun i hi j hj=>by rw [hg]; exact hO.num _ (hR.2 _ (getD_mem hi)) _ (hC.2 _ (getD_mem hj))⟩
theorem part_val {f g:Nat→Row3} {R C:List Nat} {v s:Int} (hg : ∀ i,(g i).g=fun j=>lossA f (R.getD i 0) (C.getD j 0)) (h:ValIs (sub2 (lossA f) R C) R.length C.length v s) (h1:ratN v s=v) (h2:ratD v s=s):valOf (lossA g) R.length C.length=(v,s):=by
 rw [val_of (h.at (B:=lossA g) fun i _ j _=>by show _=(g i).g j; rw [hg]; rfl),h1,h2]
end Go.Proofs.Ytkbbhihndigmeaa
