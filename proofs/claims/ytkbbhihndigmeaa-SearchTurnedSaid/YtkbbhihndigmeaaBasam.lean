/- Contracts of layer 3: the best plans. -/
import Derived.RangeFuncBound
import Derived.Shelf.Abstract
import Derived.Shelf.RegionOpen
import Derived.OwnWalkIn
import Derived.TacticsInMore
import Derived.LoopNIn
import Derived.LoopIn
import Derived.Scope
import Derived.Maps.OwnIn
import Derived.Test.YtkbbhihndigmeaaProg
import Derived.Test.YtkbbhihndigmeaaBasaa
import Derived.Test.YtkbbhihndigmeaaBasac
import Derived.Test.YtkbbhihndigmeaaBasaj
import Derived.Test.YtkbbhihndigmeaaBasal
namespace Go.Proofs.Ytkbbhihndigmeaa
open Go Go.RowKit Go.Shelf Go.Maps
attribute [local go_sem] Oper.semAt_some
theorem exists_found {f:Nat→Row3} {m n:Nat} (hO:Okay m n f) : ∃ p,Fnd f m n p:=by
 have h1 : ∀ k,1≤k→k≤4→[0] ∈ listsL allT k:=fun k h1 h4=>by
  have:k=1∨k=2∨k=3∨k=4:=by omega
  rcases this with rfl | rfl | rfl | rfl <;> decide
 have hp:partI f [0] [0] 0=1:=by
  unfold partI
  simp [rowsL,detP,altSum]
 have hr : ∀ i,rawP f [0] [0] i=if i=0 then 1 else 0:=fun i=>by
  unfold rawP
  simp [putR,hp]
 refine ⟨_,([0],[0]),cho_mem.2 ⟨h1 m hO.m1 hO.m4,h1 n hO.n1 hO.n4,rfl⟩,?_,rfl⟩
 have e:rawP f [0] [0]=fun i=>if i=0 then 1 else 0:=funext hr
 unfold foundB planQ
 rw [e]
 decide
def Found (a:Option Addr) (m n cap:Nat) (f:Nat→Row3) (w:World) (k:Nat) (A:World):Prop:=
 Below w.heap.size w A∧RowIs A w.heap.size #[.slice a m cap] 73∧RowIs A (w.heap.size+2) #[.map (some (w.heap.size+1))] 109 ∧
  ∃ N,N≤k∧Plans A (w.heap.size+1) N (fun p=> ∃ c ∈ (choL m n).take k,foundB f c.1 c.2=true∧k9 c=p) (valP f m n)
theorem found_below {a:Option Addr} {m n cap:Nat} {f:Nat→Row3} {w:World} {k:Nat} {A B:World} {r:Nat} (hr:w.heap.size+3≤r) (h:Found a m n cap f w k A) (hb:Below r A B):Found a m n cap f w k B:=by
 obtain ⟨h1,h2,h3,N,h4,h5⟩:=h
 exact ⟨h1.trans (hb.mono (by omega)),(hb.block _ (by omega)).trans h2,(hb.block _ (by omega)).trans h3,N,h4,h5.block (hb.block _ (by omega))⟩
theorem growL_few {F:List Nat→Nat→Bool} {n:Nat} (hn:n≤4) : ∀ (r:Nat) (b:List Nat),(growL F n r b).length≤5 ^ (r+1)
 | 0,b=>by simp [growL]
 | r+1,b=>by
   rw [growL,List.length_cons,List.length_flatMap]
   have hb : ∀ i ∈ List.range n,((if F b i then growL F n r (b ++ [i]) else []):List (List Nat)).length≤5 ^ (r+1):=fun i _=>by
    split
    ·exact growL_few hn r _
    ·simp
   have hs : ∀ l:List Nat,(∀ i ∈ l,((if F b i then growL F n r (b ++ [i]) else []):List (List Nat)).length≤5 ^ (r+1))→(l.map fun i=>((if F b i then growL F n r (b ++ [i]) else []):List (List Nat)).length).sum≤l.length*5 ^ (r+1):=fun l hl=>by
    induction l with
    | nil=>simp
    | cons x l ih=>
      have h1:=hl x List.mem_cons_self
      have h2:=ih fun i hi=>hl i (List.mem_cons_of_mem _ hi)
      rw [List.map_cons,List.sum_cons,List.length_cons,Nat.add_mul]
      omega
   have h1:=hs (List.range n) hb
   rw [List.length_range] at h1
   have h2:n*5 ^ (r+1)≤4*5 ^ (r+1):=Nat.mul_le_mul_right _ hn
   have h3:1≤5 ^ (r+1):=Nat.one_le_pow _ _ (by omega)
   have h4:5 ^ (r+1+1)=5 ^ (r+1)*5:=Nat.pow_succ ..
   omega
theorem choL_few {m n:Nat} (hm:m≤4) (hn:n≤4):(choL m n).length≤10000000:=by
 have h1 : ∀ k,k≤4→(listsL allT k).length≤3125:=fun k hk=>by
  have:=growL_few (F:=riseB allT) hk k []
  have h5:5 ^ (k+1)≤5 ^ 5:=Nat.pow_le_pow_right (by omega) (by omega)
  unfold listsL
  omega
 have hg : ∀ R,(choG n R).length≤3125:=fun R=>by
  unfold choG
  rw [List.length_map]
  exact Nat.le_trans (List.length_filter_le _ _) (h1 n hn)
 have hs : ∀ l:List (List Nat),(l.flatMap (choG n)).length≤l.length*3125:=fun l=>by
  induction l with
  | nil=>simp
  | cons x l ih=>
    have:=hg x
    rw [List.flatMap_cons,List.length_append,List.length_cons]
    omega
 have a:=hs (listsL allT m)
 have b:=h1 m hm
 unfold choL
 omega
theorem row9 {w:World} {b:Nat} {p:K9} {T:TypeId} (h:RowIs w b (k9Row p) T) :
 w.cell? ⟨b,0,none⟩=some (.int .i64 p.k)∧w.cell? ⟨b,1,none⟩=some (.int .i64 p.r0)∧w.cell? ⟨b,2,none⟩=some (.int .i64 p.r1)∧w.cell? ⟨b,3,none⟩=some (.int .i64 p.r2)∧w.cell? ⟨b,4,none⟩=some (.int .i64 p.r3)∧w.cell? ⟨b,5,none⟩=some (.int .i64 p.g0)∧w.cell? ⟨b,6,none⟩=some (.int .i64 p.g1)∧w.cell? ⟨b,7,none⟩=some (.int .i64 p.g2)∧w.cell? ⟨b,8,none⟩=some (.int .i64 p.g3)∧b<w.heap.size:=
 ⟨h.cell 0,h.cell 1,h.cell 2,h.cell 3,h.cell 4,h.cell 5,h.cell 6,h.cell 7,h.cell 8,h.lt⟩
theorem RC_at_store {P:Program} {ops:Array Oper} {md:Region.Mode} {Q:Exit→Act→World→Prop} {C:World→Prop} {f i:Nat} {o:Oper} {done:Array Bool} {a:Act} {F:World→Prop} (F':World→Prop) (ho:ops[i]? = some o) (hg:o.guard=none) (hS:Stable F') (hC : ∀ w,F' w→C w) (hrun : ∀ w,F w → ∃ w',(execOp a.eval o).run P w = .ok .skip w'∧F' w')
 (h:RC.Run P md ops Q C f (done.setIfInBounds i true) (a.put o.dst undef) F'):RC.RunAt P md ops Q C f done a F i:=
 ⟨o,ho, .inr (.inr (.inl ⟨F',⟨by simp [Region.wanted,hg],hS,hC,hrun⟩,h⟩))⟩
def Z4:Obj:= .cells #[.int .i64 0, .int .i64 0, .int .i64 0, .int .i64 0] 77 (0,0)
def At1 (B:World) (E:World→Prop) (mb:Nat) (v:Value) (y:World):Prop:=Below B.heap.size B y∧E y ∧ ∃ Bm,v = .func (.func 96) #[] #[.pointer (some ⟨Bm,0,none⟩)]∧RowIs y Bm #[.map (some mb)] 109
def At1b (B:World) (E:World→Prop) (mb Bm:Nat) (y:World):Prop:=Below B.heap.size B y∧E y∧RowIs y Bm #[.map (some mb)] 109
def At2 (B:World) (E:World→Prop) (f:Nat→Row3) (m n:Nat) (v:Value) (y:World):Prop:=Below B.heap.size B y∧E y ∧ ∃ s,Bst f m n s∧v = .tuple #[planV (valP f m n s), .bool true]
theorem stable1 {B:World} {E:World→Prop} {mb:Nat} (hE:Stable E) (v:Value):Stable (At1 B E mb v):=fun y _ h hb=>by
 obtain ⟨h1,h2,Bm,h3,h4⟩:=h
 exact ⟨h1.trans (hb.mono h1.size),hE _ _ h2 hb,Bm,h3,h4.below hb⟩
theorem stable2 {B:World} {E:World→Prop} {f:Nat→Row3} {m n:Nat} (hE:Stable E) (v:Value):Stable (At2 B E f m n v):=fun y _ h hb=>by
 obtain ⟨h1,h2,h3⟩:=h
 exact ⟨h1.trans (hb.mono h1.size),hE _ _ h2 hb,h3⟩
theorem stableT:Stable fun _=>True:=fun _ _ h _=>h
theorem stableZ (b:Nat) (o:Obj):Stable fun y=>y.heap[b]? = some o:=fun _ _ h hb=>(hb.block b (Array.getElem?_eq_some_iff.1 h).1).trans h
theorem values_at {B y:World} {E:World→Prop} {mb:Nat} (hE:Stable E) (h1:Below B.heap.size B y) (h2:E y) :
 Calls Try.prog 87 #[.map (some mb)] y fun e w'=> ∃ v,e = .returned v∧At1 B E mb v w':=by
 refine (mvalues_c mb y).mono ?_
 rintro e w' ⟨rfl,rfl⟩
 have hb:Below y.heap.size y (y.alloc (.cells #[.map (some mb)] 109)):=Below.alloc1 (Below.refl _ _) _ (Nat.le_refl _)
 exact ⟨_,rfl,h1.trans (hb.mono h1.size),hE _ _ h2 hb,y.heap.size,rfl,heap_new_at _ _ _ rfl⟩
theorem best_at {a:Option Addr} {m n cap:Nat} {f:Nat→Row3} {B y:World} {E:World→Prop} {mb N Bm:Nat} (hE:Stable E) (hf:Tab B a m f) (hO:Okay m n f) (hP:Plans B mb N (Fnd f m n) (valP f m n)) (h:At1b B E mb Bm y) :
 Calls Try.prog 86 #[.func (.func 96) #[] #[.pointer (some ⟨Bm,0,none⟩)], .func (.func 99) #[tabV a m cap] #[]] y fun e w'=> ∃ v,e = .returned v∧At2 B E f m n v w':=by
 obtain ⟨h1,h2,h3⟩:=h
 refine (bestSeq_c (α := K9) 96 #[.pointer (some ⟨Bm,0,none⟩)] _ N (valP f m n) 99 #[tabV a m cap] #[] (fun p q=>surerB f m n (valP f m n p) (valP f m n q)) y (mvalues_gives Bm mb N (Fnd f m n) (valP f m n) y h3 (hP.block (h1.block mb hP.lt)))
  (enters_of Try.func96 (by kernel_rfl) rfl) (enters_of Try.func99 (by kernel_rfl) rfl) (fun W hW p q => ?_)).mono ?_
 ·have:=surer_c a m n cap f (valP f m n p) (valP f m n q) W ((hf.below h1).below hW) hO (valP_few hO p) (valP_few hO q)
  simpa using this
 ·rintro e w' ⟨L,⟨hL,_⟩,rfl,hb⟩
  cases hs:bestS (fun p q=>surerB f m n (valP f m n p) (valP f m n q)) L with
  | none=>
    exfalso
    obtain ⟨p,hp⟩:=exists_found hO
    have:=(bestS_max (lt:=fun x y=>surerB f m n (valP f m n x) (valP f m n y)) (fun x y z h1 h2=>surer_trans (valP_few hO x) (valP_few hO y) (valP_few hO z) h1 h2) (fun x=>surer_irr _ _ _ _) L).1 hs
    have hm:=(hL p).2 hp
    rw [this] at hm
    cases hm
  | some s=>exact ⟨_,rfl,h1.trans (hb.mono h1.size),hE _ _ h2 hb,s,kept_best hO hL hs,by simp [keptV]⟩
set_option maxRecDepth 100000 in
theorem eqRat (x0 x1 y0 y1:Int) (w:World) :
 (Op.equalIn 10000 30 (.agg #[.int .i64 x0, .int .i64 x1]) (.agg #[.int .i64 y0, .int .i64 y1])).run Try.prog w = .ok (x0==y0 && x1==y1) w:=by
 rw [show (10000:Nat)=9999+1 from rfl]
 unfold Op.equalIn
 have e9 : ∀ (x y:Int) (w:World),(Op.equalIn 9999 2 (.int .i64 x) (.int .i64 y)).run Try.prog w = .ok (x==y) w:=fun x y w=>eq64 9998 x y w
 have p0 : ∀ (a b:Value) (w:World),(part 2 #[a,b] 0).run Try.prog w = .ok a w:=fun _ _ _=>by kernel_rfl
 have p1 : ∀ (a b:Value) (w:World),(part 2 #[a,b] 1).run Try.prog w = .ok b w:=fun _ _ _=>by kernel_rfl
 simp [run_underlying Try.underlying30]
 cases h0:(x0==y0) <;> cases h1:(x1==y1) <;> simp [p0,p1,e9,h0,h1]
theorem World.grownBy_of_below3 {A B:World} {r:Option Nat} (h:Below A.heap.size A B):A.grownBy B r:=⟨h.os,h.tape,h.output,h.size,fun i hi _=>h.block i hi⟩
def Struck (f:Nat→Row3) (m n:Nat) (D:DataW Value) (left:Lit→Bool):Prop:=
 (∀ p,p.ok→(has D (keyL p)=true↔(Fnd f m n p∧(Bst f m n p∨left (keyL p)=true))))∧(∀ p,p.ok→left (keyL p)=true→Fnd f m n p) ∧
 (∀ p,Fnd f m n p→(Bst f m n p∨left (keyL p)=true)→D.atKey (keyL p) .nil = .held (planV (valP f m n p)))
theorem struck_start {f:Nat→Row3} {m n:Nat} {D:DataW Value} (h2 : ∀ p,p.ok→(has D (keyL p)=true↔Fnd f m n p)) (h3 : ∀ p,Fnd f m n p→D.atKey (keyL p) .nil = .held (planV (valP f m n p))):Struck f m n D (has D):=
 ⟨fun p hp=>⟨fun h=>⟨(h2 p hp).1 h, .inr h⟩,fun h=>(h2 p hp).2 h.1⟩,fun p hp h=>(h2 p hp).1 h,fun p hp _=>h3 p hp⟩
theorem struck_keep {f:Nat→Row3} {m n:Nat} {D:DataW Value} {left:Lit→Bool} {x:K9} (h1 : ∀ p,Fnd f m n p→p.ok) (h:Struck f m n D left) (hx:x.ok) (hB:Bst f m n x):Struck f m n D (fun z=>left z && !z.sameKey (keyL x)):=by
 obtain ⟨a1,a2,a3⟩:=h
 have key : ∀ p,p.ok→(Bst f m n p∨left (keyL p)=true)→(Bst f m n p∨(left (keyL p) && !(keyL p).sameKey (keyL x))=true):=fun p hp h=>by
  rcases h with h | h
  ·exact .inl h
  ·by_cases e:p=x
   ·exact .inl (e ▸ hB)
   ·exact .inr ((left_cut hp hx).2 ⟨h,e⟩)
 have back : ∀ p,p.ok→(Bst f m n p∨(left (keyL p) && !(keyL p).sameKey (keyL x))=true)→(Bst f m n p∨left (keyL p)=true):=fun p hp h=>h.imp_right fun h=>((left_cut hp hx).1 h).1
 exact ⟨fun p hp=>(a1 p hp).trans ⟨fun h=>⟨h.1,key p hp h.2⟩,fun h=>⟨h.1,back p hp h.2⟩⟩,fun p hp h=>a2 p hp ((left_cut hp hx).1 h).1,fun p hF h=>a3 p hF (back p (h1 p hF) h)⟩
theorem struck_del {f:Nat→Row3} {m n:Nat} {D:DataW Value} {left:Lit→Bool} {x:K9} (h1 : ∀ p,Fnd f m n p→p.ok) (h:Struck f m n D left) (hx:x.ok) (hB : ¬ Bst f m n x) :
 Struck f m n (D.del (keyL x)) (fun z=>(left z && !z.sameKey (keyL x)) && !z.sameKey (keyL x)):=by
 rw [strike_twice]
 obtain ⟨a1,a2,a3⟩:=h
 refine ⟨fun p hp => ?_,fun p hp h=>a2 p hp ((left_cut hp hx).1 h).1,fun p hF h => ?_⟩
 ·by_cases e:p=x
  ·subst e
   rw [has_del_same]
   exact ⟨fun h=>(by cases h),fun h=>(h.2.elim (fun h=>hB h) (fun h=>((left_cut hp hx).1 h).2 rfl)).elim⟩
  ·have hne:keyL p ≠ keyL x:=fun h=>e (keyL_inj hp hx h)
   rw [has_del_other hne]
   refine (a1 p hp).trans ⟨fun h=>⟨h.1,h.2.imp_right fun h=>(left_cut hp hx).2 ⟨h,e⟩⟩,fun h=>⟨h.1,h.2.imp_right fun h=>((left_cut hp hx).1 h).1⟩⟩
 ·have hp:=h1 p hF
  have e:p ≠ x:=by
   rintro rfl
   exact h.elim hB (fun h=>((left_cut hp hx).1 h).2 rfl)
  have hne:keyL p ≠ keyL x:=fun h=>e (keyL_inj hp hx h)
  rw [atKey_del_other hne]
  exact a3 p hF (h.imp_right fun h=>((left_cut hp hx).1 h).1)
def Fixed (a:Option Addr) (m cap:Nat) (w B:World) (db Z:Nat) (vN vD:Int) (wr:World):Prop:=
 RowIs wr w.heap.size #[.slice a m cap] 73∧RowIs wr (w.heap.size+1+1) #[.map (some (w.heap.size+1))] 109∧RowIs wr Z #[.int .i64 vN, .int .i64 vD] 30 ∧
  (∃ c0 c1 c2 c3 c4:Int,RowIs wr (Z+1) #[.int .i64 c0, .int .i64 c1, .int .i64 c2, .int .i64 c3, .int .i64 c4] 100)∧Below w.heap.size w wr∧wr.heap[db]? = some (.deferred (some [])) ∧
  w.heap.size+1+1<Z∧db<Z∧w.heap.size+1+1<db∧B.heap.size≤Z
theorem Fixed.start {a:Option Addr} {m cap:Nat} {w B:World} {db Z:Nat} {vN vD:Int} {wr:World} (h1:RowIs B w.heap.size #[.slice a m cap] 73) (h2:RowIs B (w.heap.size+1+1) #[.map (some (w.heap.size+1))] 109)
 (hd:B.heap[db]? = some (.deferred (some []))) (hBZ:B.heap.size≤Z) (hdB:db<B.heap.size) (hdb:w.heap.size+1+1<db) (hb:Below B.heap.size B wr) (h3:RowIs wr Z #[.int .i64 vN, .int .i64 vD] 30)
 (h4:RowIs wr (Z+1) #[.int .i64 0, .int .i64 0, .int .i64 0, .int .i64 0, .int .i64 0] 100) (hB:Below w.heap.size w B):Fixed a m cap w B db Z vN vD wr:=
 ⟨h1.below hb,h2.below hb,h3,⟨0,0,0,0,0,h4⟩,hB.trans (hb.mono hB.size),(hb.block _ hdB).trans hd,by have:=h2.lt; omega,by omega,hdb,hBZ⟩
theorem Fixed.grow {a:Option Addr} {m cap:Nat} {w B:World} {db Z:Nat} {vN vD:Int} {A C:World} (h:Fixed a m cap w B db Z vN vD A) (hb:Below A.heap.size A C):Fixed a m cap w B db Z vN vD C:=by
 obtain ⟨h1,h2,h3,⟨c0,c1,c2,c3,c4,h4⟩,h5,h6,h7,h8,h9,h10⟩:=h
 exact ⟨h1.below hb,h2.below hb,h3.below hb,⟨c0,c1,c2,c3,c4,h4.below hb⟩,h5.trans (hb.mono h5.size),(hb.block _ (Array.getElem?_eq_some_iff.1 h6).1).trans h6,h7,h8,h9,h10⟩
theorem Fixed.other {a:Option Addr} {m cap:Nat} {w B:World} {db Z r:Nat} {vN vD:Int} {A C:World} (h:Fixed a m cap w B db Z vN vD A) (hg:A.grownBy C (some r)) (hr:r=w.heap.size+1∨Z+1<r):Fixed a m cap w B db Z vN vD C:=by
 obtain ⟨h1,h2,h3,⟨c0,c1,c2,c3,c4,h4⟩,h5,h6,h7,h8,h9,h10⟩:=h
 have k : ∀ i,i<A.heap.size→i ≠ r→C.heap[i]? = A.heap[i]? := fun i h1 h2=>hg.block i h1 (fun e=>h2 (Option.some.inj e))
 exact ⟨(k _ h1.lt (by omega)).trans h1,(k _ h2.lt (by omega)).trans h2,(k _ h3.lt (by omega)).trans h3,⟨c0,c1,c2,c3,c4,(k _ h4.lt (by omega)).trans h4⟩,h5.grown hg h5.size (fun k e=>by cases e; omega),
  (k _ (Array.getElem?_eq_some_iff.1 h6).1 (by omega)).trans h6,h7,h8,h9,h10⟩
theorem Fixed.sums {a:Option Addr} {m cap:Nat} {w B:World} {db Z:Nat} {vN vD:Int} {A C:World} (h:Fixed a m cap w B db Z vN vD A) (hg:A.grownBy C (some (Z+1))) {g:Nat→Int} (hr:RowIs C (Z+1) (rowA 5 g) 100):Fixed a m cap w B db Z vN vD C:=by
 obtain ⟨h1,h2,h3,⟨c0,c1,c2,c3,c4,h4⟩,h5,h6,h7,h8,h9,h10⟩:=h
 have k : ∀ i,i<A.heap.size→i ≠ Z+1→C.heap[i]? = A.heap[i]? := fun i h1 h2=>hg.block i h1 (fun e=>h2 (Option.some.inj e))
 exact ⟨(k _ h1.lt (by omega)).trans h1,(k _ h2.lt (by omega)).trans h2,(k _ h3.lt (by omega)).trans h3,⟨g 0,g 1,g 2,g 3,g 4,hr⟩,h5.grown hg h5.size (fun k e=>by cases e; omega),
  (k _ (Array.getElem?_eq_some_iff.1 h6).1 (by omega)).trans h6,h7,h8,h9,h10⟩
set_option maxRecDepth 100000 in
set_option maxHeartbeats 16000000 in
theorem bestPlans_c (a:Option Addr) (m n cap:Nat) (f:Nat→Row3) (w:World) (hf:Tab w a m f) (hO:Okay m n f) :
 Calls Try.prog 88 #[tabV a m cap] w fun e w'=> ∃ b N,e = .returned (.map (some b))∧Plans w' b N (Bst f m n) (valP f m n)∧N≤10000000∧Below w.heap.size w w':=by
 obtain ⟨W,hW⟩ : ∃ W,((w.alloc (.cells #[.slice a m cap] 73)).alloc (.map #[] 0)).alloc (.cells #[.map (some (w.heap.size+1))] 109)=W:=⟨_,rfl⟩
 have hB:Below w.heap.size w W:=by rw [← hW]; exact Below.alloc1 (Below.alloc1 (Below.alloc1 (Below.refl _ _) _ (Nat.le_refl _)) _ (Nat.le_refl _)) _ (Nat.le_refl _)
 have hD:RowIs W w.heap.size #[.slice a m cap] 73:=by rw [← hW]; exact RowIs.alloc (RowIs.alloc (heap_new_at _ _ _ rfl) _) _
 have hM:RowIs W (w.heap.size+2) #[.map (some (w.heap.size+1))] 109:=by rw [← hW]; exact heap_new_at _ _ _ (by simp)
 have hP:Plans W (w.heap.size+1) 0 (fun _=>False) (valP f m n):=by
  have:=plans_made (w.alloc (.cells #[.slice a m cap] 73)) (valP f m n)
  rw [World.size_alloc] at this
  rw [← hW]
  exact this.below (Below.alloc1 (Below.refl _ _) _ (Nat.le_refl _))
 have hWz:W.heap.size=w.heap.size+3:=by rw [← hW]; simp
 have d0:W.cell? ⟨w.heap.size,0,none⟩=some (.slice a m cap):=hD.cell 0
 have dz:=hD.lt
 have h0:Found a m n cap f w 0 W:=⟨hB,hD,hM,0,Nat.le_refl _,hP.congr fun p=>by simp⟩
 have hK0 : ∀ k,KT a k→k<w.heap.size:=fun k ⟨off,e⟩=>by
  obtain ⟨b,o,e2,hb,_⟩:=Tab.at hf 0 hO.m1
  rw [e2] at e
  cases e
  exact hb
 have hKT : ∀ k,KT a k→k<W.heap.size:=fun k h=>Nat.lt_of_lt_of_le (hK0 k h) hB.size
 have HK0:=Lib.hid hK0
 clear hK0
 have HG:=Lib.hid (choices_gives a m n cap f W (hf.below hB) hO)
 have HK:=Lib.hid hKT
 have H0:=Lib.hid h0
 have Hf:=Lib.hid hf
 have HO:=Lib.hid hO
 have HW:=Lib.hid hW
 clear h0 hP hM hD hB hf hO hKT
 refine (callsIn_wide (n:=1)).1 ?_
 refine callsIn_of_wp_marks Try.func88 rfl trivial ?_ rfl
 simp only [Try.ntmps88,List.size_toArray,List.length_cons,List.length_nil,Nat.reduceAdd,Nat.reduceSub,Array.replicate_succ,Array.replicate_zero,List.push_toArray,List.append_toArray,List.nil_append,List.cons_append]
 have hmm:= @run_makeMap Try.prog
 gi_wp2_with fail
 clear hmm
 have hL : ∀ k (hk:k<((choL m n).map fun c => #[chV c.1.length c.1 c.2]).length),((choL m n).map fun c => #[chV c.1.length c.1 c.2])[k] = #[chV ((choL m n).getD k ([],[])).1.length ((choL m n).getD k ([],[])).1 ((choL m n).getD k ([],[])).2]:=fun k hk=>by
  have hk':k<(choL m n).length:=by simpa using hk
  simp [List.getD,hk']
 have HL:=Lib.hid hL
 clear hL
 refine wpIn_rangeL (gf:=97) (first := #[tabV a m cap]) (lb := #[]) rfl (enters_of Try.func97 (by kernel_rfl) rfl) HG.out HK.out (fun k hk=>by rw [HL.out k hk]; rfl)
  (fun k A=>Found a m n cap f w k A) (fun _ _ _=>False)
  (fun k A B hA hAB=>found_below (by omega) hA hAB) (fun _ _ _ _ h _=>h) H0.out
  (fun k a' A=> ∃ Bx c,w.heap.size+5≤Bx∧(choL m n).getD k ([],[])=c∧RowIs A Bx (chRow c.1.length c.1 c.2) 112 ∧
    a' = { tmps := #[tabV a m cap, .pointer (some ⟨w.heap.size,0,none⟩), .map none, .pointer (some ⟨w.heap.size+1+1,0,none⟩), .pointer (some ⟨Bx,0,none⟩),undef,undef,undef,undef,undef,undef,undef,undef, .map (some (w.heap.size+1)),tabV a m cap, .func (.func 97) #[tabV a m cap] #[],chV c.1.length c.1 c.2,undef,undef,undef,undef,undef,undef,undef,undef,undef,undef,undef,undef,undef,undef,undef,undef,undef,undef,undef,undef,undef,undef,undef,undef,undef,undef,undef,undef,undef,undef,undef,undef,undef,undef,undef,undef,undef,undef,undef],defers:=[] })
  (fun k a' A o hA=>by
    obtain ⟨Bx,c,h1,h2,h3,h4⟩:=hA
    exact ⟨Bx,c,h1,h2,(World.putObj_heap_other (by omega)).trans h3,h4⟩)
  ?assign ?body ?done ?stop
 case assign=>
  intro lx k hk A T hA hI hT
  rw [HL.out k hk]
  obtain ⟨c,hc⟩ : ∃ c,(choL m n).getD k ([],[])=c:=⟨_,rfl⟩
  rw [hc] at hT ⊢
  gi_wp2
  exact hT _ _ (Below.alloc1 (Below.refl _ _) _ (Nat.le_refl _)) ⟨A.heap.size,c,by omega,rfl,heap_new_at _ _ _ rfl,rfl⟩
 case body=>
  rintro lx k hk a' A hA hI ⟨Bx,c,hBx,hc,hx,rfl⟩
  have hk':k<(choL m n).length:=by simpa using hk
  have hck:(choL m n)[k]=c:=by rw [← hc]; simp [List.getD,hk']
  have hcm:c ∈ choL m n:=by rw [← hck]; exact List.getElem_mem hk'
  obtain ⟨c1,c2,c3,c4⟩:=cho_facts HO.out.m4 hcm
  obtain ⟨hb,hd,hm,N,hN,hP⟩:=hI
  have HPl:=Lib.hid (planOf_c a m n cap f c.1.length c.1 c.2 A (Hf.out.below hb) HO.out c1 c2 rfl c3 c4)
  have d0:A.cell? ⟨w.heap.size,0,none⟩=some (.slice a m cap):=hd.cell 0
  have dz:=hd.lt
  have y0:=hx.cell 0
  have y1:=hx.cell 1
  have y2:=hx.cell 2
  have y3:=hx.cell 3
  have y4:=hx.cell 4
  have y5:=hx.cell 5
  have y6:=hx.cell 6
  have y7:=hx.cell 7
  have y8:=hx.cell 8
  simp at y0 y1 y2 y3 y4 y5 y6 y7 y8
  have xz:=hx.lt
  have HB:=Lib.hid hb
  have HD:=Lib.hid hd
  have HM:=Lib.hid hm
  have HX:=Lib.hid hx
  have HP:=Lib.hid hP
  have Hcm:=Lib.hid hcm
  have Hck:=Lib.hid hck
  clear hb hd hm hx hP hcm hck hc c1 c2 c3 c4
  have take_succ:(choL m n).take (k+1)=(choL m n).take k ++ [c]:=by rw [List.take_succ_eq_append_getElem hk',Hck.out]
  have HT:=Lib.hid take_succ
  clear take_succ
  cases hfo:foundB f c.1 c.2 with
  | false=>
    have HPl2:=HPl.out
    rw [hfo] at HPl2
    have HPL:=Lib.hid HPl2
    have Hfo:=Lib.hid hfo
    clear HPl2 hfo
    gi_wp2_with (first
     | (refine ⟨trivial,?_⟩; gi_at_call 98; refine (CallsIn.inRound lx (callsIn_wide.2 HPL.out)).mono ?_; rintro e A2 ⟨rfl,hA2⟩)
     | fail)
    have hA3:=Below.alloc1 hA2 (.cells #[.int .i64 (planQ f c.1 c.2 0), .int .i64 (planQ f c.1 c.2 1), .int .i64 (planQ f c.1 c.2 2), .int .i64 (planQ f c.1 c.2 3)] 77) (Nat.le_refl _)
    refine ⟨Spares.of_below hA3,?_⟩
    obtain ⟨g1,g2,g3,N',g4,g5⟩:=found_below (r:=A.heap.size) (by omega) ⟨HB.out,HD.out,HM.out,N,hN,HP.out⟩ hA3
    refine ⟨g1,g2,g3,N',by omega,g5.congr fun p => ?_⟩
    rw [HT.out]
    constructor
    ·rintro ⟨d,h1,h2⟩
     exact ⟨d,List.mem_append.2 (.inl h1),h2⟩
    ·rintro ⟨d,h1,h2,h3⟩
     rcases List.mem_append.1 h1 with h1 | h1
     ·exact ⟨d,h1,h2,h3⟩
     ·simp at h1
      rw [h1,Hfo.out] at h2
      cases h2
  | true=>
    have HPl2:=HPl.out
    rw [hfo] at HPl2
    have HPL:=Lib.hid HPl2
    have Hfo:=Lib.hid hfo
    have hkey:=keyOf_choice (k9_ok HO.out.m4 HO.out.n4 Hcm.out)
    have hN4:N<maxLen:=by
     have:=choL_few HO.out.m4 HO.out.n4
     unfold maxLen
     omega
    clear HPl2 hfo
    gi_wp2_with fail
    refine ⟨trivial,?_⟩
    refine (CallsIn.inRound lx (callsIn_wide.2 HPL.out)).mono ?_
    rintro e A2 ⟨rfl,hA2⟩
    have hz2:=hA2.size
    have m0:A2.cell? ⟨w.heap.size+1+1,0,none⟩=some (.map (some (w.heap.size+1))):=(hA2.cell (p:=⟨w.heap.size+1+1,0,none⟩) HM.out.lt).trans (HM.out.cell 0)
    have mz:=HM.out.lt
    have mz2:w.heap.size+1+1<A2.heap.size:=by omega
    obtain ⟨z0,z1,z2,z3,z4,z5,z6,z7,z8,z9⟩:=row9 (p:=k9 c) ((hA2.block Bx xz).trans HX.out)
    obtain ⟨Dm,hown,s1,s2,s3⟩:=HP.out.block ((Below.alloc1 hA2 (.cells #[.int .i64 (planQ f c.1 c.2 0), .int .i64 (planQ f c.1 c.2 1), .int .i64 (planQ f c.1 c.2 2), .int .i64 (planQ f c.1 c.2 3)] 77) (Nat.le_refl _)).block (w.heap.size+1) (by omega))
    have S1:=Lib.hid s1
    have S2:=Lib.hid s2
    have S3:=Lib.hid s3
    clear s1 s2 s3 y0 y1 y2 y3 y4 y5 y6 y7 y8
    gi_wp2_with (first
     | (gi_at_mapUpdate; refine wpListIn_mapUpdate_own _ rfl _ _ _ 109 rfl 112 77 keyedC Try.underlying109 heldR (w.heap.size+1) N Dm rfl hown hN4 (k9V (k9 c)) (planV (planQ f c.1 c.2)) (keyL (k9 c)) rfl rfl hkey (.held (planV (planQ f c.1 c.2))) [] rfl ?_; intro w1 hown1 hg1)
     | fail)
    obtain ⟨V,hV⟩ : ∃ V,A2.alloc (.cells #[.int .i64 (planQ f c.1 c.2 0), .int .i64 (planQ f c.1 c.2 1), .int .i64 (planQ f c.1 c.2 2), .int .i64 (planQ f c.1 c.2 3)] 77)=V:=⟨_,rfl⟩
    have hA3:Below A.heap.size A V:=by rw [← hV]; exact Below.alloc1 hA2 _ (Nat.le_refl _)
    rw [hV] at hg1
    have hsame : ∀ i,i<A.heap.size→i ≠ w.heap.size+1→w1.heap[i]? = A.heap[i]? := fun i h1 h2=>(hg1.block i (Nat.lt_of_lt_of_le h1 hA3.size) (fun e=>h2 (Option.some.inj e))).trans (hA3.block i h1)
    have hAz:w.heap.size+3≤A.heap.size:=by omega
    have hval:valP f m n (k9 c)=planQ f c.1 c.2:=valP_k9 HO.out.m4 Hcm.out Hfo.out
    obtain ⟨u1,u2,u3⟩:=plans_put (q:=k9 c) hown.isMap S1.out S2.out S3.out (k9_ok HO.out.m4 HO.out.n4 Hcm.out)
    rw [hval] at u2 u3
    refine ⟨⟨Nat.le_trans hA3.size hg1.size,fun i h1 h2=>hsame i h1 (fun e=>h2.elim (fun h=>by have:=HK0.out i h; omega) (fun h=>by omega))⟩,?_,(hsame _ (by omega) (by omega)).trans HD.out,(hsame _ (by omega) (by omega)).trans HM.out,N+1,by omega,?_⟩
    ·exact (HB.out.trans (hA3.mono HB.out.size)).grown hg1 (Nat.le_trans HB.out.size hA3.size) (fun k e=>by cases e; omega)
    ·refine Plans.congr ⟨_,hown1,u1,u2,u3⟩ fun p => ?_
     rw [HT.out]
     constructor
     ·rintro (⟨d,h1,h2,h3⟩ | rfl)
      ·exact ⟨d,List.mem_append.2 (.inl h1),h2,h3⟩
      ·exact ⟨c,by simp,Hfo.out,rfl⟩
     ·rintro ⟨d,h1,h2,h3⟩
      rcases List.mem_append.1 h1 with h1 | h1
      ·exact .inl ⟨d,h1,h2,h3⟩
      ·simp at h1
       exact .inr (by rw [← h3,h1])
 case stop=>
  rintro cd k B hBz h hK
  exact h.elim
 case done=>
  rintro B hBz hI hK
  rw [List.length_map] at hI
  obtain ⟨hb,hd,hm,N,hN,hP⟩:=hI
  have hPF:Plans B (w.heap.size+1) N (Fnd f m n) (valP f m n):=hP.congr fun p=>by rw [List.take_length]; rfl
  have HB:=Lib.hid hb
  have HD:=Lib.hid hd
  have HM:=Lib.hid hm
  have HP:=Lib.hid hPF
  have HDF:=Lib.hid hK
  clear hb hd hm hP hPF hK
  dsimp only
  gi_wp2_with fail
  have hFC : ∀ y,Below B.heap.size B y→Below B.heap.size B y∧y.cell? ⟨w.heap.size+1+1,0,none⟩=some (.map (some (w.heap.size+1)))∧y.cell? ⟨w.heap.size,0,none⟩=some (.slice a m cap):=fun y hy=>⟨hy,(hy.cell (p:=⟨w.heap.size+1+1,0,none⟩) HM.out.lt).trans (HM.out.cell 0),(hy.cell (p:=⟨w.heap.size,0,none⟩) HD.out.lt).trans (HD.out.cell 0)⟩
  have HfB:=Lib.hid (Hf.out.below HB.out)
  refine wpIn_mono (Q:=fun e a' y=>e = .normal∧Below B.heap.size B y ∧ ∃ b7 s Bm,B.heap.size≤b7∧Bst f m n s∧RowIs y b7 (planRow (valP f m n s)) 77∧a' = { tmps := #[tabV a m cap, .pointer (some ⟨w.heap.size,0,none⟩), .map none, .pointer (some ⟨w.heap.size+1+1,0,none⟩),undef,undef,undef, .pointer (some ⟨b7,0,none⟩), .bool true,undef,undef,undef,undef, .map (some (w.heap.size+1)),tabV a m cap, .func (.func 97) #[tabV a m cap] #[],undef,undef,undef,undef,undef,undef,undef,undef,undef,undef,undef, .tuple #[planV (valP f m n s), .bool true], .map (some (w.heap.size+1)), .func (.func 96) #[] #[.pointer (some ⟨Bm,0,none⟩)],tabV a m cap, .func (.func 99) #[tabV a m cap] #[], .tuple #[planV (valP f m n s), .bool true],planV (valP f m n s), .bool true,undef,undef,undef,undef,undef,undef,undef,undef,undef,undef,undef,undef,undef,undef,undef,undef,undef,undef,undef,undef,undef],defers:=[{ target:= .collected W.heap.size,args := #[] }] }) ((wpIn_wide (n:=1)).2 ?_) ?_
  ·refine RC.wp_region_runF (C:=fun y=>Below B.heap.size B y∧y.cell? ⟨w.heap.size+1+1,0,none⟩=some (.map (some (w.heap.size+1)))∧y.cell? ⟨w.heap.size,0,none⟩=some (.slice a m cap)) (fun y=>Below B.heap.size B y) (by kernel_rfl) (stable_below B) (Below.refl _ _) ?_
   change RC.Run _ _ _ _ _ 11 _ _ _
   refine RC.run_take (i:=0) (.map (some (w.heap.size+1))) rfl (by kernel_rfl) (by kernel_rfl) (by kernel_rfl) rfl hFC (fun y hy=>by obtain ⟨-,q0,q1⟩:=hy; go_simp) ?_
   simp only [puts]
   refine RC.run_take (i:=2) (tabV a m cap) rfl (by kernel_rfl) (by kernel_rfl) (by kernel_rfl) rfl hFC (fun y hy=>by obtain ⟨-,q0,q1⟩:=hy; go_simp) ?_
   simp only [puts]
   refine RC.run_take (i:=3) (.func (.func 99) #[tabV a m cap] #[]) rfl (by kernel_rfl) (by kernel_rfl) (by kernel_rfl) rfl hFC (fun y hy=>by obtain ⟨-,q0,q1⟩:=hy; go_simp) ?_
   simp only [puts]
   refine RC.run_both (i:=1) (j:=8) (by kernel_rfl) ?_ ?_
   ·refine RC.at_call (At1 B (fun _=>True) (w.heap.size+1)) rfl rfl (stable1 stableT) (fun u y h=>hFC y h.1) (fun y hy=>⟨_, #[.map (some (w.heap.size+1))],(Go.Conc.run_call_body (fn:=Try.f87) rfl Try.func87 (by kernel_rfl) (by kernel_rfl)).trans (by simp [Act.eval]),values_at stableT hy trivial⟩) ?_
    rintro v ⟨_,_,_,Bm,rfl,_⟩
    refine RC.run_mono _ _ _ (At1b B (fun _=>True) (w.heap.size+1) Bm) _ ?_ ?_
    ·rintro y ⟨h1,h2,Bm',e,h3⟩
     simp only [Value.func.injEq,true_and,Array.mk.injEq,List.cons.injEq,and_true,Value.pointer.injEq,Option.some.injEq,Addr.mk.injEq] at e
     subst e
     exact ⟨h1,h2,h3⟩
    simp only [puts]
    refine RC.run_both (i:=4) (j:=8) (by kernel_rfl) ?_ ?_
    ·refine RC.at_call (At2 B (fun _=>True) f m n) rfl rfl (stable2 stableT) (fun u y h=>hFC y h.1) (fun y hy=>⟨_, #[.func (.func 96) #[] #[.pointer (some ⟨Bm,0,none⟩)], .func (.func 99) #[tabV a m cap] #[]],(Go.Conc.run_call_body (fn:=Try.f86) rfl Try.func86 (by kernel_rfl) (by kernel_rfl)).trans (by simp [Act.eval]),best_at stableT HfB.out HO.out HP.out hy⟩) ?_
     rintro v ⟨_,_,_,s,hs,rfl⟩
     refine RC.run_mono _ _ _ (fun y=>Below B.heap.size B y∧(fun _=>True) y) _ (fun y h=>⟨h.1,h.2.1⟩) ?_
     simp only [puts]
     refine RC.run_take (i:=5) (.tuple #[planV (valP f m n s), .bool true]) rfl (by kernel_rfl) (by kernel_rfl) (by kernel_rfl) rfl (fun y h=>hFC y h.1) (fun y hy=>by go_simp) ?_
     simp only [puts]
     refine RC.run_take (i:=6) (planV (valP f m n s)) rfl (by kernel_rfl) (by kernel_rfl) (by kernel_rfl) rfl (fun y h=>hFC y h.1) (fun y hy=>by go_simp) ?_
     simp only [puts]
     refine RC.run_take (i:=7) (.bool true) rfl (by kernel_rfl) (by kernel_rfl) (by kernel_rfl) rfl (fun y h=>hFC y h.1) (fun y hy=>by go_simp) ?_
     simp only [puts]
     refine RC.run_only (i:=8) (by kernel_rfl) (RC.at_make (w0:=B) (t:=7) (z:=Z4) ptrTo (fun _=>False) ptrTo_inj rfl rfl rfl (fun y _=>by go_simp; rfl) (fun y h=>h.1.size) (fun _ _ _ h=>h.elim) ?_)
     intro b7 hb7 _
     refine RC.run_mono _ _ _ (fun y=>Below B.heap.size B y∧y.heap[b7]? = some Z4) _ (fun y h=>⟨h.1.1,h.2⟩) ?_
     simp only [Act.put,List.setIfInBounds_toArray,List.set_cons_zero,List.set_cons_succ]
     refine RC.run_only (i:=9) (by kernel_rfl) (RC_at_store (fun y=>Below B.heap.size B y∧RowIs y b7 (planRow (valP f m n s)) 77) rfl rfl (fun y _ h hb=>⟨h.1.trans (hb.mono h.1.size),RowIs.below h.2 hb⟩) (fun y h=>hFC y h.1) (fun y hy => ?_) ?_)
     ·obtain ⟨h1,h2⟩:=hy
      have r2:RowIs y b7 (planRow fun _=>0) 77:=h2
      obtain ⟨⟨l0,l1,l2,l3⟩,lz⟩:=row4 r2
      obtain ⟨f0,f1,f2,f3⟩:=row4f r2
      refine ⟨put4 y b7 (valP f m n s),by go_simp; rfl,h1.trans (put4_below hb7 _),put4_row r2 _⟩
     simp only [puts]
     refine RC.run_only (i:=10) (by kernel_rfl) (RC.at_quiet (.bool true) rfl (.inl ⟨rfl,fun y hy=>by go_simp; exact ⟨rfl,rfl⟩⟩) ?_)
     simp only [puts]
     refine ⟨by kernel_rfl,fun y hy => ?_⟩
     exact ⟨rfl,hy.1,b7,s,Bm,hb7,hs,hy.2,rfl⟩
    ·refine RC.at_make (w0:=B) (t:=7) (z:=Z4) ptrTo (fun _=>False) ptrTo_inj rfl rfl rfl (fun y _=>by go_simp; rfl) (fun y h=>h.1.size) (fun _ _ _ h=>h.elim) ?_
     intro b7 hb7 _
     refine RC.run_mono _ _ _ (At1b B (fun y=>y.heap[b7]? = some Z4) (w.heap.size+1) Bm) _ (fun y h=>⟨h.1.1,h.2,h.1.2.2⟩) ?_
     simp only [Act.put,List.setIfInBounds_toArray,List.set_cons_zero,List.set_cons_succ]
     refine RC.run_only (i:=4) (by kernel_rfl) (RC.at_call (At2 B (fun y=>y.heap[b7]? = some Z4) f m n) rfl rfl (stable2 (stableZ b7 Z4)) (fun u y h=>hFC y h.1) (fun y hy=>⟨_, #[.func (.func 96) #[] #[.pointer (some ⟨Bm,0,none⟩)], .func (.func 99) #[tabV a m cap] #[]],(Go.Conc.run_call_body (fn:=Try.f86) rfl Try.func86 (by kernel_rfl) (by kernel_rfl)).trans (by simp [Act.eval]),best_at (stableZ b7 Z4) HfB.out HO.out HP.out hy⟩) ?_)
     rintro v ⟨_,_,_,s,hs,rfl⟩
     refine RC.run_mono _ _ _ (fun y=>Below B.heap.size B y∧(fun y=>y.heap[b7]? = some Z4) y) _ (fun y h=>⟨h.1,h.2.1⟩) ?_
     simp only [puts]
     refine RC.run_take (i:=5) (.tuple #[planV (valP f m n s), .bool true]) rfl (by kernel_rfl) (by kernel_rfl) (by kernel_rfl) rfl (fun y h=>hFC y h.1) (fun y hy=>by go_simp) ?_
     simp only [puts]
     refine RC.run_take (i:=6) (planV (valP f m n s)) rfl (by kernel_rfl) (by kernel_rfl) (by kernel_rfl) rfl (fun y h=>hFC y h.1) (fun y hy=>by go_simp) ?_
     simp only [puts]
     refine RC.run_take (i:=7) (.bool true) rfl (by kernel_rfl) (by kernel_rfl) (by kernel_rfl) rfl (fun y h=>hFC y h.1) (fun y hy=>by go_simp) ?_
     simp only [puts]
     refine RC.run_only (i:=9) (by kernel_rfl) (RC_at_store (fun y=>Below B.heap.size B y∧RowIs y b7 (planRow (valP f m n s)) 77) rfl rfl (fun y _ h hb=>⟨h.1.trans (hb.mono h.1.size),RowIs.below h.2 hb⟩) (fun y h=>hFC y h.1) (fun y hy => ?_) ?_)
     ·obtain ⟨h1,h2⟩:=hy
      have r2:RowIs y b7 (planRow fun _=>0) 77:=h2
      obtain ⟨⟨l0,l1,l2,l3⟩,lz⟩:=row4 r2
      obtain ⟨f0,f1,f2,f3⟩:=row4f r2
      refine ⟨put4 y b7 (valP f m n s),by go_simp; rfl,h1.trans (put4_below hb7 _),put4_row r2 _⟩
     simp only [puts]
     refine RC.run_only (i:=10) (by kernel_rfl) (RC.at_quiet (.bool true) rfl (.inl ⟨rfl,fun y hy=>by go_simp; exact ⟨rfl,rfl⟩⟩) ?_)
     simp only [puts]
     refine ⟨by kernel_rfl,fun y hy => ?_⟩
     exact ⟨rfl,hy.1,b7,s,Bm,hb7,hs,hy.2,rfl⟩
   ·refine RC.at_make (w0:=B) (t:=7) (z:=Z4) ptrTo (fun _=>False) ptrTo_inj rfl rfl rfl (fun y _=>by go_simp; rfl) (fun y h=>h.size) (fun _ _ _ h=>h.elim) ?_
    intro b7 hb7 _
    refine RC.run_mono _ _ _ (fun y=>Below B.heap.size B y∧y.heap[b7]? = some Z4) _ (fun y h=>h) ?_
    simp only [Act.put,List.setIfInBounds_toArray,List.set_cons_zero,List.set_cons_succ]
    refine RC.run_only (i:=1) (by kernel_rfl) (RC.at_call (At1 B (fun y=>y.heap[b7]? = some Z4) (w.heap.size+1)) rfl rfl (stable1 (stableZ b7 Z4)) (fun u y h=>hFC y h.1) (fun y hy=>⟨_, #[.map (some (w.heap.size+1))],(Go.Conc.run_call_body (fn:=Try.f87) rfl Try.func87 (by kernel_rfl) (by kernel_rfl)).trans (by simp [Act.eval]),values_at (stableZ b7 Z4) hy.1 hy.2⟩) ?_)
    rintro v ⟨_,_,_,Bm,rfl,_⟩
    refine RC.run_mono _ _ _ (At1b B (fun y=>y.heap[b7]? = some Z4) (w.heap.size+1) Bm) _ ?_ ?_
    ·rintro y ⟨h1,h2,Bm',e,h3⟩
     simp only [Value.func.injEq,true_and,Array.mk.injEq,List.cons.injEq,and_true,Value.pointer.injEq,Option.some.injEq,Addr.mk.injEq] at e
     subst e
     exact ⟨h1,h2,h3⟩
    simp only [puts]
    refine RC.run_only (i:=4) (by kernel_rfl) (RC.at_call (At2 B (fun y=>y.heap[b7]? = some Z4) f m n) rfl rfl (stable2 (stableZ b7 Z4)) (fun u y h=>hFC y h.1) (fun y hy=>⟨_, #[.func (.func 96) #[] #[.pointer (some ⟨Bm,0,none⟩)], .func (.func 99) #[tabV a m cap] #[]],(Go.Conc.run_call_body (fn:=Try.f86) rfl Try.func86 (by kernel_rfl) (by kernel_rfl)).trans (by simp [Act.eval]),best_at (stableZ b7 Z4) HfB.out HO.out HP.out hy⟩) ?_)
    rintro v ⟨_,_,_,s,hs,rfl⟩
    refine RC.run_mono _ _ _ (fun y=>Below B.heap.size B y∧(fun y=>y.heap[b7]? = some Z4) y) _ (fun y h=>⟨h.1,h.2.1⟩) ?_
    simp only [puts]
    refine RC.run_take (i:=5) (.tuple #[planV (valP f m n s), .bool true]) rfl (by kernel_rfl) (by kernel_rfl) (by kernel_rfl) rfl (fun y h=>hFC y h.1) (fun y hy=>by go_simp) ?_
    simp only [puts]
    refine RC.run_take (i:=6) (planV (valP f m n s)) rfl (by kernel_rfl) (by kernel_rfl) (by kernel_rfl) rfl (fun y h=>hFC y h.1) (fun y hy=>by go_simp) ?_
    simp only [puts]
    refine RC.run_take (i:=7) (.bool true) rfl (by kernel_rfl) (by kernel_rfl) (by kernel_rfl) rfl (fun y h=>hFC y h.1) (fun y hy=>by go_simp) ?_
    simp only [puts]
    refine RC.run_only (i:=9) (by kernel_rfl) (RC_at_store (fun y=>Below B.heap.size B y∧RowIs y b7 (planRow (valP f m n s)) 77) rfl rfl (fun y _ h hb=>⟨h.1.trans (hb.mono h.1.size),RowIs.below h.2 hb⟩) (fun y h=>hFC y h.1) (fun y hy => ?_) ?_)
    ·obtain ⟨h1,h2⟩:=hy
     have r2:RowIs y b7 (planRow fun _=>0) 77:=h2
     obtain ⟨⟨l0,l1,l2,l3⟩,lz⟩:=row4 r2
     obtain ⟨f0,f1,f2,f3⟩:=row4f r2
     refine ⟨put4 y b7 (valP f m n s),by go_simp; rfl,h1.trans (put4_below hb7 _),put4_row r2 _⟩
    simp only [puts]
    refine RC.run_only (i:=10) (by kernel_rfl) (RC.at_quiet (.bool true) rfl (.inl ⟨rfl,fun y hy=>by go_simp; exact ⟨rfl,rfl⟩⟩) ?_)
    simp only [puts]
    refine ⟨by kernel_rfl,fun y hy => ?_⟩
    exact ⟨rfl,hy.1,b7,s,Bm,hb7,hs,hy.2,rfl⟩
  rintro e a' y ⟨rfl,hy,b7,s,Bm,hb7,hs,hr7,rfl⟩
  dsimp only
  have y1:y.cell? ⟨w.heap.size,0,none⟩=some (.slice a m cap):=(hFC y hy).2.2
  have y2:y.cell? ⟨w.heap.size+1+1,0,none⟩=some (.map (some (w.heap.size+1))):=(hFC y hy).2.1
  have hwB:w.heap.size+5≤B.heap.size:=by omega
  have hyz:=hy.size
  have z1:w.heap.size<y.heap.size:=by omega
  have z2:w.heap.size+1+1<y.heap.size:=by omega
  obtain ⟨⟨p0,p1,p2,p3⟩,pz⟩:=row4 hr7
  have fs:=valP_few HO.out s
  have HSu:=Lib.hid (sure_c a m n cap f (valP f m n s) y (HfB.out.below hy) HO.out fs.in8 fs.some_)
  obtain ⟨vN,hvN⟩ : ∃ v,ratN (sureN f m n (valP f m n s)) (sumI (valP f m n s) m)=v:=⟨_,rfl⟩
  obtain ⟨vD,hvD⟩ : ∃ v,ratD (sureN f m n (valP f m n s)) (sumI (valP f m n s) m)=v:=⟨_,rfl⟩
  unfold ratV at HSu
  rw [hvN,hvD] at HSu
  have Hy:=Lib.hid hy
  have HS:=Lib.hid hs
  clear hy hr7 hs fs
  gi_wp2_with fail
  refine ⟨trivial,(callsIn_wide.2 HSu.out).mono ?_⟩
  rintro e y3 ⟨rfl,hy3⟩
  obtain ⟨Y,hY⟩ : ∃ Y,(y3.alloc (.cells #[.int .i64 vN, .int .i64 vD] 30)).alloc (.cells #[.int .i64 0, .int .i64 0, .int .i64 0, .int .i64 0, .int .i64 0] 100)=Y:=⟨_,rfl⟩
  have hYb:Below y3.heap.size y3 Y:=by rw [← hY]; exact Below.alloc1 (Below.alloc1 (Below.refl _ _) _ (Nat.le_refl _)) _ (Nat.le_refl _)
  have r9:RowIs Y y3.heap.size #[.int .i64 vN, .int .i64 vD] 30:=by rw [← hY]; exact RowIs.alloc (heap_new_at _ _ _ rfl) _
  have r10:RowIs Y (y3.heap.size+1) #[.int .i64 0, .int .i64 0, .int .i64 0, .int .i64 0, .int .i64 0] 100:=by rw [← hY]; exact heap_new_at _ _ _ (by simp)
  have hYz:Y.heap.size=y3.heap.size+2:=by rw [← hY]; simp
  obtain ⟨Z,hZ⟩ : ∃ Z,y3.heap.size=Z:=⟨_,rfl⟩
  rw [hZ] at hYb r9 r10 hYz
  have hBZ:B.heap.size≤Z:=by have:=hy3.size; omega
  have hBY:Below B.heap.size B Y:=(Hy.out.trans (hy3.mono Hy.out.size)).trans (hYb.mono hBZ)
  have y4:Y.cell? ⟨w.heap.size+1+1,0,none⟩=some (.map (some (w.heap.size+1))):=(hFC Y hBY).2.1
  obtain ⟨Dm,hown,s1,s2,s3⟩:=HP.out.block (hBY.block (w.heap.size+1) (by omega))
  have S1:=Lib.hid s1
  have S2:=Lib.hid s2
  have S3:=Lib.hid s3
  have R9:=Lib.hid r9
  have R10:=Lib.hid r10
  have HBY:=Lib.hid hBY
  clear s1 s2 s3 r9 r10 hBY hYb p0 p1 p2 p3 pz y1 y2 z1 z2 hy3
  gi_wp2_with (first
   | (gi_at_range; refine wpListIn_range_own _ rfl _ 109 rfl 112 77 keyedC Try.underlying109 heldR (w.heap.size+1) N _ rfl hown ?_; intro w0 hrg0 hg0 hs0)
   | fail)
  try go_frame
  have HYz:=Lib.hid hYz
  have hYZ:Z+2≤Y.heap.size:=by omega
  clear hYz
  have hw0b:Below Y.heap.size Y w0:=⟨hg0.os,hg0.tape,hg0.output,hg0.size,fun k hk=>hg0.block k hk (by simp)⟩
  gi_loopw [40] (fun _ wr=> ∃ (left:Lit→Bool) (cnt:Nat) (D:DataW Value),wr.ranges Try.prog 112 heldR (w.heap.size+1) Y.heap.size N D left cnt∧Struck f m n D left∧Fixed a m cap w B W.heap.size Z vN vD wr)
   (fun _ wr=>wr.rangeLeft (w.heap.size+1) Y.heap.size)
  case atStart=>
   exact ⟨_,_,_,hrg0,struck_start S2.out S3.out,Fixed.start HD.out HM.out HDF.out hBZ (by omega) (by omega) (HBY.out.trans (hw0b.mono (by omega))) (R9.out.below hw0b) (R10.out.below hw0b) HB.out⟩
  case round=>
   obtain ⟨left,cnt,D,hrg,hSt,hFx⟩:=hrel
   gi_wp2_with (first
    | (gi_at_next; refine wpListIn_next_ranges _ rfl _ rfl 112 keyedC heldR k9V (id:Value→Value) (fun key kl hk=>by obtain ⟨p,hp,_⟩:=keyOf_inv hk; exact ⟨p,hp⟩) (fun v y hy=>⟨v,rfl⟩) (w.heap.size+1) Y.heap.size N _ _ _ rfl hrg ?_ ?_)
    | fail)
   ·intro hc0 hl0
    obtain ⟨f1,f2,f3,_,f5,f6,_,_,f9,_⟩:=hFx
    have m0:wr.cell? ⟨w.heap.size+1+1,0,none⟩=some (.map (some (w.heap.size+1))):=f2.cell 0
    have HO2:=Lib.hid hrg.owns
    have HSt:=Lib.hid hSt
    have F5:=Lib.hid f5
    have F6:=Lib.hid (show wr.heap[w.heap.size+3]? = some (.deferred (some [])) by rw [← hWz]; exact f6)
    clear hrg hSt f1 f2 f3 f5 f6
    gi_wp2
    refine ⟨by simp, .inl ⟨_,_,rfl,run_takeDeferred F6.out,?_⟩⟩
    have hne:w.heap.size+1 ≠ w.heap.size+3:=by omega
    refine ⟨_,results_tmp rfl _ _ _,w.heap.size+1,N,rfl,Plans.block (w:=wr) ⟨D,HO2.out,?_,?_,?_⟩ (World.putObj_heap_other hne),Nat.le_trans hN (choL_few HO.out.m4 HO.out.n4),F5.out.trans (below_put _ (by omega))⟩
    ·exact fun p hp=>S1.out p hp.1
    ·intro p hp
     refine (HSt.out.1 p hp).trans ⟨fun h => ?_,fun h=>⟨h.1, .inl h⟩⟩
     rcases h.2 with h2 | h2
     ·exact h2
     ·rw [hl0] at h2; cases h2
    ·exact fun p hp=>HSt.out.2.2 p hp.1 (.inl hp)
   ·intro x c kl yd yp w1 cnt1 hkey hlk hv hat hrg1 hlt hg1 hs1 hen
    obtain ⟨q,hq,hok,rfl⟩:=keyOf_inv hkey
    obtain rfl:=K9.ext' hq
    have hSx:Fnd f m n x:=hSt.2.1 x hok hlk
    obtain rfl:c=planV (valP f m n x):=by
     have e1:=hSt.2.2 x hSx (.inr hlk)
     rw [hat] at e1
     simp [heldR] at hv
     rw [← hv.1] at e1
     simpa using e1
    have hF1:=hFx.other (r:=Y.heap.size) hg1 (.inr (by omega))
    obtain ⟨V,hV⟩ : ∃ V,(w1.alloc (.cells (k9Row x) 112)).alloc (.cells (planRow (valP f m n x)) 77)=V:=⟨_,rfl⟩
    have hVb:Below w1.heap.size w1 V:=by rw [← hV]; exact Below.alloc1 (Below.alloc1 (Below.refl _ _) _ (Nat.le_refl _)) _ (Nat.le_refl _)
    have hrV:V.ranges Try.prog 112 heldR (w.heap.size+1) Y.heap.size N D (fun z=>left z && !z.sameKey (keyL x)) cnt1:=by rw [← hV]; exact (hrg1.alloc _).alloc _
    have hFV:=hF1.grow hVb
    have hZw1:Z+1<w1.heap.size:=by obtain ⟨_,_,_,⟨_,_,_,_,_,h4⟩,_⟩:=hF1; exact h4.lt
    have v11:RowIs V w1.heap.size (k9Row x) 112:=by rw [← hV]; exact RowIs.alloc (heap_new_at _ _ _ rfl) _
    have v12:RowIs V (w1.heap.size+1) (planRow (valP f m n x)) 77:=by rw [← hV]; exact heap_new_at _ _ _ (by simp)
    have HSt:=Lib.hid hSt
    have HrV:=Lib.hid hrV
    have HFV:=Lib.hid hFV
    have V11:=Lib.hid v11
    have V12:=Lib.hid v12
    have Hlt:=Lib.hid (show cnt1<wr.rangeLeft (w.heap.size+1) Y.heap.size by rw [hrg.left_eq]; exact hlt)
    have Hlk:=Lib.hid hlk
    have Hok:=Lib.hid hok
    have HSx:=Lib.hid hSx
    clear hq hg1 hat hrg hlt hrg1 hkey hv hrg0 hg0 hown hs1 hs0 hlk hSt hrV hFV hF1 v11 v12 hok hSx hVb hFx
    obtain ⟨c1,c2,c3,⟨x0,x1,x2,x3,x4,c4⟩,c5,c6,g7,g8,g9,g10⟩:=HFV.out
    have v1:V.cell? ⟨w.heap.size,0,none⟩=some (.slice a m cap):=c1.cell 0
    have v1z:=c1.lt
    obtain ⟨⟨p0,p1,p2,p3⟩,pz⟩:=row4 V12.out
    have fx:=valP_few HO.out x
    have HWe:=Lib.hid (weigh_c a m n cap (Z+1) w.heap.size f (valP f m n x) _ _ _ _ _ _ V (fun x h=>Hf.out.below (c5.trans h)) (by omega) (by omega) HO.out fx.in8 c4)
    have fb:=few_sure HO.out fx
    have fp:=fx.pos
    have HLe:=Lib.hid (fun (y:World) (h:Below w.heap.size w y)=>least_c a m n cap f (lossF f n (valP f m n x) m) y (Hf.out.below h) HO.out (by rw [loss_least HO.out]; omega) (by rw [loss_least HO.out]; omega) (by rw [loss_sum HO.out]; omega) (by rw [loss_sum HO.out]; omega))
    rw [loss_least HO.out,loss_sum HO.out] at HLe
    clear c1 c2 c3 c4 c5 c6 fx fb fp
    gi_wp2_with fail
    refine ⟨trivial,(callsIn_wide.2 HWe.out).mono ?_⟩
    rintro e Y1 ⟨rfl,hr1,hg1⟩
    have hrg1:=HrV.out.kept hg1 (by simp; omega) (by simp; omega)
    have hF1:=HFV.out.sums hg1 hr1
    obtain ⟨c1,c2,c3,_,c5,_⟩:=hF1
    have u1:Y1.cell? ⟨w.heap.size,0,none⟩=some (.slice a m cap):=c1.cell 0
    have u1z:=c1.lt
    have u9:Y1.cell? ⟨Z,0,none⟩=some (.int .i64 vN):=c3.cell 0
    have u9':Y1.cell? ⟨Z,1,none⟩=some (.int .i64 vD):=c3.cell 1
    have u9z:=c3.lt
    have hk9:=Lib.hid (show RowIs Y1 w1.heap.size (k9Row x) 112 from (hg1.block _ V11.out.lt (by simp; omega)).trans V11.out)
    have hm2:=Lib.hid c2
    have hlc:=fun (x:Later Y1)=>later_cell x
    obtain ⟨lo,hlo⟩ : ∃ g,lossF f n (valP f m n x) m=g:=⟨_,rfl⟩
    rw [hlo] at hr1 HLe
    have l0:Y1.cell? ⟨Z+1,0,none⟩=some (.int .i64 (lo 0)):=hr1.cell 0
    have l1:Y1.cell? ⟨Z+1,1,none⟩=some (.int .i64 (lo 1)):=hr1.cell 1
    have l2:Y1.cell? ⟨Z+1,2,none⟩=some (.int .i64 (lo 2)):=hr1.cell 2
    have l3:Y1.cell? ⟨Z+1,3,none⟩=some (.int .i64 (lo 3)):=hr1.cell 3
    have l4:Y1.cell? ⟨Z+1,4,none⟩=some (.int .i64 (lo 4)):=hr1.cell 4
    have lz:=hr1.lt
    have HLe2:=Lib.hid (fun (x:Later Y1)=>HLe.out x.w (c5.trans (x.h.mono c5.size)))
    obtain ⟨nN,hnN⟩ : ∃ v,ratN (sureN f m n (valP f m n x)) (sumI (valP f m n x) m)=v:=⟨_,rfl⟩
    obtain ⟨nD,hnD⟩ : ∃ v,ratD (sureN f m n (valP f m n x)) (sumI (valP f m n x) m)=v:=⟨_,rfl⟩
    unfold ratV at HLe2
    rw [hnN,hnD] at HLe2
    have C5:=Lib.hid c5
    have HF1:=Lib.hid (HFV.out.sums hg1 hr1)
    have Hrg1:=Lib.hid hrg1
    have heq:=fun w=>eqRat nN nD vN vD w
    obtain ⟨q,hq⟩ : ∃ q,(nN==vN && nD==vD)=q:=⟨_,rfl⟩
    simp only [hq] at heq
    have HQ:=Lib.hid hq
    clear hq
    clear c1 c2 c3 c5 hr1 hg1 hrg1 p0 p1 p2 p3 pz v1 v1z
    gi_wp2_with fail
    refine (wpIn_wide (n:=1)).2 ?_
    refine wp_region_later (by kernel_rfl) (by kernel_rfl) ?_
    repeat (go_big_quiet_step (with_reducible refine calls_later (HLe2.out _)))
    refine wpQuiet_nil ?_
    clear hlc HLe HLe2 HWe
    rintro ⟨Y2,hY2⟩
    dsimp only
    have hrg2:=Hrg1.out.kept (World.grownBy_of_below3 (r:=none) hY2) (by simp) (by simp)
    have hF2:=HF1.out.grow hY2
    have hbs:=best_same HO.out HS.out HSx.out
    rw [hnN,hnD,hvN,hvD] at hbs
    have m2:Y2.cell? ⟨w.heap.size+1+1,0,none⟩=some (.map (some (w.heap.size+1))):=(hm2.out.below hY2).cell 0
    obtain ⟨z0,z1,z2,z3,z4,z5,z6,z7,z8,z9⟩:=row9 (hk9.out.below hY2)
    have Hrg2:=Lib.hid hrg2
    have HF2:=Lib.hid hF2
    have hkey:=keyOf_choice Hok.out
    clear hF2 heq l0 l1 l2 l3 l4 lz u1 u1z u9 u9' u9z hnN hnD
    have hq:=HQ.out
    clear HQ
    cases q with
    | true=>
      have hB:Bst f m n x:=hbs.1 (by simpa using hq)
      have HBx:=Lib.hid hB
      clear hbs hB hrg2 hq
      gi_wp2_with fail
      go_roundw
      case rel=>exact ⟨_,cnt1,D,Hrg2.out,struck_keep S1.out HSt.out Hok.out HBx.out,HF2.out⟩
      case measure=>rw [Hrg2.out.left_eq]; exact Hlt.out
    | false=>
      have hB : ¬ Bst f m n x:=fun h=>by
       have:=hbs.2 h
       simp [this] at hq
      have HBx:=Lib.hid hB
      clear hbs hB hq
      gi_wp2_with (first
       | (gi_at_delete; refine wpListIn_delete_ranges _ rfl _ _ 109 112 rfl 77 keyedC Try.underlying109 heldR (w.heap.size+1) Y.heap.size N _ _ _ rfl hrg2 (k9V x) (keyL x) rfl hkey ?_; intro w5 cnt5 hrg5 hlt5 hg5)
       | fail)
      simp only [Act.put]
      go_roundw
      case rel=>exact ⟨_,cnt5,_,hrg5,struck_del S1.out HSt.out Hok.out HBx.out,HF2.out.other hg5.grown (.inl rfl)⟩
      case measure=>rw [hrg5.left_eq]; have:=Hlt.out; omega
end Go.Proofs.Ytkbbhihndigmeaa
