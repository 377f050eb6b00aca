/- Words that all texts of this seat share: slices that read as a function of their index, sums, draws. It imports nothing of the program. -/
import Derived.WalkKit
import Derived.WalkSpells
import Derived.WalkLawsBesides
import Derived.BigQuiet
import Derived.Deep.QuietTactic
import Derived.Lib.Hide
import Derived.StillTail
import Derived.Deep.RegionHeld3
import Derived.Deep.AppendLies
import Derived.OrdersIn
import Derived.RangeFuncCalls
namespace Go.Proofs.Ytkbbhihndigmeaa
open Go.RowKit
theorem puts:(∀ (a:Act) (d:Tmp) (v:Value),a.put (some d) v = { a with tmps:=a.tmps.setIfInBounds d v })∧(∀ (a:Act) (v:Value),a.put none v=a) ∧
 (∀ (α : Type) (l:List α) (i:Nat) (h:i<l.toArray.size),l.toArray[i]=l[i]'(by simpa using h)) ∧
 (∀ (α : Type) (x : α) (l:List α) (h:0<(x :: l).length),(x :: l)[0]=x) ∧
 (∀ (α : Type) (x : α) (l:List α) (i:Nat) (h:i+1<(x :: l).length),(x :: l)[i+1]=l[i]'(by simpa using h)) ∧
 (∀ (α : Type) (l:List α) (i:Nat) (x : α),l.toArray.setIfInBounds i x=(l.set i x).toArray) ∧
 (∀ (α : Type) (x y : α) (l:List α),(x :: l).set 0 y=y :: l) ∧
 (∀ (α : Type) (x y : α) (l:List α) (i:Nat),(x :: l).set (i+1) y=x :: l.set i y):=
 ⟨fun _ _ _=>rfl,fun _ _=>rfl,fun _ _ _ _=>rfl,fun _ _ _ _=>rfl,fun _ _ _ _ _=>rfl,fun _ _ _ _=>by simp,fun _ _ _ _=>rfl,fun _ _ _ _ _=>rfl⟩
def Cells (w:World) (a:Option Addr) (n:Nat) (f:Nat→Value):Prop:=
 n=0 ∨ ∃ b off,a=some ⟨b,off,none⟩∧b<w.heap.size ∧ ∀ i,i<n→w.cell? ⟨b,off+i,none⟩=some (f i)
def Ints (w:World) (a:Option Addr) (n:Nat) (f:Nat→Int):Prop:=Cells w a n fun i=> .int .i64 (f i)
theorem Cells.below {w w':World} {a:Option Addr} {n:Nat} {f:Nat→Value} (h:Cells w a n f) (hb:Below w.heap.size w w'):Cells w' a n f:=by
 rcases h with h | ⟨b,off,rfl,hlt,hc⟩
 ·exact .inl h
 ·exact .inr ⟨b,off,rfl,Nat.lt_of_lt_of_le hlt hb.size,fun i hi=>(hb.cell (p:=⟨b,off+i,none⟩) hlt).trans (hc i hi)⟩
theorem Cells.at {w:World} {a:Option Addr} {n:Nat} {f:Nat→Value} (h:Cells w a n f) (i:Nat) (hi:i<n) :
 ∃ b off,a=some ⟨b,off,none⟩∧b<w.heap.size ∧ ∀ i,i<n→w.cell? ⟨b,off+i,none⟩=some (f i):=by
 rcases h with h | h
 ·omega
 ·exact h
def sumF (f:Nat→Int):Nat→Int
 | 0=>0
 | k+1=>sumF f k+f k
theorem sumF_bd (f:Nat→Int) (B:Int) : ∀ k,(∀ i,i<k → -B≤f i∧f i≤B) → -(B*k)≤sumF f k∧sumF f k≤B*k
 | 0,_=>by simp [sumF]
 | k+1,h=>by
   have:=sumF_bd f B k fun i hi=>h i (by omega)
   have h2:=h k (by omega)
   simp only [sumF]
   rw [show B*((k+1:Nat):Int)=B*k+B by rw [Int.natCast_add,Int.mul_add]; simp]
   omega
theorem drewN_drewN (w:World) (n m:Nat):(w.drewN n).drewN m=w.drewN (n+m):=by
 simp [World.drewN,Nat.add_assoc]
theorem ret_i {k:IntKind} {a b:Int} (h:a=b):Ending.returned (.int k a) = .returned (.int k b):=by rw [h]
theorem bcell {W w1:World} (hb:Below W.heap.size W w1):(∀ b o,b<W.heap.size→w1.cell? ⟨b,o,none⟩=W.cell? ⟨b,o,none⟩)∧(∀ b o,b<W.heap.size→w1.frozen? ⟨b,o,none⟩=W.frozen? ⟨b,o,none⟩):=
 ⟨fun b o h=>hb.cell (p:=⟨b,o,none⟩) h,fun b o h=>hb.frozen (p:=⟨b,o,none⟩) h⟩
theorem ret_b {a b:Bool} (h:a=b):Ending.returned (.bool a) = .returned (.bool b):=by rw [h]
structure M5 where
 p:Int
 l0:Int
 l1:Int
 c0:Int
 c1:Int
def Metals (w:World) (a:Option Addr) (n:Nat) (m:Nat→M5):Prop:=
 n=0 ∨ ∃ b off,a=some ⟨b,off,none⟩∧b<w.heap.size ∧ ∀ i,i<n →
  w.cell? ⟨b,off+i*5,none⟩=some (.int .i64 (m i).p)∧w.cell? ⟨b,off+i*5+1,none⟩=some (.int .i64 (m i).l0)∧w.cell? ⟨b,off+i*5+2,none⟩=some (.int .i64 (m i).l1) ∧
  w.cell? ⟨b,off+i*5+3,none⟩=some (.int .i64 (m i).c0)∧w.cell? ⟨b,off+i*5+4,none⟩=some (.int .i64 (m i).c1)
theorem Metals.below {w w':World} {a:Option Addr} {n:Nat} {m:Nat→M5} (h:Metals w a n m) (hb:Below w.heap.size w w'):Metals w' a n m:=by
 rcases h with h | ⟨b,off,rfl,hlt,hc⟩
 ·exact .inl h
 ·refine .inr ⟨b,off,rfl,Nat.lt_of_lt_of_le hlt hb.size,fun i hi => ?_⟩
  obtain ⟨h0,h1,h2,h3,h4⟩:=hc i hi
  exact ⟨(hb.cell hlt).trans h0,(hb.cell hlt).trans h1,(hb.cell hlt).trans h2,(hb.cell hlt).trans h3,(hb.cell hlt).trans h4⟩
theorem Metals.at {w:World} {a:Option Addr} {n:Nat} {m:Nat→M5} (h:Metals w a n m) (i:Nat) (hi:i<n) :
 ∃ b off,a=some ⟨b,off,none⟩∧b<w.heap.size ∧
 w.cell? ⟨b,off+i*5,none⟩=some (.int .i64 (m i).p)∧w.cell? ⟨b,off+i*5+1,none⟩=some (.int .i64 (m i).l0)∧w.cell? ⟨b,off+i*5+2,none⟩=some (.int .i64 (m i).l1) ∧
 w.cell? ⟨b,off+i*5+3,none⟩=some (.int .i64 (m i).c0)∧w.cell? ⟨b,off+i*5+4,none⟩=some (.int .i64 (m i).c1):=by
 rcases h with h | ⟨b,off,rfl,hlt,hc⟩
 ·omega
 ·exact ⟨b,off,rfl,hlt,hc i hi⟩
def rangeB (lo hi:Int):Bool:=decide (0≤lo∧lo≤hi∧hi≤1000)
def badB (m:M5):Bool:=decide (m.p<0∨1000<m.p) || !rangeB m.l0 m.l1 || !rangeB m.c0 m.c1
def anyBad (m:Nat→M5):Nat→Bool
 | 0=>false
 | k+1=>anyBad m k || badB (m k)
def metalsE (n:Nat) (m:Nat→M5):Int:=if n<1∨6<n then 6 else if anyBad m n then 3 else 0
def touchE (l c:Int):Int:=if l<0∨1000<l∨c<0∨1000<c then 3 else 0
theorem anyBad_of (m:Nat→M5) (k:Nat) : ∀ n,k<n→badB (m k)=true→anyBad m n=true
 | 0,h,_=>by omega
 | n+1,h,hb=>by
   by_cases e:k=n
   ·subst e; simp [anyBad,hb]
   ·simp [anyBad,anyBad_of m k n (by omega) hb]
theorem Below.alloc1 {B:Nat} {a w:World} (h:Below B a w) (o:Obj) (hB:B≤a.heap.size):Below B a (w.alloc o):=h.alloc (Nat.le_trans hB h.size) o
def ratN (n d:Int):Int:=n.tdiv (Int.gcd n d)
def ratD (n d:Int):Int:=d / (Int.gcd n d)
abbrev ratV (n d:Int):Value:= .agg #[.int .i64 (ratN n d), .int .i64 (ratD n d)]
theorem gcd_bd (n d:Int) (hd:0<d):0<(Int.gcd n d:Int)∧(Int.gcd n d:Int)≤d:=by
 refine ⟨?_,Int.le_of_dvd hd (Int.gcd_dvd_right n d)⟩
 have:=Int.gcd_pos_of_ne_zero_right n (b:=d) (by omega)
 omega
theorem bup {W w1 w2:World} (h:Below W.heap.size W w1) (k:Below w1.heap.size w1 w2):Below W.heap.size W w2:=h.trans (k.mono h.size)
theorem mul_bd {x y A B:Int} (hx:0≤x) (hx':x≤A) (hy:0≤y) (hy':y≤B):0≤x*y∧x*y≤A*B:=
 ⟨Int.mul_nonneg hx hy,Int.mul_le_mul hx' hy' hy (Int.le_trans hx hx')⟩
theorem sumF_nn (f:Nat→Int) (B:Int) : ∀ k,(∀ i,i<k→0≤f i∧f i≤B)→0≤sumF f k∧sumF f k≤B*k
 | 0,_=>by simp [sumF]
 | k+1,h=>by
   have:=sumF_nn f B k fun i hi=>h i (by omega)
   have h2:=h k (by omega)
   simp only [sumF]
   rw [show B*((k+1:Nat):Int)=B*k+B by rw [Int.natCast_add,Int.mul_add]; simp]
   omega
def bothE (n:Nat) (m:Nat→M5) (l c:Int):Int:=if metalsE n m ≠ 0 then metalsE n m else touchE l c
def anyOut (f:Nat→Int):Nat→Bool
 | 0=>false
 | k+1=>anyOut f k || decide (f k<0∨1000000<f k)
def mixE (n len:Nat) (f:Nat→Int):Int:=if len ≠ n then 15 else if anyOut f len then 3 else if sumF f len=0 then 2 else 0
def bad (sure:Bool) (m:M5):Int:=if sure then m.l1 else m.l0
def good (sure:Bool) (m:M5):Int:=if sure then m.c0 else m.c1
def priceF (m:Nat→M5) (f:Nat→Int) (n:Nat):Int:=sumF (fun i=>f i*(m i).p) n
def leadF (sure:Bool) (m:Nat→M5) (f:Nat→Int) (n:Nat):Int:=sumF (fun i=>f i*bad sure (m i)) n
def copperF (sure:Bool) (m:Nat→M5) (f:Nat→Int) (n:Nat):Int:=sumF (fun i=>f i*good sure (m i)) n
def goodB (sure:Bool) (n:Nat) (m:Nat→M5) (l c:Int) (f:Nat→Int):Bool:=
 decide (leadF sure m f n≤l*sumF f n∧c*sumF f n≤copperF sure m f n)
theorem anyOut_of (f:Nat→Int) (k:Nat) : ∀ n,k<n→(f k<0∨1000000<f k)→anyOut f n=true
 | 0,h,_=>by omega
 | n+1,h,hb=>by
   by_cases e:k=n
   ·subst e; simp [anyOut,hb]
   ·simp [anyOut,anyOut_of f k n (by omega) hb]
theorem anyOut_no (f:Nat→Int) : ∀ n,anyOut f n=false → ∀ i,i<n→0≤f i∧f i≤1000000
 | 0,_,i,hi=>by omega
 | n+1,h,i,hi=>by
   simp only [anyOut,Bool.or_eq_false_iff,decide_eq_false_iff_not] at h
   by_cases e:i=n
   ·subst e; omega
   ·exact anyOut_no f n h.1 i (by omega)
def Fine (n:Nat) (m:Nat→M5):Prop:=1≤n∧n≤6 ∧ ∀ i,i<n→0≤(m i).p∧(m i).p≤1000∧0≤(m i).l0∧(m i).l0≤(m i).l1∧(m i).l1≤1000∧0≤(m i).c0∧(m i).c0≤(m i).c1∧(m i).c1≤1000
theorem anyBad_no (m:Nat→M5) : ∀ n,anyBad m n=false → ∀ i,i<n→badB (m i)=false
 | 0,_,i,hi=>by omega
 | n+1,h,i,hi=>by
   simp only [anyBad,Bool.or_eq_false_iff] at h
   by_cases e:i=n
   ·subst e; exact h.2
   ·exact anyBad_no m n h.1 i (by omega)
theorem fine_of {n:Nat} {m:Nat→M5} (h:metalsE n m=0):Fine n m:=by
 unfold metalsE at h
 split at h
 ·omega
 ·split at h
  ·omega
  ·rename_i h1 h2
   refine ⟨by omega,by omega,fun i hi => ?_⟩
   have:=anyBad_no m n (by simpa using h2) i hi
   simp [badB,rangeB] at this
   omega
theorem Cells.drewN {w:World} {a:Option Addr} {n:Nat} {f:Nat→Value} (h:Cells w a n f) (q:Nat):Cells (w.drewN q) a n f:=h.below (below_drewN (Below.refl _ _) q)
theorem Metals.drewN {w:World} {a:Option Addr} {n:Nat} {m:Nat→M5} (h:Metals w a n m) (q:Nat):Metals (w.drewN q) a n m:=h.below (below_drewN (Below.refl _ _) q)
structure Later (w0:World) where
 w:World
 h:Below w0.heap.size w0 w
instance laterNonempty (w0:World):Nonempty (Later w0):=⟨⟨w0,Below.refl _ _⟩⟩
theorem later_cell {w0:World} (x:Later w0) (b o:Nat) (h:b<w0.heap.size):x.w.cell? ⟨b,o,none⟩=w0.cell? ⟨b,o,none⟩:=x.h.cell (p:=⟨b,o,none⟩) h
theorem wp_region_later {P:Program} {id:Nat} {Q:Exit→Act→World→Prop} {a:Act} {w:World} {l:List Oper} (hm:P.follows .mixedOrders=true) (hB:Region.lexB .any l.toArray=true)
 (h:wpQuiet P l.toArray (fun w'=> ∃ x:Later w,w'=x.w) (fun a'=> ∀ x:Later w,Q .normal a' x.w) l a):(Code.region id l.toArray true).wp P Q a w:=
 wp_region_quiet (C:=fun w'=> ∃ x:Later w,w'=x.w) hm hB ⟨⟨_,(Below.refl _ w).drew⟩,rfl⟩ (by
  have:(fun a'=> ∀ w',(∃ x:Later w,w'=x.w)→Q .normal a' w')=(fun a'=> ∀ x:Later w,Q .normal a' x.w):=by
   funext a'
   exact propext ⟨fun h x=>h _ ⟨x,rfl⟩,fun h _ ⟨x,hx⟩=>hx ▸ h x⟩
  rw [this]
  simpa using h)
theorem calls_later {P:Program} {f:FuncId} {args:Array Value} {w0:World} {x:Later w0} {v:Value}
 (h:Calls P f args x.w fun e w'=>e = .returned v∧Below x.w.heap.size x.w w'):Calls P f args x.w (fun e w''=>e = .returned v ∧ ∃ y:Later w0,w''=y.w):=
 h.mono fun _ w' ⟨he,hb⟩=>⟨he,⟨w',x.h.trans (hb.mono x.h.size)⟩,rfl⟩
theorem calls_later_same {P:Program} {f:FuncId} {args:Array Value} {w0:World} {x:Later w0} {v:Value}
 (h:Calls P f args x.w fun e w'=>e = .returned v∧x.w=w'):Calls P f args x.w (fun e w''=>e = .returned v ∧ ∃ y:Later w0,w''=y.w):=
 h.mono fun _ _ ⟨he,hb⟩=>⟨he,x,hb.symm⟩
theorem calls_later_drew {P:Program} {f:FuncId} {args:Array Value} {w0:World} {x:Later w0} {v:Value}
 (h:Calls P f args x.w fun e w'=>e = .returned v ∧ ∃ q,w'=x.w.drewN q):Calls P f args x.w (fun e w''=>e = .returned v ∧ ∃ y:Later w0,w''=y.w):=
 calls_later (h.mono fun _ _ ⟨he,q,hq⟩=>⟨he,hq ▸ below_drewN (Below.refl _ _) q⟩)
theorem mix_ok {n len:Nat} {f:Nat→Int} (h:mixE n len f=0):len=n∧(∀ i,i<n→0≤f i∧f i≤1000000)∧0<sumF f n:=by
 unfold mixE at h
 split at h
 ·omega
 ·rename_i h1
  split at h
  ·omega
  ·rename_i h2
   split at h
   ·omega
   ·rename_i h3
    have e:len=n:=by omega
    subst e
    have hf:=anyOut_no f len (by simpa using h2)
    have:=sumF_nn f 1000000 len hf
    exact ⟨rfl,hf,by omega⟩
def costR (n:Nat) (m:Nat→M5) (len:Nat) (f:Nat→Int):Int × Int × Int:=
 if metalsE n m ≠ 0 then (0,0,metalsE n m) else if mixE n len f ≠ 0 then (0,0,mixE n len f) else (ratN (priceF m f n) (sumF f n),ratD (priceF m f n) (sumF f n),0)
abbrev re2 (x:Int × Int × Int):Value:= .tuple #[.agg #[.int .i64 x.1, .int .i64 x.2.1], .int .i64 x.2.2]
def deservesE (n:Nat) (m:Nat→M5) (l c:Int) (s:Bool) (len:Nat) (f:Nat→Int):Int:=
 if bothE n m l c ≠ 0 then bothE n m l c else if mixE n len f ≠ 0 then mixE n len f else if goodB s n m l c f then 0 else 17
theorem both_ok {n:Nat} {m:Nat→M5} {l c:Int} (h:bothE n m l c=0):metalsE n m=0∧0≤l∧l≤1000∧0≤c∧c≤1000:=by
 unfold bothE at h
 split at h
 ·omega
 ·rename_i h1
  unfold touchE at h
  split at h
  ·omega
  ·omega
def withinB (lo hi:Int) (f:Nat→Int):Nat→Bool
 | 0=>true
 | k+1=>withinB lo hi f k && decide (lo≤f k∧f k≤hi)
theorem within_no (lo hi:Int) (f:Nat→Int) (k:Nat) : ∀ n,k<n→(f k<lo∨hi<f k)→withinB lo hi f n=false
 | 0,h,_=>by omega
 | n+1,h,hb=>by
   by_cases e:k=n
   ·subst e
    have:decide (lo≤f k∧f k≤hi)=false:=by simp; omega
    simp only [withinB,this,Bool.and_false]
   ·simp only [withinB,within_no lo hi f k n (by omega) hb,Bool.false_and]
def gcdF (f:Nat→Int):Nat→Nat
 | 0=>0
 | k+1=>Int.gcd (gcdF f k) (f k)
def divF (f:Nat→Int) (n:Nat):Int:=max (gcdF f n) 1
theorem gcd_tstep (d n:Int):Int.gcd n (d.tmod n)=Int.gcd d n:=by
 unfold Int.gcd
 rw [Int.natAbs_tmod,Nat.gcd_comm d.natAbs,Nat.gcd_rec n.natAbs d.natAbs,Nat.gcd_comm]
theorem ints_new (w:World) (T:TypeId) (m:Nat × Nat) (xs:List Int):Ints (w.alloc (.cells (xs.map (Value.int .i64)).toArray T m)) (some ⟨w.heap.size,0,none⟩) xs.length (fun i=>xs.getD i 0):=by
 refine .inr ⟨w.heap.size,0,rfl,by simp,fun i hi => ?_⟩
 have:(w.alloc (.cells (xs.map (Value.int .i64)).toArray T m)).heap[w.heap.size]? = some (.cells (xs.map (Value.int .i64)).toArray T m):=by
  show (w.heap.push _)[w.heap.size]? = _
  simp
 simp only [World.cell?,this,Nat.zero_add]
 simp [List.getD,List.getElem?_eq_getElem hi]
def catF {α : Type} (g:Nat→List α):Nat→List α
 | 0=>[]
 | k+1=>catF g k ++ g k
theorem catF_length {α : Type} (g:Nat→List α) (sz:Nat) (h : ∀ i,(g i).length=sz) : ∀ n,(catF g n).length=n*sz
 | 0=>by simp [catF]
 | n+1=>by simp [catF,catF_length g sz h n,h,Nat.succ_mul]
theorem catF_get {α : Type} (g:Nat→List α) (sz:Nat) (h : ∀ i,(g i).length=sz) (i j:Nat) (hj:j<sz) : ∀ n,i<n→(catF g n)[i*sz+j]? = (g i)[j]?
 | 0,hi=>by omega
 | n+1,hi=>by
   simp only [catF]
   by_cases e:i=n
   ·subst e
    rw [List.getElem?_append_right (by rw [catF_length g sz h]; omega),catF_length g sz h]
    congr 1
    omega
   ·have h1:i*sz+j<n*sz:=by
      have:(i+1)*sz≤n*sz:=Nat.mul_le_mul_right _ (by omega)
      rw [Nat.succ_mul] at this
      omega
    rw [List.getElem?_append_left (by rw [catF_length g sz h]; exact h1)]
    exact catF_get g sz h i j hj n (by omega)
structure U4 where
 q:Int
 p:Int
 l:Int
 c:Int
def U4.cells (u:U4):List Value:=[.int .i64 u.q, .int .i64 u.p, .int .i64 u.l, .int .i64 u.c]
def Units (w:World) (a:Option Addr) (n:Nat) (u:Nat→U4):Prop:=
 n=0 ∨ ∃ b off,a=some ⟨b,off,none⟩∧b<w.heap.size ∧ ∀ i,i<n →
  w.cell? ⟨b,off+i*4,none⟩=some (.int .i64 (u i).q)∧w.cell? ⟨b,off+i*4+1,none⟩=some (.int .i64 (u i).p)∧w.cell? ⟨b,off+i*4+2,none⟩=some (.int .i64 (u i).l) ∧
  w.cell? ⟨b,off+i*4+3,none⟩=some (.int .i64 (u i).c)
theorem Units.below {w w':World} {a:Option Addr} {n:Nat} {m:Nat→U4} (h:Units w a n m) (hb:Below w.heap.size w w'):Units w' a n m:=by
 rcases h with h | ⟨b,off,rfl,hlt,hc⟩
 ·exact .inl h
 ·refine .inr ⟨b,off,rfl,Nat.lt_of_lt_of_le hlt hb.size,fun i hi => ?_⟩
  obtain ⟨h0,h1,h2,h3⟩:=hc i hi
  exact ⟨(hb.cell hlt).trans h0,(hb.cell hlt).trans h1,(hb.cell hlt).trans h2,(hb.cell hlt).trans h3⟩
theorem Units.at {w:World} {a:Option Addr} {n:Nat} {u:Nat→U4} (h:Units w a n u) (i:Nat) (hi:i<n) :
 ∃ b off,a=some ⟨b,off,none⟩∧b<w.heap.size ∧
 w.cell? ⟨b,off+i*4,none⟩=some (.int .i64 (u i).q)∧w.cell? ⟨b,off+i*4+1,none⟩=some (.int .i64 (u i).p)∧w.cell? ⟨b,off+i*4+2,none⟩=some (.int .i64 (u i).l) ∧
 w.cell? ⟨b,off+i*4+3,none⟩=some (.int .i64 (u i).c):=by
 rcases h with h | ⟨b,off,rfl,hlt,hc⟩
 ·omega
 ·exact ⟨b,off,rfl,hlt,hc i hi⟩
theorem Units.drewN {w:World} {a:Option Addr} {n:Nat} {m:Nat→U4} (h:Units w a n m) (q:Nat):Units (w.drewN q) a n m:=h.below (below_drewN (Below.refl _ _) q)
theorem units_of_own {w:World} {base:Nat} {e:TypeId} {g n cap:Nat} {u:Nat→U4} (h:w.ownsRow base e 4 (.slice (some ⟨g,0,none⟩) n cap) n (catF (fun i=>(u i).cells) n)):Units w (some ⟨g,0,none⟩) n u:=by
 have hg:g<w.heap.size:=by
  obtain ⟨_,h2⟩:=h
  rcases h2 with ⟨hv,_⟩ | ⟨g',cap',cur,hv,hb,hh,_⟩
  ·cases hv
  ·cases hv
   exact (Array.getElem?_eq_some_iff.1 hh).1
 refine .inr ⟨g,0,rfl,hg,fun i hi => ?_⟩
 have key : ∀ j,j<4→w.cell? ⟨g,0+i*4+j,none⟩=(u i).cells[j]? := fun j hj=>by
  have h1:i*4+j<n*4:=by omega
  have:=h.cellAt (i*4+j) h1
  rw [catF_get (fun i=>(u i).cells) 4 (fun i=>rfl) i j hj n hi] at this
  rw [Nat.zero_add]
  exact this
 exact ⟨key 0 (by omega),key 1 (by omega),key 2 (by omega),key 3 (by omega)⟩
def unitOf (ml mc:Bool) (m:M5):U4:=⟨1,m.p,if ml then m.l1 else m.l0,if mc then m.c1 else m.c0⟩
end Go.Proofs.Ytkbbhihndigmeaa

namespace Go.Proofs.Ytkbbhihndigmeaa
open Go Go.RowKit
section
variable {P:Program} {ops:Array Oper} {md:Region.Mode} {C:World→Prop}
def HeadQ (P:Program) (md:Region.Mode) (ops:Array Oper) (C:World→Prop) (n:Nat) (L:Array Bool→Act→Prop):Nat→Array Bool→Act→Prop
 | 0,done,a=>L done a
 | f+1,done,a=>Region.ready md ops done ≠ [] ∧ ∀ i ∈ Region.ready md ops done,i<n∧qOp P ops C i (HeadQ P md ops C n L f (done.setIfInBounds i true)) a
theorem headQ_any {n g:Nat} {L:Array Bool→Act→Prop} {Q:Exit→Act→World→Prop} (hL : ∀ done a w,C w→L done a→wpAny P md ops Q g done a w) :
 ∀ (f:Nat) (done:Array Bool) (a:Act) (w:World),C w→HeadQ P md ops C n L f done a→wpAny P md ops Q (f+g) done a w:=by
 intro f
 induction f with
 | zero=>intro done a w hw h; rw [Nat.zero_add]; exact hL _ _ _ hw h
 | succ f ih=>
   intro done a w hw h
   rw [Nat.succ_add]
   exact ⟨fun e=>absurd e h.1,fun i hi=>wpOp_of_qOp hw (fun a' w' hw'=>ih _ a' w' hw') (h.2 i hi).2⟩
theorem headQ_first {n i:Nat} {oi:Oper} {v:Value} {L:Array Bool→Act→Prop} (hi:ops[i]? = some oi) (hsel : ∀ (j:Nat) (o:Oper) cs b,ops[j]? = some o→o.op ≠ .select cs b)
 (hs:Region.sinkB md ops n=true) (hc:Region.chainB md ops n=true) (hn:n<ops.size) (hin:i<n) (hend : ∀ done a,L done a → ∀ j ∈ Region.ready md ops done,n≤j) :
 ∀ (f:Nat) (done:Array Bool) (a:Act),HeadInv md ops n done →
   (∀ j oj,ops[j]? = some oj→j ≠ i→done.getD j true=false→(∀ e ∈ oj.after,Region.binds md e=true→e.on ≠ i)→oi.apart ops oj=true) →
   i ∈ Region.ready md ops done→YieldsIn P ops C oi v a →
   HeadQ P md ops C n L f (done.setIfInBounds i true) (a.put oi.dst v)→HeadQ P md ops C n L (f+1) done a:=by
 intro f
 induction f with
 | zero=>
   intro done a inv _ hr hy H
   have open_:=(mem_ready.1 hr).1
   refine ⟨List.ne_nil_of_mem hr,fun j hj => ?_⟩
   have hjn:j<n:=Nat.lt_of_not_le fun h=>tail_waits hs hc hn inv _ i rfl hin open_ j h hj
   refine ⟨hjn,?_⟩
   rcases Nat.decEq j i with h | h
   ·exact absurd (hend _ _ H j (ready_mono hj h)) (Nat.not_le_of_lt hjn)
   ·subst h; exact hy.qOp hi H
 | succ f ih=>
   intro done a inv free hr hy H
   have open_:=(mem_ready.1 hr).1
   refine ⟨List.ne_nil_of_mem hr,fun j hj => ?_⟩
   have hjn:j<n:=Nat.lt_of_not_le fun h=>tail_waits hs hc hn inv _ i rfl hin open_ j h hj
   refine ⟨hjn,?_⟩
   rcases Nat.decEq j i with h | h
   ·have H1:=(H.2 j (ready_mono hj h)).2
    obtain ⟨jopen,oj,hoj,hall⟩:=mem_ready.1 hj
    have waits : ∀ e ∈ oj.after,Region.binds md e=true→e.on ≠ i:=by
     intro e he hb heq
     have:=hall e he hb
     rw [heq,getD_both open_] at this
     cases this
    have H2:=qOp_put hoj (free j oj hoj h jopen waits) (fun cs b=>hsel i oi cs b hi) (fun cs b=>hsel j oj cs b hoj) hy H1
    refine qOp_mono (fun a' h3=>ih _ a' (inv.set hj hjn) ?_ (ready_mono hr (Ne.symm h)) h3.1 ?_) H2
    ·intro k ok hk hki kopen hno
     refine free k ok hk hki ?_ hno
     rcases Nat.decEq j k with e | e
     ·rwa [getD_set_ne true e] at kopen
     ·rw [← e]; exact jopen
    ·rw [Array.setIfInBounds_comm _ _ h]; exact h3.2
   ·subst h; exact hy.qOp hi H
theorem headQ_lex {n g:Nat} {Lq:Act→Prop} (hsel:Region.noSelect ops=true) (hs:Region.sinkB md ops n=true) (hc:Region.chainB md ops n=true) (hn:n<ops.size) :
 ∀ (l:List Oper) (k:Nat) (done:Array Bool) (a:Act),(∀ j,j<l.length→l[j]? = ops[k+j]?)→k+l.length=n→HeadInv md ops n done →
 Region.lexHead md ops g l.length k done=true→wpQuiet P ops C Lq l a →
 HeadQ P md ops C n (fun done' a'=>Region.seqB md ops g n done'=true∧Lq a') l.length done a:=by
 intro l
 induction l with
 | nil=>
   intro k done a _ hk _ hB h
   obtain rfl:k=n:=by simpa using hk
   exact ⟨by simpa [Region.lexHead] using hB,h⟩
 | cons o l ih=>
   intro k done a hl hk inv hB h
   have h0:ops[k]? = some o:=by simpa using (hl 0 (by simp)).symm
   rw [List.length_cons] at hk
   simp only [List.length_cons,Region.lexHead,Bool.and_eq_true] at hB
   have hkn:k<n:=by omega
   have hr:k ∈ Region.ready md ops done:=by simpa using hB.1.1
   have hq:qOp P ops C k (wpQuiet P ops C Lq l) a:=by unfold qOp; simp only [h0]; exact h
   obtain ⟨v,hy,hK⟩:=yieldsIn_of_qOp h0 hq
   refine headQ_first h0 (Region.noSelect_spec hsel) hs hc hn hkn (fun _ _ hL=>seqB_ready hL.1) l.length done a inv (Region.free_spec h0 hB.1.2) hr hy (ih (k+1) _ _ ?_ (by omega) (inv.set hr hkn) hB.2 hK)
   intro j hj
   have:=hl (j+1) (by simp; omega)
   simpa [Nat.add_assoc,Nat.add_comm 1 j] using this
theorem wp_region_later_tail {id:Nat} {Q:Exit→Act→World→Prop} {a:Act} {w:World} {l:List Oper} (n:Nat) (hm:P.follows .mixedOrders=true) (hB:Region.lexTailB .any l.toArray n=true)
 (h:wpQuiet P l.toArray (fun w'=> ∃ x:Later w,w'=x.w) (fun a'=> ∀ x:Later w,wpList P l.toArray Q (l.drop n) a' x.w) (l.take n) a):(Code.region id l.toArray true).wp P Q a w:=by
 simp only [Region.lexTailB,Bool.and_eq_true,decide_eq_true_eq] at hB
 obtain ⟨⟨⟨⟨hsel,hn⟩,hs⟩,hc⟩,hlex⟩:=hB
 have hn':n<l.length:=by simpa using hn
 have htl:(l.take n).length=n:=by simp; omega
 have hdl:(l.drop n).length=l.toArray.size-n:=by simp
 have inv0:HeadInv .any l.toArray n (Array.replicate l.toArray.size false):=
  ⟨by simp,fun j oj _ hl=>(by rw [getD_replicate_false] at hl; cases hl),fun t _ ht=>getD_in (by simpa using ht) (getD_replicate_false _ _)⟩
 have H:=headQ_lex (md:= .any) (g:=l.toArray.size-n) hsel hs hc hn (l.take n) 0 _ a (fun j hj=>by
  rw [htl] at hj
  simp [hj]) (by simpa using htl) inv0 (by rw [htl]; exact hlex) h
 refine wp_region_any hm ?_
 have:=headQ_any (Q:=Q) (g:=l.toArray.size-n) (fun done a' w' hw' hL=>by
  obtain ⟨x,rfl⟩:=hw'
  have:=wpAny_of_seq (md:= .any) (Q':=Q) (l.drop n) n done a' x.w (fun j=>by simp [List.getElem?_drop]) (by rw [hdl]; exact hL.1) (hL.2 x)
  rwa [hdl] at this) _ _ _ { w with drawn:=w.drawn+1 } ⟨⟨_,(Below.refl _ w).drew⟩,rfl⟩ H
 rw [htl,show n+(l.toArray.size-n)=l.toArray.size by omega] at this
 exact this
end
theorem heap_new_at (w:World) (o:Obj) (s:Nat) (h:w.heap.size=s):(w.alloc o).heap[s]? = some o:=by
 subst h
 show (w.heap.push o)[w.heap.size]? = _
 simp
theorem heap_new_drew (w:World) (o:Obj) (s:Nat) (h:w.heap.size=s):((w.alloc o).drew).heap[s]? = some o:=heap_new_at w o s h
theorem step_append_fits {P:Program} {w:World} {ops:Array Oper} {o:Oper} {a:Act} {K:Act→World→Prop} {Q:Exit→Act→World→Prop} {E:Prop} (hgd:o.guard=none) (s x:Operand) (t:TypeId)
 (hop:o.op = .call { callee:= .builtin .append,args := #[s,x],argTypes := #[t,t] })
 (base:Nat) (e:TypeId) (i:TypeInfo) (size:Nat) (h1:P.underlying t=some (.slice e)) (h2:P.info? e=some i) (h4:i.size=size)
 (g k cap:Nat) (xs:List Value) (hs:a.eval s = .slice (some ⟨g,0,none⟩) k cap) (hown:w.ownsRow base e size (.slice (some ⟨g,0,none⟩) k cap) k xs) (ad:Addr) (m c:Nat) (news:List Value) (hx:a.eval x = .slice (some ad) m c) (hn:news.length=m*size)
 (hc : ∀ j u,news[j]? = some u→w.cell? (ad.add j)=some u) (h1c : ∀ u ∈ news,u.oneCell'=true) (b1:k+m≤cap)
 (hK : ∀ w',w'.ownsRow base e size (.slice (some ⟨g,0,none⟩) (k+m) cap) (k+m) (xs ++ news)→w.grownBy w' (some g)→K (a.put o.dst (.slice (some ⟨g,0,none⟩) (k+m) cap)) w') :
 if Region.wanted o (yielded ops a.tmps)=true then Oper.wp P o a w K Q else E:=by
 have hw:Region.wanted o (yielded ops a.tmps)=true:=by simp [Region.wanted,hgd]
 rw [if_pos hw]
 obtain ⟨w',hrun,r1,r2⟩:=run_append_fits (P:=P) w base t o.type e i size h1 h2 h4 g k cap xs hown ad m c news hn hc h1c b1
 unfold Oper.wp
 simp [execOp,hop,resolve,invoke,builtin,hs,hx,hrun,Result.andThen]
 exact hK w' r1 r2
end Go.Proofs.Ytkbbhihndigmeaa

namespace Go.Proofs.Ytkbbhihndigmeaa
open Go Go.RowKit
def noDefer (ops:Array Oper):Bool:=ops.toList.all fun o=>match o.op with
 | .defer _=>false
 | _=>true
theorem noDefer_at {ops:Array Oper} (h:noDefer ops=true) {i:Nat} {o:Oper} (hi:ops[i]? = some o) (c:Call):o.op ≠ .defer c:=by
 intro e
 have hm:o ∈ ops.toList:=by
  rw [Array.mem_toList_iff]
  exact Array.mem_of_getElem? hi
 have:=List.all_eq_true.1 h o hm
 rw [e] at this
 cases this
section
variable {P:Program} {ops:Array Oper} {md:Region.Mode} {Q:Exit→Act→World→Prop} {l n:Nat}
theorem rowsIn_wide {F:Fence} {P:Program} {row:String} {args:Array Value} {w:World} {R:Value→World→Prop} (hF:F=Fence.wide.inRound l) (h:Rows P row args w R):RowsIn F n P row args w R:=fun c cs _=>by
 subst hF
 obtain ⟨v,w',r,s⟩:=h c cs
 exact ⟨v,w',r,stepsIn_wide.2 s⟩
theorem opIn_of_op {o:Oper} {a:Act} {w:World} {K K':Act→World→Prop} (ho : ∀ c,o.op ≠ .defer c) (hK : ∀ a w,K a w→K' a w) (h:o.wp P a w K Q):o.wpIn (Fence.wide.inRound l) n P a w K' Q:=by
 refine ⟨fun _ _=>trivial,?_⟩
 rw [Oper.semAt_eq _ _ _ ho]
 unfold Oper.wp at h
 generalize (execOp a.eval o).run P w=r at h ⊢
 have hd : ¬ (Fence.wide.inRound l).depth.isSome=true:=by simp [Fence.wide]
 cases r with
 | ok x w'=>
   cases x <;> simp only [Oper.upon] at h <;> simp only [Oper.uponIn]
   case value=>exact hK _ _ h
   case skip=>exact hK _ _ h
   case defer=>exact hK _ _ h
   case enter f args=>
    refine ⟨fun h=>absurd h hd,CallsIn.inRound l (callsIn_wide.2 (h.mono fun e w'' he => ?_))⟩
    cases e with
    | returned v=>exact hK _ _ he
    | panicked chain=>exact he
    | outgrown=>exact he
   case row=>exact ⟨fun h=>absurd h hd,rowsIn_wide rfl (h.mono fun v w'' he=>hK _ _ he)⟩
 | halt x w'=>cases x <;> simp only [Oper.upon] at h <;> simp only [Oper.uponIn] <;> exact h
theorem wpAnyIn_of_any (hd:noDefer ops=true) (hq : ¬ LetsOut Q) : ∀ (fuel:Nat) (listed:Array Bool) (a:Act) (w:World),wpAny P md ops Q fuel listed a w→wpAnyIn (Fence.wide.inRound l) n P md ops Q fuel listed a w
 | 0,_,_,_,h=>h
 | fuel+1,listed,a,w,h=>⟨h.1,fun i hi=>by
     have hop:=h.2 i hi
     unfold wpOp at hop
     unfold wpOpIn
     cases ho:ops[i]? with
     | none=>
       simp only [ho] at hop
       exact wpAnyIn_of_any hd hq fuel _ _ _ hop
     | some o=>
       simp only [ho] at hop ⊢
       split
       ·rename_i hw
        rw [if_pos hw] at hop
        exact opIn_of_op (noDefer_at hd ho) (fun a w=>wpAnyIn_of_any hd hq fuel _ a w) (hop.resolve_right fun h=>hq h.2)
       ·rename_i hw
        rw [if_neg hw] at hop
        exact ⟨fun _ _=>trivial,wpAnyIn_of_any hd hq fuel _ _ _ hop⟩⟩
theorem wpIn_region_anyR {id:Nat} {a:Act} {w:World} (hm:P.follows .mixedOrders=true) (hd:noDefer ops=true) (hq : ¬ LetsOut Q)
 (h:wpAny P .any ops Q ops.size (Array.replicate ops.size false) a { w with drawn:=w.drawn+1 }):(Code.region id ops true).wpIn (Fence.wide.inRound l) n P Q a w:=
 wpIn_region_any hm (wpAnyIn_of_any hd hq _ _ _ _ h)
theorem wpIn_region_laterR {id:Nat} {a:Act} {w:World} {os:List Oper} (hm:P.follows .mixedOrders=true) (hB:Region.lexB .any os.toArray=true) (hd:noDefer os.toArray=true) (hq : ¬ LetsOut Q)
 (h:wpQuiet P os.toArray (fun w'=> ∃ x:Later w,w'=x.w) (fun a'=> ∀ x:Later w,Q .normal a' x.w) os a):(Code.region id os.toArray true).wpIn (Fence.wide.inRound l) n P Q a w:=by
 simp only [Region.lexB,Bool.and_eq_true] at hB
 refine wpIn_region_anyR hm hd hq (wpAny_of_quiet (C:=fun w'=> ∃ x:Later w,w'=x.w) (Q:=fun a'=> ∀ x:Later w,Q .normal a' x.w) (fun _ w' hw' h=>by obtain ⟨x,rfl⟩:=hw'; exact h x) _ _ _ _ ⟨⟨_,(Below.refl _ w).drew⟩,rfl⟩ ?_)
 have:=wpAnyQ_lex (C:=fun w'=> ∃ x:Later w,w'=x.w) (md:= .any) hB.1 os 0 (Array.replicate os.toArray.size false) a (by simp) (by simpa using hB.2) h
 simpa using this
theorem wpIn_region_quietR {id:Nat} {a:Act} {w:World} {os:List Oper} (hm:P.follows .mixedOrders=true) (hB:Region.lexB .any os.toArray=true) (hd:noDefer os.toArray=true) (hq : ¬ LetsOut Q)
 (h:wpQuiet P os.toArray (fun w'=> ∃ q,w'=w.drewN q) (fun a'=> ∀ w',(∃ q,w'=w.drewN q)→Q .normal a' w') os a):(Code.region id os.toArray true).wpIn (Fence.wide.inRound l) n P Q a w:=by
 simp only [Region.lexB,Bool.and_eq_true] at hB
 refine wpIn_region_anyR hm hd hq (wpAny_of_quiet (C:=fun w'=> ∃ q,w'=w.drewN q) (Q:=fun a'=> ∀ w',(∃ q,w'=w.drewN q)→Q .normal a' w') (fun _ w' hw' h=>h w' hw') _ _ _ _ ⟨1,rfl⟩ ?_)
 have:=wpAnyQ_lex (C:=fun w'=> ∃ q,w'=w.drewN q) (md:= .any) hB.1 os 0 (Array.replicate os.toArray.size false) a (by simp) (by simpa using hB.2) h
 simpa using this
theorem any_later_tail {Q:Exit→Act→World→Prop} {a:Act} {w:World} {l:List Oper} (n:Nat) (hB:Region.lexTailB .any l.toArray n=true)
 (h:wpQuiet P l.toArray (fun w'=> ∃ x:Later w,w'=x.w) (fun a'=> ∀ x:Later w,wpList P l.toArray Q (l.drop n) a' x.w) (l.take n) a) :
 wpAny P .any l.toArray Q l.toArray.size (Array.replicate l.toArray.size false) a { w with drawn:=w.drawn+1 } := by
 simp only [Region.lexTailB,Bool.and_eq_true,decide_eq_true_eq] at hB
 obtain ⟨⟨⟨⟨hsel,hn⟩,hs⟩,hc⟩,hlex⟩:=hB
 have hn':n<l.length:=by simpa using hn
 have htl:(l.take n).length=n:=by simp; omega
 have hdl:(l.drop n).length=l.toArray.size-n:=by simp
 have inv0:HeadInv .any l.toArray n (Array.replicate l.toArray.size false):=
  ⟨by simp,fun j oj _ hl=>(by rw [getD_replicate_false] at hl; cases hl),fun t _ ht=>getD_in (by simpa using ht) (getD_replicate_false _ _)⟩
 have H:=headQ_lex (md:= .any) (g:=l.toArray.size-n) hsel hs hc hn (l.take n) 0 _ a (fun j hj=>by
  rw [htl] at hj
  simp [hj]) (by simpa using htl) inv0 (by rw [htl]; exact hlex) h
 have:=headQ_any (Q:=Q) (g:=l.toArray.size-n) (fun done a' w' hw' hL=>by
  obtain ⟨x,rfl⟩:=hw'
  have:=wpAny_of_seq (md:= .any) (Q':=Q) (l.drop n) n done a' x.w (fun j=>by simp [List.getElem?_drop]) (by rw [hdl]; exact hL.1) (hL.2 x)
  rwa [hdl] at this) _ _ _ { w with drawn:=w.drawn+1 } ⟨⟨_,(Below.refl _ w).drew⟩,rfl⟩ H
 rw [htl,show n+(l.toArray.size-n)=l.toArray.size by omega] at this
 exact this
theorem wpIn_region_later_tailR {id:Nat} {a:Act} {w:World} {os:List Oper} (m:Nat) (hm:P.follows .mixedOrders=true) (hB:Region.lexTailB .any os.toArray m=true) (hd:noDefer os.toArray=true) (hq : ¬ LetsOut Q)
 (h:wpQuiet P os.toArray (fun w'=> ∃ x:Later w,w'=x.w) (fun a'=> ∀ x:Later w,wpList P os.toArray Q (os.drop m) a' x.w) (os.take m) a):(Code.region id os.toArray true).wpIn (Fence.wide.inRound l) n P Q a w:=
 wpIn_region_anyR hm hd hq (any_later_tail m hB h)
end
end Go.Proofs.Ytkbbhihndigmeaa

namespace Go.Proofs.Ytkbbhihndigmeaa
open Go Go.RowKit
section
variable {P:Program} {ops:Array Oper} {md:Region.Mode} {w0:World}
theorem later_cell2 {W w1:World} (hb:Below W.heap.size W w1) (x:Later w1) (b o:Nat) (h:b<W.heap.size):x.w.cell? ⟨b,o,none⟩=W.cell? ⟨b,o,none⟩:=
 ((x.h.cell (p:=⟨b,o,none⟩) (Nat.lt_of_lt_of_le h hb.size))).trans (hb.cell (p:=⟨b,o,none⟩) h)
def growUpon (P:Program) (w:World) (v:Value):Result Next→Prop
 | .ok (.value u) w'=>w'=w∧u=v
 | .ok .skip w'=>w'=w∧v=undef
 | .ok (.enter f args) w'=>w'=w∧Calls P f args w (fun e w''=>e = .returned v∧Below w.heap.size w w'')
 | _=>False
def Grows (P:Program) (ops:Array Oper) (w0:World) (o:Oper) (v:Value) (a:Act):Prop:=
 (Region.wanted o (yielded ops a.tmps)=true ∧ ∀ w,Below w0.heap.size w0 w→growUpon P w v ((execOp a.eval o).run P w)) ∨
 (Region.wanted o (yielded ops a.tmps)=false∧v=undef)
theorem Grows.of_same {o:Oper} {v:Value} {a a':Act} (h:Grows P ops w0 o v a) (he:execOp a'.eval o=execOp a.eval o) (hw:Region.wanted o (yielded ops a'.tmps)=Region.wanted o (yielded ops a.tmps)):Grows P ops w0 o v a':=by
 unfold Grows at *
 rw [he,hw]
 exact h
abbrev ptrTo (b:Nat):Value:= .pointer (some ⟨b,0,none⟩)
def HeadG (P:Program) (md:Region.Mode) (ops:Array Oper) (w0:World) (n m ta:Nat) (L:Array Bool→Act→Prop):Nat→Array Bool→Act→Prop
 | 0,done,a=>L done a
 | f+1,done,a=>Region.ready md ops done ≠ [] ∧ ∀ i ∈ Region.ready md ops done,i<n ∧
    ((i=m ∧ ∀ b,w0.heap.size≤b→HeadG P md ops w0 n m ta L f (done.setIfInBounds i true) (a.put (some ta) (ptrTo b))) ∨
     (i ≠ m ∧ ∃ o v,ops[i]? = some o∧Grows P ops w0 o v a∧HeadG P md ops w0 n m ta L f (done.setIfInBounds i true) (a.put o.dst v)))
def Fresh (w0:World) (ta:Nat) (z:Obj) (a:Act) (w:World):Prop:=
 Below w0.heap.size w0 w ∧ ∀ b,a.tmps[ta]? = some (ptrTo b)→w0.heap.size≤b∧w.heap[b]? = some z
theorem put_other {a:Act} {d:Option Tmp} {v:Value} {ta:Nat} (h:d ≠ some ta):(a.put d v).tmps[ta]? = a.tmps[ta]? := by
 cases d with
 | none=>rfl
 | some d=>
   have:d ≠ ta:=fun e=>h (by rw [e])
   simp [Act.put,this]
theorem headG_any {n m ta g:Nat} {z:Obj} {om:Oper} {L:Array Bool→Act→Prop} {Q:Exit→Act→World→Prop} (hm:ops[m]? = some om) (hgd:om.guard=none) (hdm:om.dst=some ta)
 (hal : ∀ (a:Act) (w:World),(execOp a.eval om).run P w = .ok (.value (ptrTo w.heap.size)) (w.alloc z)) (hdst : ∀ i o,i ≠ m→ops[i]? = some o→o.dst ≠ some ta)
 (hL : ∀ done a w,Fresh w0 ta z a w→L done a→wpAny P md ops Q g done a w) :
 ∀ (f:Nat) (done:Array Bool) (a:Act) (w:World),Fresh w0 ta z a w→HeadG P md ops w0 n m ta L f done a→wpAny P md ops Q (f+g) done a w:=by
 intro f
 induction f with
 | zero=>intro done a w hw h; rw [Nat.zero_add]; exact hL _ _ _ hw h
 | succ f ih=>
   intro done a w hw h
   rw [Nat.succ_add]
   refine ⟨fun e=>absurd e h.1,fun i hi => ?_⟩
   rcases (h.2 i hi).2 with ⟨rfl,hb⟩ | ⟨hne,o,v,ho,hg,hK⟩
   ·unfold wpOp
    simp only [hm]
    rw [if_pos (by simp [Region.wanted,hgd])]
    refine .inl ?_
    unfold Oper.wp
    rw [hal,Oper.upon_value,hdm]
    refine ih _ _ _ ⟨hw.1.alloc hw.1.size z,fun b hb' => ?_⟩ (hb _ hw.1.size)
    by_cases hlt:ta<a.tmps.size
    ·simp [Act.put,hlt] at hb'
     subst hb'
     exact ⟨hw.1.size,World.alloc_heap_new w z⟩
    ·simp [Act.put,hlt] at hb'
   ·have fr : ∀ w'',Below w.heap.size w w''→Fresh w0 ta z (a.put o.dst v) w'':=fun w'' hb=>⟨hw.1.trans (hb.mono hw.1.size),fun b hb'=>by
      rw [put_other (hdst i o hne ho)] at hb'
      have:=hw.2 b hb'
      exact ⟨this.1,(hb.block b (Array.getElem?_eq_some_iff.1 this.2).1).trans this.2⟩⟩
    unfold wpOp
    simp only [ho]
    rcases hg with ⟨hwt,hg⟩ | ⟨hwt,rfl⟩
    ·rw [if_pos hwt]
     refine .inl ?_
     have h3:=hg w hw.1
     unfold Oper.wp
     generalize (execOp a.eval o).run P w=r at h3 ⊢
     cases r with
     | ok x w'=>
       cases x <;> simp only [growUpon] at h3 <;> simp only [Oper.upon]
       case value u=>
        obtain ⟨e1,e2⟩:=h3
        rw [e1,e2]
        exact ih _ _ _ (fr w (Below.refl _ _)) hK
       case skip=>
        obtain ⟨e1,e2⟩:=h3
        rw [e1, ← e2]
        exact ih _ _ _ (fr w (Below.refl _ _)) hK
       case enter f' args=>
        obtain ⟨e1,hc⟩:=h3
        rw [e1]
        exact hc.mono fun e w'' ⟨he,hb⟩=>by subst he; exact ih _ _ _ (fr w'' hb) hK
     | halt x w'=>simp only [growUpon] at h3
    ·rw [if_neg (by simp [hwt])]
     exact ih _ _ _ (fr w (Below.refl _ _)) hK
theorem headG_first {n m ta i:Nat} {oi om:Oper} {v:Value} {L:Array Bool→Act→Prop} (hm:ops[m]? = some om) (hdm:om.dst=some ta) (hi:ops[i]? = some oi) (him:i ≠ m) (hsel : ∀ (j:Nat) (o:Oper) cs b,ops[j]? = some o→o.op ≠ .select cs b)
 (hs:Region.sinkB md ops n=true) (hc:Region.chainB md ops n=true) (hn:n<ops.size) (hin:i<n) (hend : ∀ done a,L done a → ∀ j ∈ Region.ready md ops done,n≤j) :
 ∀ (f:Nat) (done:Array Bool) (a:Act),HeadInv md ops n done →
   (∀ j oj,ops[j]? = some oj→j ≠ i→done.getD j true=false→(∀ e ∈ oj.after,Region.binds md e=true→e.on ≠ i)→oi.apart ops oj=true) →
   i ∈ Region.ready md ops done→Grows P ops w0 oi v a →
   HeadG P md ops w0 n m ta L f (done.setIfInBounds i true) (a.put oi.dst v)→HeadG P md ops w0 n m ta L (f+1) done a:=by
 intro f
 induction f with
 | zero=>
   intro done a inv _ hr hy H
   have open_:=(mem_ready.1 hr).1
   refine ⟨List.ne_nil_of_mem hr,fun j hj => ?_⟩
   have hjn:j<n:=Nat.lt_of_not_le fun h=>tail_waits hs hc hn inv _ i rfl hin open_ j h hj
   refine ⟨hjn,?_⟩
   rcases Nat.decEq j i with h | h
   ·exact absurd (hend _ _ H j (ready_mono hj h)) (Nat.not_le_of_lt hjn)
   ·subst h
    exact .inr ⟨him,oi,v,hi,hy,H⟩
 | succ f ih=>
   intro done a inv free hr hy H
   have open_:=(mem_ready.1 hr).1
   refine ⟨List.ne_nil_of_mem hr,fun j hj => ?_⟩
   have hjn:j<n:=Nat.lt_of_not_le fun h=>tail_waits hs hc hn inv _ i rfl hin open_ j h hj
   refine ⟨hjn,?_⟩
   rcases Nat.decEq j i with h | h
   ·obtain ⟨jopen,oj,hoj,hall⟩:=mem_ready.1 hj
    have waits : ∀ e ∈ oj.after,Region.binds md e=true→e.on ≠ i:=by
     intro e he hb heq
     have:=hall e he hb
     rw [heq,getD_both open_] at this
     cases this
    obtain ⟨p1,p2,p3⟩:=Oper.apart_spec (free j oj hoj h jopen waits)
    have keep : ∀ u,Grows P ops w0 oi v (a.put oj.dst u):=fun u=>hy.of_same (execOp_put oi (fun cs b=>hsel i oi cs b hi) a oj.dst u p3) (wanted_put oi a oj.dst u p3)
    have free' : ∀ k ok,ops[k]? = some ok→k ≠ i→(done.setIfInBounds j true).getD k true=false→(∀ e ∈ ok.after,Region.binds md e=true→e.on ≠ i)→oi.apart ops ok=true:=by
     intro k ok hk hki kopen hno
     refine free k ok hk hki ?_ hno
     rcases Nat.decEq j k with e | e
     ·rwa [getD_set_ne true e] at kopen
     ·rw [← e]; exact jopen
    rcases (H.2 j (ready_mono hj h)).2 with ⟨rfl,hb⟩ | ⟨hjm,o,u,ho,hg,hK⟩
    ·obtain rfl:oj=om:=Option.some.inj (hoj.symm.trans hm)
     refine .inl ⟨rfl,fun b hbb=>ih _ _ (inv.set hj hjn) free' (ready_mono hr (Ne.symm h)) ?_ ?_⟩
     ·rw [← hdm]; exact keep _
     ·have:=hb b hbb
      rw [← hdm,Act.put_comm a v _ p2] at this
      rw [← hdm,Array.setIfInBounds_comm _ _ h]
      exact this
    ·obtain rfl:oj=o:=Option.some.inj (hoj.symm.trans ho)
     refine .inr ⟨hjm,oj,u,hoj,?_,ih _ _ (inv.set hj hjn) free' (ready_mono hr (Ne.symm h)) (keep u) ?_⟩
     ·exact hg.of_same (execOp_put oj (fun cs b=>hsel j oj cs b hoj) a oi.dst v p1).symm (wanted_put oj a oi.dst v p1).symm
     ·rw [Act.put_comm a v u p2] at hK
      rw [Array.setIfInBounds_comm _ _ h]
      exact hK
   ·subst h
    exact .inr ⟨him,oi,v,hi,hy,H⟩
def WalkG (P:Program) (ops:Array Oper) (w0:World) (K:Act→Prop):List Oper→Act→Prop
 | [],a=>K a
 | o :: rest,a=> ∃ v,Grows P ops w0 o v a∧WalkG P ops w0 K rest (a.put o.dst v)
theorem headG_lex {m ta g:Nat} {om:Oper} {Lq:Act→Prop} (hm:ops[m]? = some om) (hdm:om.dst=some ta) (hsel:Region.noSelect ops=true) (hs:Region.sinkB md ops (m+1)=true) (hc:Region.chainB md ops (m+1)=true) (hn:m+1<ops.size) :
 ∀ (l:List Oper) (k:Nat) (done:Array Bool) (a:Act),(∀ j,j<l.length→l[j]? = ops[k+j]?)→k+l.length=m→HeadInv md ops (m+1) done→(∀ j,j<k→done.getD j true=true) →
 Region.lexHead md ops g (l.length+1) k done=true→WalkG P ops w0 (fun a'=> ∀ b,w0.heap.size≤b→Lq (a'.put (some ta) (ptrTo b))) l a →
 HeadG P md ops w0 (m+1) m ta (fun done' a'=>Region.seqB md ops g (m+1) done'=true∧Lq a') (l.length+1) done a:=by
 intro l
 induction l with
 | nil=>
   intro k done a _ hk inv hd hB h
   obtain rfl:k=m:=by simpa using hk
   simp only [List.length_nil,Region.lexHead,Bool.and_eq_true] at hB
   have hr:k ∈ Region.ready md ops done:=by simpa using hB.1.1
   have open_:=(mem_ready.1 hr).1
   refine ⟨List.ne_nil_of_mem hr,fun j hj => ?_⟩
   have hjn:j<k+1:=Nat.lt_of_not_le fun h=>tail_waits hs hc hn inv _ k rfl (Nat.lt_succ_self k) open_ j h hj
   obtain rfl:j=k:=by
    rcases Nat.lt_or_ge j k with h | h
    ·have h1:=hd j h
     rw [(mem_ready.1 hj).1] at h1
     cases h1
    ·omega
   exact ⟨hjn, .inl ⟨rfl,fun b hb=>⟨hB.2,h b hb⟩⟩⟩
 | cons o l ih=>
   intro k done a hl hk inv hd hB h
   have h0:ops[k]? = some o:=by simpa using (hl 0 (by simp)).symm
   rw [List.length_cons] at hk
   rw [List.length_cons,Region.lexHead] at hB
   simp only [Bool.and_eq_true] at hB
   have hkn:k<m+1:=by omega
   have hr:k ∈ Region.ready md ops done:=by simpa using hB.1.1
   obtain ⟨v,hy,hK⟩:=h
   have hsz:k<done.size:=by rw [inv.size]; exact (Array.getElem?_eq_some_iff.1 h0).1
   refine headG_first hm hdm h0 (by omega) (Region.noSelect_spec hsel) hs hc hn hkn (fun _ _ hL=>seqB_ready hL.1) (l.length+1) done a inv (Region.free_spec h0 hB.1.2) hr hy (ih (k+1) _ _ ?_ (by omega) (inv.set hr hkn) ?_ hB.2 hK)
   ·intro j hj
    have:=hl (j+1) (by simp; omega)
    simpa [Nat.add_assoc,Nat.add_comm 1 j] using this
   ·intro j hj
    by_cases e:j=k
    ·subst e; simp [hsz]
    ·rw [getD_set_ne true (Ne.symm e)]; exact hd j (by omega)
theorem end_holds {C:World→Prop} {af:Act} : ∀ (l:List Oper) (a:Act) (d:Nat),(∀ o ∈ l,o.dst ≠ some d)→wpQuiet P ops C (fun a'=>a'=af) l a→af.tmps[d]? = a.tmps[d]?
 | [],a,d,_,h=>by rw [← (show a=af from h)]
 | o :: l,a,d,hd,h=>by
   have h1:=hd o (by simp)
   have h2 : ∀ o ∈ l,o.dst ≠ some d:=fun x hx=>hd x (by simp [hx])
   simp only [wpQuiet] at h
   split at h
   ·obtain ⟨v,_,hK⟩:=h
    rw [end_holds l _ d h2 hK,put_other h1]
   ·rw [end_holds l _ d h2 h,put_other h1]
def ownDst (s:Nat):List Oper→Bool
 | []=>true
 | o :: l=>(match o.dst with
   | some d=>decide (d<s) && l.all fun x=>decide (x.dst ≠ some d)
   | none=>false) && ownDst s l
theorem walkG_of {af:Act} {s:Nat} {K:Act→Prop} (hK:K af) : ∀ (l:List Oper) (a:Act),a.tmps.size=s→ownDst s l=true →
 (∀ w1,Below w0.heap.size w0 w1→wpQuiet P ops (fun w'=> ∃ x:Later w1,w'=x.w) (fun a'=>a'=af) l a)→WalkG P ops w0 K l a
 | [],a,_,_,h=>by
   have:a=af:=h w0 (Below.refl _ _)
   rw [this]; exact hK
 | o :: l,a,hs,ho,h=>by
   simp only [ownDst,Bool.and_eq_true] at ho
   cases hd:o.dst with
   | none=>simp [hd] at ho
   | some d=>
     simp only [hd,Bool.and_eq_true,decide_eq_true_eq,List.all_eq_true] at ho
     obtain ⟨⟨hds,hall⟩,hrest⟩:=ho
     by_cases hw:Region.wanted o (yielded ops a.tmps)=true
     ·have step : ∀ w1,Below w0.heap.size w0 w1→growUpon P w1 ((af.tmps[d]?).getD undef) ((execOp a.eval o).run P w1) ∧
          wpQuiet P ops (fun w'=> ∃ x:Later w1,w'=x.w) (fun a'=>a'=af) l (a.put o.dst ((af.tmps[d]?).getD undef)):=fun w1 hb=>by
        have h1:=h w1 hb
        simp only [wpQuiet] at h1
        rw [if_pos hw] at h1
        obtain ⟨v,hv,hq⟩:=h1
        have hve:(af.tmps[d]?).getD undef=v:=by
         rw [end_holds l _ d hall hq,hd]
         simp [Act.put,hs,hds]
        rw [hve]
        refine ⟨?_,hq⟩
        have h2:=hv w1 ⟨⟨w1,Below.refl _ _⟩,rfl⟩
        unfold Oper.quietAt at h2
        generalize (execOp a.eval o).run P w1=r at h2 ⊢
        cases r with
        | ok x w'=>
          cases x <;> simp only [Oper.quietUpon] at h2 <;> simp only [growUpon]
          case value=>exact h2
          case skip=>exact h2
          case enter f args=>exact ⟨h2.1,h2.2.mono fun e w'' ⟨he,y,hy⟩=>⟨he,hy ▸ y.h⟩⟩
        | halt x w'=>simp only [Oper.quietUpon] at h2
      exact ⟨_, .inl ⟨hw,fun w1 hb=>(step w1 hb).1⟩,walkG_of hK l _ (by rw [hd]; simp [Act.put,hs]) hrest fun w1 hb=>(step w1 hb).2⟩
     ·have hw':Region.wanted o (yielded ops a.tmps)=false:=by simpa using hw
      refine ⟨undef, .inr ⟨hw',rfl⟩,walkG_of hK l _ (by rw [hd]; simp [Act.put,hs]) hrest fun w1 hb => ?_⟩
      have h1:=h w1 hb
      simp only [wpQuiet] at h1
      rwa [if_neg hw] at h1
def offDst (ta m:Nat) (l:List Oper):Bool:=(List.range l.length).all fun i=>i==m || decide ((l[i]?.bind (·.dst)) ≠ some ta)
theorem any_float {Q:Exit→Act→World→Prop} {a:Act} {w:World} {l:List Oper} (m ta s:Nat) (z:Obj) (om:Oper) (hB:Region.lexTailB .any l.toArray (m+1)=true) (hm:l[m]? = some om) (hgd:om.guard=none) (hdm:om.dst=some ta)
 (hal : ∀ (a:Act) (w:World),(execOp a.eval om).run P w = .ok (.value (ptrTo w.heap.size)) (w.alloc z)) (hoff:offDst ta m l=true) (hown:ownDst s (l.take m)=true) (hs:a.tmps.size=s) (hta:a.tmps[ta]? = some undef)
 (h : ∃ af,(∀ w1,Below w.heap.size w w1 → ∀ K:Act→Prop,K af→wpQuiet P l.toArray (fun w'=> ∃ x:Later w1,w'=x.w) K (l.take m) a) ∧
   ∀ (b:Nat) (w':World),w.heap.size≤b→Below w.heap.size w w'→w'.heap[b]? = some z→wpList P l.toArray Q (l.drop (m+1)) (af.put (some ta) (ptrTo b)) w') :
 wpAny P .any l.toArray Q l.toArray.size (Array.replicate l.toArray.size false) a { w with drawn:=w.drawn+1 } := by
 obtain ⟨af,h1',h2⟩:=h
 have h1:=fun w1 hb=>h1' w1 hb (fun a'=>a'=af) rfl
 simp only [Region.lexTailB,Bool.and_eq_true,decide_eq_true_eq] at hB
 obtain ⟨⟨⟨⟨hsel,hn⟩,hsk⟩,hc⟩,hlex⟩:=hB
 have hn':m+1<l.length:=by simpa using hn
 have htl:(l.take m).length=m:=by simp; omega
 have hdl:(l.drop (m+1)).length=l.toArray.size-(m+1):=by simp
 have hm':l.toArray[m]? = some om:=by simpa using hm
 have inv0:HeadInv .any l.toArray (m+1) (Array.replicate l.toArray.size false):=
  ⟨by simp,fun j oj _ hl=>(by rw [getD_replicate_false] at hl; cases hl),fun t _ ht=>getD_in (by simpa using ht) (getD_replicate_false _ _)⟩
 have hW:=walkG_of (K:=fun a'=> ∀ b,w.heap.size≤b→(fun a''=> ∃ b,a''=af.put (some ta) (ptrTo b)) (a'.put (some ta) (ptrTo b))) (fun b _=>⟨b,rfl⟩) (l.take m) a hs hown h1
 have H:=headG_lex (md:= .any) (g:=l.toArray.size-(m+1)) (Lq:=fun a''=> ∃ b,a''=af.put (some ta) (ptrTo b)) hm' hdm hsel hsk hc hn (l.take m) 0 _ a (fun j hj=>by
  rw [htl] at hj
  simp [hj]) (by simpa using htl) inv0 (fun j hj=>absurd hj (Nat.not_lt_zero _)) (by rw [htl]; exact hlex) hW
 have hta':ta<a.tmps.size:=(Array.getElem?_eq_some_iff.1 hta).1
 have hsz : ∀ {w1},Below w.heap.size w w1→wpQuiet P l.toArray (fun w'=> ∃ x:Later w1,w'=x.w) (fun a'=>a'=af) (l.take m) a→af.tmps.size=s:=fun {w1} hb hq=>by
  have key : ∀ (l':List Oper) (a':Act),wpQuiet P l.toArray (fun w'=> ∃ x:Later w1,w'=x.w) (fun a'=>a'=af) l' a'→af.tmps.size=a'.tmps.size:=by
   intro l'
   induction l' with
   | nil=>intro a' h; rw [← (show a'=af from h)]
   | cons o l' ih=>
     intro a' h
     simp only [wpQuiet] at h
     split at h
     ·obtain ⟨v,_,hK⟩:=h
      rw [ih _ hK]
      cases o.dst <;> simp [Act.put]
     ·rw [ih _ h]
      cases o.dst <;> simp [Act.put]
  rw [key _ _ hq,hs]
 have hasz:=hsz (Below.refl _ w) (h1 w (Below.refl _ w))
 have hdst : ∀ i o,i ≠ m→l.toArray[i]? = some o→o.dst ≠ some ta:=fun i o hi ho=>by
  have hil:i<l.length:=by have:=(Array.getElem?_eq_some_iff.1 ho).1; simpa using this
  have:=List.all_eq_true.1 hoff i (by simpa using hil)
  have ho':l[i]? = some o:=by simpa using ho
  simpa [ho',hi] using this
 have:=headG_any (Q:=Q) (z:=z) (g:=l.toArray.size-(m+1)) hm' hgd hdm hal hdst (fun done a' w' hw' hL=>by
  obtain ⟨hq,b,rfl⟩:=hL
  have hf:=hw'.2 b (by simp [Act.put,hasz, ← hs,hta'])
  have:=wpAny_of_seq (md:= .any) (Q':=Q) (l.drop (m+1)) (m+1) done _ w' (fun j=>by simp [List.getElem?_drop]) (by rw [hdl]; exact hq) (h2 b w' hf.1 hw'.1 hf.2)
  rwa [hdl] at this) _ _ _ { w with drawn:=w.drawn+1 } ⟨(Below.refl _ w).drew,fun b hb=>by rw [hta] at hb; cases hb⟩ H
 rw [htl,show m+1+(l.toArray.size-(m+1))=l.toArray.size by omega] at this
 exact this
theorem wp_region_float {id:Nat} {Q:Exit→Act→World→Prop} {a:Act} {w:World} {l:List Oper} (m ta s:Nat) (z:Obj) (om:Oper) (hmo:P.follows .mixedOrders=true) (hB:Region.lexTailB .any l.toArray (m+1)=true) (hm:l[m]? = some om) (hgd:om.guard=none) (hdm:om.dst=some ta)
 (hal : ∀ (a:Act) (w:World),(execOp a.eval om).run P w = .ok (.value (ptrTo w.heap.size)) (w.alloc z)) (hoff:offDst ta m l=true) (hown:ownDst s (l.take m)=true) (hs:a.tmps.size=s) (hta:a.tmps[ta]? = some undef)
 (h : ∃ af,(∀ w1,Below w.heap.size w w1 → ∀ K:Act→Prop,K af→wpQuiet P l.toArray (fun w'=> ∃ x:Later w1,w'=x.w) K (l.take m) a) ∧
   ∀ (b:Nat) (w':World),w.heap.size≤b→Below w.heap.size w w'→w'.heap[b]? = some z→wpList P l.toArray Q (l.drop (m+1)) (af.put (some ta) (ptrTo b)) w') :
 (Code.region id l.toArray true).wp P Q a w:=
 wp_region_any hmo (any_float m ta s z om hB hm hgd hdm hal hoff hown hs hta h)
theorem wpIn_region_floatR {id n r:Nat} {Q:Exit→Act→World→Prop} {a:Act} {w:World} {l:List Oper} (m ta s:Nat) (z:Obj) (om:Oper) (hmo:P.follows .mixedOrders=true) (hnd:noDefer l.toArray=true) (hq : ¬ LetsOut Q) (hB:Region.lexTailB .any l.toArray (m+1)=true) (hm:l[m]? = some om) (hgd:om.guard=none) (hdm:om.dst=some ta)
 (hal : ∀ (a:Act) (w:World),(execOp a.eval om).run P w = .ok (.value (ptrTo w.heap.size)) (w.alloc z)) (hoff:offDst ta m l=true) (hown:ownDst s (l.take m)=true) (hs:a.tmps.size=s) (hta:a.tmps[ta]? = some undef)
 (h : ∃ af,(∀ w1,Below w.heap.size w w1 → ∀ K:Act→Prop,K af→wpQuiet P l.toArray (fun w'=> ∃ x:Later w1,w'=x.w) K (l.take m) a) ∧
   ∀ (b:Nat) (w':World),w.heap.size≤b→Below w.heap.size w w'→w'.heap[b]? = some z→wpList P l.toArray Q (l.drop (m+1)) (af.put (some ta) (ptrTo b)) w') :
 (Code.region id l.toArray true).wpIn (Fence.wide.inRound r) n P Q a w:=
 wpIn_region_anyR hmo hnd hq (any_float m ta s z om hB hm hgd hdm hal hoff hown hs hta h)
end
end Go.Proofs.Ytkbbhihndigmeaa
