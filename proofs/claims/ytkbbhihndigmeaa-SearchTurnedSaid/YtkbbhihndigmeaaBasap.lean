/- Plain mathematics of layer 3's laws: best plans leave no slack, mixed plans, tables changed. It uses nothing of the program but words. -/
import Derived.Test.YtkbbhihndigmeaaProg
import Derived.Test.YtkbbhihndigmeaaBasan
import Derived.Test.YtkbbhihndigmeaaBasao
import Derived.Deep.Upon
import Derived.Maps.AppendAt
import Derived.Laws.OwnMore
import Derived.Test.YtkbbhihndigmeaaBasaa
import Derived.Test.YtkbbhihndigmeaaBasab
import Derived.Test.YtkbbhihndigmeaaBasac
import Derived.Test.YtkbbhihndigmeaaBasad
import Derived.Test.YtkbbhihndigmeaaBasae
import Derived.Shelf.Abstract
import Derived.Shelf.RegionOpen
import Derived.Test.YtkbbhihndigmeaaBasaf
namespace Go.Proofs.Ytkbbhihndigmeaa
theorem dot_zero {x f:Nat→Int} : ∀ {m:Nat},(∀ i,i<m→0≤x i*f i)→dotN x f m≤0 → ∀ i,i<m→x i*f i=0
 | 0,_,_=>fun i hi=>absurd hi (Nat.not_lt_zero _)
 | m+1,h,hd=>by
   have h0 : ∀ k,k≤m+1→0≤dotN x f k:=fun k=>by
    induction k with
    | zero=>exact fun _=>Int.le_refl _
    | succ k ih=>exact fun hk=>by rw [dotN]; have:=ih (by omega); have:=h k (by omega); omega
   rw [dotN] at hd
   have h1:=h0 m (by omega)
   have h2:=h m (by omega)
   intro i hi
   by_cases e:i=m
   ·subst e; omega
   ·exact dot_zero (m:=m) (fun i hi=>h i (by omega)) (by omega) i (by omega)
theorem dotN_sub (x f g:Nat→Int) : ∀ m,dotN x (fun i=>f i-g i) m=dotN x f m-dotN x g m
 | 0=>rfl
 | m+1=>by rw [dotN,dotN,dotN,dotN_sub x f g m,Int.mul_sub]; omega
theorem dot_tot (x:Nat→Int) (c:Int) (m:Nat):dotN x (fun _=>c) m=c*tot x m:=by
 rw [dotN_const]
 rfl
theorem slack {A:Nat→Nat→Int} {m n:Nat} {x q:Nat→Int} {v s:Int} (_hs:0<s) (hx:Surely A m n x v s) (hq:Bounds A m n q v s) {i:Nat} (hi:i<m) (hp:0<x i):s*dotN q (fun j=>A i j) n=v*tot q n:=by
 have h1 : ∀ i,i<m→0≤x i*(v*tot q n-s*dotN q (fun j=>A i j) n):=fun i hi=>Int.mul_nonneg (hx.1 i hi) (by have:=hq.2.2 i hi; omega)
 have h2:dotN x (fun i=>v*tot q n-s*dotN q (fun j=>A i j) n) m≤0:=by
  rw [dotN_sub x (fun _=>v*tot q n),dot_tot,dotN_scale, ← dotN_sum]
  have a:=dotN_mono (x:=q) (f:=fun _=>v*tot x m) (g:=fun j=>s*ag A x m j) (m:=n) hq.1 hx.2.2
  rw [dot_tot,dotN_scale] at a
  change _≤s*dotN q (fun j=>ag A x m j) n at a
  have e:v*tot q n*tot x m=v*tot x m*tot q n:=by grind
  rw [e]
  exact Int.sub_nonpos_of_le a
 have h3:=dot_zero h1 h2 i hi
 rcases Int.mul_eq_zero.1 h3 with h | h <;> omega
theorem Surely.mix {A:Nat→Nat→Int} {m n:Nat} {x y:Nat→Int} {v s:Int} (hx:Surely A m n x v s) (hy:Surely A m n y v s):Surely A m n (fun i=>x i+y i) v s:=by
 have ht:tot (fun i=>x i+y i) m=tot x m+tot y m:=dotN_add x y _ m
 have ha : ∀ j,ag A (fun i=>x i+y i) m j=ag A x m j+ag A y m j:=fun j=>dotN_add x y _ m
 refine ⟨fun i hi=>Int.add_nonneg (hx.1 i hi) (hy.1 i hi),by rw [ht]; have:=hx.2.1; have:=hy.2.1; omega,fun j hj => ?_⟩
 have h1:=hx.2.2 j hj
 have h2:=hy.2.2 j hj
 rw [ht,ha,Int.mul_add,Int.mul_add]
 omega
theorem ag_scaled (A:Nat→Nat→Int) (c d:Int) (x:Nat→Int) (m j:Nat):ag (fun i j=>c*A i j+d) x m j=c*ag A x m j+d*tot x m:=by
 unfold ag
 rw [dotN_addr x (fun i=>c*A i j) (fun _=>d),dotN_scale,dot_tot]
theorem Surely.scaled {A:Nat→Nat→Int} {m n:Nat} {x:Nat→Int} {v s c:Int} (d:Int) (hc:0≤c) (h:Surely A m n x v s):Surely (fun i j=>c*A i j+d) m n x (c*v+d*s) s:=by
 refine ⟨h.1,h.2.1,fun j hj => ?_⟩
 rw [ag_scaled]
 have:=Int.mul_le_mul_of_nonneg_left (h.2.2 j hj) hc
 grind
theorem Bounds.scaled {A:Nat→Nat→Int} {m n:Nat} {q:Nat→Int} {v s c:Int} (d:Int) (hc:0≤c) (h:Bounds A m n q v s):Bounds (fun i j=>c*A i j+d) m n q (c*v+d*s) s:=by
 refine ⟨h.1,h.2.1,fun i hi => ?_⟩
 rw [dotN_addr q (fun j=>c*A i j) (fun _=>d),dotN_scale,dot_tot]
 have:=Int.mul_le_mul_of_nonneg_left (h.2.2 i hi) hc
 grind
theorem ValIs.scaled {A:Nat→Nat→Int} {m n:Nat} {v s c:Int} (d:Int) (hc:0≤c) (h:ValIs A m n v s):ValIs (fun i j=>c*A i j+d) m n (c*v+d*s) s:=by
 obtain ⟨hs,⟨x,hx⟩,q,hq⟩:=h
 exact ⟨hs,⟨x,hx.scaled d hc⟩,q,hq.scaled d hc⟩
theorem Surely.more {A B:Nat→Nat→Int} {m n:Nat} {x:Nat→Int} {v s:Int} (hs:0<s) (h:Surely A m n x v s) (e : ∀ i,i<m → ∀ j,j<n→A i j≤B i j):Surely B m n x v s:=by
 refine ⟨h.1,h.2.1,fun j hj => ?_⟩
 have h1:=dotN_mono (x:=x) (f:=fun i=>A i j) (g:=fun i=>B i j) (m:=m) h.1 fun i hi=>e i hi j hj
 have h2:=Int.mul_le_mul_of_nonneg_left h1 (Int.le_of_lt hs)
 exact Int.le_trans (h.2.2 j hj) h2
def sub2 (A:Nat→Nat→Int) (R C:List Nat) (i j:Nat):Int:=A (R.getD i 0) (C.getD j 0)
theorem dot_list {x f:Nat→Int} {m:Nat} {R:List Nat} (hR:R.Nodup) (hRm : ∀ i ∈ R,i<m) (h0 : ∀ i,i<m → ¬ i ∈ R→x i=0):dotN x f m=dotN (fun s=>x (R.getD s 0)) (fun s=>f (R.getD s 0)) R.length:=by
 rw [← inj_dot R (fun s=>x (R.getD s 0)) f m _ fun s hs=>hRm _ (getD_mem hs)]
 refine dotN_at (fun i hi => ?_) fun _ _=>rfl
 by_cases h:i ∈ R
 ·obtain ⟨s,hs,rfl⟩:=mem_getD h
  rw [inj_in hR hs (Nat.le_refl _)]
 ·rw [h0 i hi h,inj_out]
  exact fun s hs he=>h (by rw [← he]; exact getD_mem hs)
theorem Surely.cols {A:Nat→Nat→Int} {m n:Nat} {x:Nat→Int} {v s:Int} {C:List Nat} (h:Surely A m n x v s) (hC : ∀ j ∈ C,j<n):Surely (fun i j=>A i (C.getD j 0)) m C.length x v s:=
 ⟨h.1,h.2.1,fun _ hj=>h.2.2 _ (hC _ (getD_mem hj))⟩
theorem Bounds.rows {A:Nat→Nat→Int} {m n:Nat} {q:Nat→Int} {v s:Int} {R:List Nat} (h:Bounds A m n q v s) (hR : ∀ i ∈ R,i<m):Bounds (fun i j=>A (R.getD i 0) j) R.length n q v s:=
 ⟨h.1,h.2.1,fun _ hi=>h.2.2 _ (hR _ (getD_mem hi))⟩
theorem Surely.rows {A:Nat→Nat→Int} {m n:Nat} {x:Nat→Int} {v s:Int} {R:List Nat} (h:Surely A m n x v s) (hRn:R.Nodup) (hR : ∀ i ∈ R,i<m) (h0 : ∀ i,i<m → ¬ i ∈ R→x i=0):Surely (fun i j=>A (R.getD i 0) j) R.length n (fun i=>x (R.getD i 0)) v s:=by
 have ht:tot (fun i=>x (R.getD i 0)) R.length=tot x m:=(dot_list (f:=fun _=>1) hRn hR h0).symm
 refine ⟨fun i hi=>h.1 _ (hR _ (getD_mem hi)),by rw [ht]; exact h.2.1,fun j hj => ?_⟩
 rw [ht,show ag (fun i j=>A (R.getD i 0) j) (fun i=>x (R.getD i 0)) R.length j=ag A x m j from (dot_list (f:=fun i=>A i j) hRn hR h0).symm]
 exact h.2.2 j hj
theorem Bounds.cols {A:Nat→Nat→Int} {m n:Nat} {q:Nat→Int} {v s:Int} {C:List Nat} (h:Bounds A m n q v s) (hCn:C.Nodup) (hC : ∀ j ∈ C,j<n) (h0 : ∀ j,j<n → ¬ j ∈ C→q j=0):Bounds (fun i j=>A i (C.getD j 0)) m C.length (fun j=>q (C.getD j 0)) v s:=by
 rw [← surely_flip] at h ⊢
 exact h.rows hCn hC h0
theorem Surely.all {A:Nat→Nat→Int} {m n:Nat} {x:Nat→Int} {v s:Int} {R:List Nat} (h:Surely (fun i j=>A (R.getD i 0) j) R.length n x v s) (hRn:R.Nodup) (hR : ∀ i ∈ R,i<m):Surely A m n (inj R x R.length) v s:=by
 have hd : ∀ f,dotN (inj R x R.length) f m=dotN x (fun s=>f (R.getD s 0)) R.length:=fun f=>inj_dot R x f m _ fun s hs=>hR _ (getD_mem hs)
 refine ⟨fun i hi => ?_,by unfold tot; rw [hd]; exact h.2.1,fun j hj => ?_⟩
 ·by_cases hm:i ∈ R
  ·obtain ⟨s,hs,rfl⟩:=mem_getD hm
   rw [inj_in hRn hs (Nat.le_refl _)]
   exact h.1 s hs
  ·rw [inj_out fun s hs he=>hm (by rw [← he]; exact getD_mem hs)]
   exact Int.le_refl _
 ·unfold tot ag
  rw [hd,hd]
  exact h.2.2 j hj
theorem Bounds.all {A:Nat→Nat→Int} {m n:Nat} {q:Nat→Int} {v s:Int} {C:List Nat} (h:Bounds (fun i j=>A i (C.getD j 0)) m C.length q v s) (hCn:C.Nodup) (hC : ∀ j ∈ C,j<n):Bounds A m n (inj C q C.length) v s:=by
 rw [← surely_flip] at h ⊢
 exact Surely.all (A:=flip A) h hCn hC
theorem rows_less {A:Nat→Nat→Int} {m n:Nat} {v s v' s':Int} {R:List Nat} (hRn:R.Nodup) (hR : ∀ i ∈ R,i<m) (h:ValIs A m n v s) (h':ValIs (fun i j=>A (R.getD i 0) j) R.length n v' s'):v'*s≤v*s':=by
 obtain ⟨hs, -,q,hq⟩:=h
 obtain ⟨hs',⟨x,hx⟩, -⟩:=h'
 exact weak2 hs' hs (Surely.all hx hRn hR) hq
theorem cols_more {A:Nat→Nat→Int} {m n:Nat} {v s v' s':Int} {C:List Nat} (hCn:C.Nodup) (hC : ∀ j ∈ C,j<n) (h:ValIs A m n v s) (h':ValIs (fun i j=>A i (C.getD j 0)) m C.length v' s'):v*s'≤v'*s:=by
 obtain ⟨hs,⟨x,hx⟩, -⟩:=h
 obtain ⟨hs', -,q,hq⟩:=h'
 exact weak2 hs hs' hx (Bounds.all hq hCn hC)
theorem losses_more {A B:Nat→Nat→Int} {m n:Nat} {v s v' s':Int} (e : ∀ i,i<m → ∀ j,j<n→A i j≤B i j) (h:ValIs A m n v s) (h':ValIs B m n v' s'):v*s'≤v'*s:=by
 obtain ⟨hs,⟨x,hx⟩, -⟩:=h
 obtain ⟨hs', -,q,hq⟩:=h'
 exact weak2 hs hs' (hx.more hs e) hq
theorem rows_same {A:Nat→Nat→Int} {m n:Nat} {x q:Nat→Int} {v s:Int} {R:List Nat} (hs:0<s) (hx:Surely A m n x v s) (hq:Bounds A m n q v s) (hRn:R.Nodup) (hR : ∀ i ∈ R,i<m) (h0 : ∀ i,i<m → ¬ i ∈ R→x i=0):ValIs (fun i j=>A (R.getD i 0) j) R.length n v s:=
 ⟨hs,⟨_,hx.rows hRn hR h0⟩,q,hq.rows hR⟩
theorem cols_same {A:Nat→Nat→Int} {m n:Nat} {x q:Nat→Int} {v s:Int} {C:List Nat} (hs:0<s) (hx:Surely A m n x v s) (hq:Bounds A m n q v s) (hCn:C.Nodup) (hC : ∀ j ∈ C,j<n) (h0 : ∀ j,j<n → ¬ j ∈ C→q j=0):ValIs (fun i j=>A i (C.getD j 0)) m C.length v s:=
 ⟨hs,⟨x,hx.cols hC⟩,_,hq.cols hCn hC h0⟩
theorem Surely.drop {A:Nat→Nat→Int} {m n:Nat} {x:Nat→Int} {v s:Int} {r o:Nat} (hs:0<s) (h:Surely A m n x v s) (hr:r<m) (ho:o<m) (hne:o ≠ r) (hb : ∀ j,j<n→A r j≤A o j) : ∃ y,Surely A m n y v s∧y r=0:=by
 let y:Nat→Int:=fun i=>if i=r then 0 else if i=o then x o+x r else x i
 have hd : ∀ (f:Nat→Int) k,dotN y f k=dotN x f k+((if r<k then-x r*f r else 0)+if o<k then x r*f o else 0):=fun f k=>by
  induction k with
  | zero=>simp [dotN]
  | succ k ih=>
    rw [dotN,dotN,ih]
    show _+(if k=r then 0 else if k=o then x o+x r else x k)*f k=_
    obtain ⟨X,hX⟩ : ∃ X,dotN x f k=X:=⟨_,rfl⟩
    rw [hX]
    clear hX ih
    by_cases h1:k=r
    ·subst h1
     by_cases h2:o<k
     ·simp only [if_true,if_pos h2,if_neg (Nat.lt_irrefl k),if_pos (Nat.lt_succ_self k),if_pos (Nat.lt_succ_of_lt h2)]; grind
     ·simp only [if_true,if_neg h2,if_neg (Nat.lt_irrefl k),if_pos (Nat.lt_succ_self k),if_neg (show ¬ o<k+1 by omega)]; grind
    ·rw [if_neg h1]
     by_cases h2:k=o
     ·subst h2
      by_cases h3:r<k
      ·simp only [if_true,if_pos h3,if_neg (Nat.lt_irrefl k),if_pos (Nat.lt_succ_self k),if_pos (Nat.lt_succ_of_lt h3)]; grind
      ·simp only [if_true,if_neg h3,if_neg (Nat.lt_irrefl k),if_pos (Nat.lt_succ_self k),if_neg (show ¬ r<k+1 by omega)]; grind
     ·rw [if_neg h2]
      have e3:(r<k+1)=(r<k):=propext (by omega)
      have e4:(o<k+1)=(o<k):=propext (by omega)
      simp only [e3,e4]
      grind
 have hxr:=h.1 r hr
 have ht:tot y m=tot x m:=by
  unfold tot
  rw [hd,if_pos hr,if_pos ho]
  grind
 refine ⟨y,⟨fun i hi => ?_,by rw [ht]; exact h.2.1,fun j hj => ?_⟩,if_pos rfl⟩
 ·show 0≤if i=r then 0 else if i=o then x o+x r else x i
  have:=h.1 i hi
  have:=h.1 o ho
  split
  ·omega
  ·split <;> omega
 ·have h1:ag A x m j≤ag A y m j:=by
    unfold ag
    rw [hd,if_pos hr,if_pos ho]
    have:=Int.mul_le_mul_of_nonneg_left (hb j hj) hxr
    grind
  rw [ht]
  exact Int.le_trans (h.2.2 j hj) (Int.mul_le_mul_of_nonneg_left h1 (Int.le_of_lt hs))
end Go.Proofs.Ytkbbhihndigmeaa

namespace Go.Proofs.Ytkbbhihndigmeaa
open Go Go.RowKit
def spareB (A:Nat→Nat→Int) (n i o:Nat):Bool:=decide (o ≠ i) && ((List.range n).all (fun k=>decide (A i k≤A o k)) && ((List.range n).any (fun k=>decide (A i k<A o k)) || decide (o<i)))
def spareO (A:Nat→Nat→Int) (m n:Nat):Option Nat:=(List.range m).find? fun i=>(List.range m).any fun o=>spareB A n i o
def spareZ (A:Nat→Nat→Int) (m n:Nat):Int:=match spareO A m n with
 | some i=>i
 | none=> -1
theorem any_getD {x:List Nat} {p:Nat→Bool} : x.any p=(List.range x.length).any fun i=>p (x.getD i 0):=by
 rw [Bool.eq_iff_iff,List.any_eq_true,List.any_eq_true]
 constructor
 ·rintro ⟨y,hy,h⟩
  obtain ⟨i,hi,rfl⟩:=mem_getD hy
  exact ⟨i,List.mem_range.2 hi,h⟩
 ·rintro ⟨i,hi,h⟩
  exact ⟨_,getD_mem (List.mem_range.1 hi),h⟩
theorem all_getD {x:List Nat} {p:Nat→Bool} : x.all p=(List.range x.length).all fun i=>p (x.getD i 0):=by
 rw [Bool.eq_iff_iff,List.all_eq_true,List.all_eq_true]
 constructor
 ·intro h i hi
  exact h _ (getD_mem (List.mem_range.1 hi))
 ·intro h y hy
  obtain ⟨i,hi,rfl⟩:=mem_getD hy
  exact h i (List.mem_range.2 hi)
theorem sorted_lt {x:List Nat} (h:x.Pairwise (· < ·)) {i j:Nat} (hi:i<x.length) (hj:j<x.length):x.getD i 0<x.getD j 0↔i<j:=by
 have key : ∀ {i j:Nat},i<x.length→j<x.length→i<j→x.getD i 0<x.getD j 0:=fun {i j} hi hj hij=>by
  have:=List.pairwise_iff_getElem.1 h i j hi hj hij
  simpa [List.getD_eq_getElem?_getD,List.getElem?_eq_getElem hi,List.getElem?_eq_getElem hj] using this
 constructor
 ·intro h2
  rcases Nat.lt_trichotomy i j with h3 | h3 | h3
  ·exact h3
  ·subst h3; omega
  ·have:=key hj hi h3; omega
 ·exact key hi hj
theorem spare_need {f:Nat→Row3} {A:Nat→Nat→Int} {R C:List Nat} (hR:R.Pairwise (· < ·)) (hA : ∀ i,i<R.length → ∀ j,j<C.length→A i j=(f (R.getD i 0)).g (C.getD j 0)):spareO A R.length C.length=needO f C R:=by
 unfold spareO needO
 have h : ∀ (n:Nat) {p q:Nat→Bool},(∀ i,i<n→p i=q i)→(List.range n).find? p=(List.range n).find? q:=fun n p q e=>by
  have : ∀ l:List Nat,(∀ i ∈ l,p i=q i)→l.find? p=l.find? q:=fun l=>by
   induction l with
   | nil=>exact fun _=>rfl
   | cons a l ih=>exact fun e=>by rw [List.find?_cons,List.find?_cons,e a (by simp),ih fun i hi=>e i (by simp [hi])]
  exact this _ fun i hi=>e i (List.mem_range.1 hi)
 refine h _ fun i hi => ?_
 rw [any_getD (x:=R)]
 have h2 : ∀ (n:Nat) {p q:Nat→Bool},(∀ i,i<n→p i=q i)→(List.range n).any p=(List.range n).any q:=fun n p q e=>by
  rw [Bool.eq_iff_iff,List.any_eq_true,List.any_eq_true]
  exact exists_congr fun i=>and_congr_right fun hi=>by rw [e i (List.mem_range.1 hi)]
 refine h2 _ fun o ho => ?_
 rw [Bool.eq_iff_iff]
 unfold spareB betterB
 rw [all_getD (x:=C),any_getD (x:=C)]
 simp only [Bool.and_eq_true,Bool.or_eq_true,decide_eq_true_eq,List.all_eq_true,List.any_eq_true,List.mem_range]
 have hg : ∀ k,k<C.length→gapI f (R.getD o 0) (R.getD i 0) (C.getD k 0)=A o k-A i k:=fun k hk=>by
  unfold gapI
  rw [hA o ho k hk,hA i hi k hk]
 rw [sorted_lt hR ho hi]
 constructor
 ·rintro ⟨h1,h2,h3⟩
  refine ⟨fun k hk=>by rw [hg k hk]; have:=h2 k hk; omega,?_⟩
  rcases h3 with ⟨k,hk,h⟩ | h
  ·exact .inr ⟨k,hk,by rw [hg k hk]; omega⟩
  ·exact .inl h
 ·rintro ⟨h1,h2⟩
  have h3 : ∀ k,k<C.length→A i k≤A o k:=fun k hk=>by have:=h1 k hk; rw [hg k hk] at this; omega
  rcases h2 with h | ⟨k,hk,h⟩
  ·exact ⟨by omega,h3, .inr h⟩
  ·rw [hg k hk] at h
   have:=h3 k hk
   exact ⟨fun e=>by subst e; omega,h3, .inl ⟨k,hk,by omega⟩⟩
theorem need_two {f:Nat→Row3} {C R:List Nat} {i:Nat} (h:needO f C R=some i):i<R.length∧2≤R.length ∧ ∃ o ∈ R,betterB f C o (R.getD i 0)=true:=by
 have hi:=need_lt h
 have h2:=List.find?_some h
 rw [List.any_eq_true] at h2
 obtain ⟨o,ho,hb⟩:=h2
 refine ⟨hi,?_,o,ho,hb⟩
 refine Classical.byContradiction fun hn => ?_
 have h1:R.length=1:=by omega
 obtain ⟨s,hs,rfl⟩:=mem_getD ho
 have:s=i:=by omega
 subst this
 unfold betterB gapI at hb
 simp at hb
def stepL (f f':Nat→Row3) (p:List Nat × List Nat):List Nat × List Nat:=match needO f p.2 p.1 with
 | some i=>(p.1.eraseIdx i,p.2)
 | none=>match needO f' p.1 p.2 with
   | some i=>(p.1,p.2.eraseIdx i)
   | none=>p
def iterL (f f':Nat→Row3):Nat→List Nat × List Nat→List Nat × List Nat
 | 0,p=>p
 | k+1,p=>stepL f f' (iterL f f' k p)
theorem iterL_front (f f':Nat→Row3) : ∀ k p,iterL f f' k (stepL f f' p)=iterL f f' (k+1) p
 | 0,_=>rfl
 | k+1,p=>by rw [iterL,iterL_front f f' k p]; rfl
theorem iterL_fix (f f':Nat→Row3) {p:List Nat × List Nat} (h:stepL f f' p=p) : ∀ k,iterL f f' k p=p
 | 0=>rfl
 | k+1=>by rw [iterL,iterL_fix f f' h k,h]
theorem iter_left (f f':Nat→Row3) : ∀ k R C,iterL f f' k (R,C)=leftF f f' k R C
 | 0,_,_=>rfl
 | k+1,R,C=>by
   rw [← iterL_front,leftF]
   cases h1:needO f C R with
   | some i=>
     have:stepL f f' (R,C)=(R.eraseIdx i,C):=by simp [stepL,h1]
     rw [this]
     exact iter_left f f' k _ _
   | none=>
     dsimp only
     cases h2:needO f' R C with
     | some i=>
       have:stepL f f' (R,C)=(R,C.eraseIdx i):=by simp [stepL,h1,h2]
       rw [this]
       exact iter_left f f' k _ _
     | none=>
       have:stepL f f' (R,C)=(R,C):=by simp [stepL,h1,h2]
       rw [this,iterL_fix f f' this]
theorem left_fuel (f f':Nat→Row3) : ∀ k d R C,R.length+C.length≤k→leftF f f' (k+d) R C=leftF f f' k R C
 | 0,d,R,C,h=>by
   have h1:R=[]:=List.length_eq_zero_iff.1 (by omega)
   have h2:C=[]:=List.length_eq_zero_iff.1 (by omega)
   subst h1 h2
   exact left_end (need_nil _ _) (need_nil _ _) _
 | k+1,d,R,C,h=>by
   rw [show k+1+d=(k+d)+1 by omega,leftF,leftF]
   cases h1:needO f C R with
   | some i=>
     have:=need_lt h1
     exact left_fuel f f' k d _ _ (by rw [List.length_eraseIdx,if_pos this]; omega)
   | none=>
     dsimp only
     cases h2:needO f' R C with
     | some i=>
       have:=need_lt h2
       exact left_fuel f f' k d _ _ (by rw [List.length_eraseIdx,if_pos this]; omega)
     | none=>rfl
theorem iter_eight {m n:Nat} (f f':Nat→Row3) (hm:m≤4) (hn:n≤4):iterL f f' 8 (List.range m,List.range n)=leftF f f' (m+n) (List.range m) (List.range n):=by
 rw [iter_left,show 8=m+n+(8-(m+n)) by omega]
 exact left_fuel f f' (m+n) _ _ _ (by simp)
theorem step_ok {f f':Nat→Row3} {p:List Nat × List Nat} {X Y:List Nat} (h1:p.1.Sublist X) (h2:p.2.Sublist Y) (h3:0<p.1.length) (h4:0<p.2.length):(stepL f f' p).1.Sublist X∧(stepL f f' p).2.Sublist Y∧0<(stepL f f' p).1.length∧0<(stepL f f' p).2.length:=by
 unfold stepL
 cases e1:needO f p.2 p.1 with
 | some i=>
   obtain ⟨k1,k2, -⟩:=need_two e1
   exact ⟨(List.eraseIdx_sublist _ _).trans h1,h2,by show 0<(p.1.eraseIdx i).length; rw [List.length_eraseIdx,if_pos k1]; omega,h4⟩
 | none=>
   cases e2:needO f' p.1 p.2 with
   | some i=>
     obtain ⟨k1,k2, -⟩:=need_two e2
     exact ⟨h1,(List.eraseIdx_sublist _ _).trans h2,h3,by show 0<(p.2.eraseIdx i).length; rw [List.length_eraseIdx,if_pos k1]; omega⟩
   | none=>exact ⟨h1,h2,h3,h4⟩
theorem iter_ok {f f':Nat→Row3} {X Y:List Nat} (h3:0<X.length) (h4:0<Y.length) : ∀ k,(iterL f f' k (X,Y)).1.Sublist X∧(iterL f f' k (X,Y)).2.Sublist Y∧0<(iterL f f' k (X,Y)).1.length∧0<(iterL f f' k (X,Y)).2.length
 | 0=>⟨List.Sublist.refl _,List.Sublist.refl _,h3,h4⟩
 | k+1=>let ⟨a,b,c,d⟩:=iter_ok h3 h4 k; step_ok a b c d
end Go.Proofs.Ytkbbhihndigmeaa

namespace Go.Proofs.Ytkbbhihndigmeaa
open Go Go.RowKit
abbrev sl (b n c:Nat):Value:= .slice (some ⟨b,0,none⟩) n c
theorem sl_inj {b n c b' n' c':Nat} (h:sl b n c=sl b' n' c'):b=b'∧n=n'∧c=c':=by
 unfold sl at h
 injection h with h1 h2 h3
 injection h1 with h1
 injection h1 with h1
 exact ⟨h1,h2,h3⟩
def OwnR (e:TypeId) (size B:Nat) (w:World) (n:Nat) (xs:List Value) (g c:Nat):Prop:=w.ownsRow B e size (sl g n c) n xs
theorem OwnR.below {e:TypeId} {size B n g c:Nat} {xs:List Value} {w w':World} (h:OwnR e size B w n xs g c) (hb:Below w.heap.size w w'):OwnR e size B w' n xs g c:=by
 refine ⟨h.1,?_⟩
 rcases h.2 with h2 | ⟨g',cap,cur,hv,hbg,hg,h3⟩
 ·exact .inl h2
 ·exact .inr ⟨g',cap,cur,hv,hbg,(hb.block g' (Array.getElem?_eq_some_iff.1 hg).1).trans hg,h3⟩
theorem OwnR.st {e:TypeId} {size B n g c:Nat} {xs:List Value} : Stable fun w=>OwnR e size B w n xs g c:=fun _ _ h hb=>h.below hb
theorem OwnR.lt {e:TypeId} {size B n g c:Nat} {xs:List Value} {w:World} (h:OwnR e size B w n xs g c):B≤g∧g<w.heap.size:=World.ownsRow.lt h g rfl
theorem OwnR.cap {e:TypeId} {size B n g c:Nat} {xs:List Value} {w:World} (h:OwnR e size B w n xs g c):n≤c∧c≤maxLen:=by
 rcases h.2 with ⟨h2,_⟩ | ⟨g',cap,cur,hv,hbg,hg,h3,h4,_⟩
 ·cases h2
 ·obtain ⟨-, -,rfl⟩:=sl_inj hv
  exact ⟨h3,h4⟩
theorem lit_owns {e:TypeId} {size B:Nat} {w:World} (hB:B≤w.heap.size):OwnR e size B (w.alloc (.cells #[] e)) 0 [] w.heap.size 0:=by
 have h:=World.ownsRow_lit (base:=B) (e:=e) (size:=size) w #[] 0 hB (by unfold maxLen; omega) (by simp)
 exact h
theorem OwnR.ne {e e':TypeId} {size B n g c b:Nat} {xs:List Value} {w:World} {cs:Array Value} (h:OwnR e size B w n xs g c) (hb:w.heap[b]? = some (.cells cs e' (0,0))) (he:e ≠ e'):g ≠ b:=fun hgb=>by
 subst hgb
 rcases h.2 with ⟨h2,_⟩ | ⟨g',cap,cur,hv,hbg,hg,_⟩
 ·cases h2
 ·obtain ⟨rfl, -, -⟩:=sl_inj hv
  rw [hb] at hg
  injection hg with hg
  injection hg with _ h3 _
  exact he h3.symm
theorem OwnR.keep {e:TypeId} {size B n g c:Nat} {xs:List Value} {w w':World} (h:OwnR e size B w n xs g c) (hg:w'.heap[g]? = w.heap[g]?):OwnR e size B w' n xs g c:=by
 refine ⟨h.1,?_⟩
 rcases h.2 with h2 | ⟨g',cap,cur,hv,hbg,hg',h3⟩
 ·exact .inl h2
 ·obtain ⟨rfl, -, -⟩:=sl_inj hv
  exact .inr ⟨g,cap,cur,hv,hbg,hg.trans hg',h3⟩
def RowK (ks:Array Value) (e:TypeId) (w:World) (d:Nat):Prop:=w.heap[d]? = some (.cells ks e (0,0))
theorem RowK.st {ks:Array Value} {e:TypeId} {d:Nat} : Stable fun w=>RowK ks e w d:=fun _ _ h hb=>(hb.block d (heap_size_lt h)).trans h
section
variable {P:Program} {ts e:TypeId} {i0:TypeInfo} {z:Value} {size bytes:Nat} (ht:P.underlying ts=some (.slice e)) (hi:P.info? e=some i0) (hz:i0.zero=some z) (hs:i0.size=size) (hby:i0.bytes=bytes) (hzs:z.cells.size=size) (hsz:0<size)
include ht hi hz hs hby hzs hsz
theorem app_list {ty:TypeId} {B b c m n cap:Nat} {w0 w:World} {xs news:List Value} {a:Option Addr} (hC:Below B w0 w) (hB:B=w0.heap.size) (h:OwnR e size B w m xs b c)
 (hsrc:(n=0∧news=[]) ∨ ∃ ad,a=some ad∧news.length=n*size ∧ ∀ j u,news[j]? = some u→w.cell? (ad.add j)=some u) (h1 : ∀ u ∈ news,u.oneCell'=true) (hm:m+n≤maxLen) (hbytes:(m+n)*bytes≤140737488355328) :
 ∃ g c' w',(Builtin.append_ #[ts,ts] ty #[sl b m c, .slice a n cap]).run P w = .ok (sl g (m+n) c') w'∧OwnR e size B w' (m+n) (xs ++ news) g c'∧Below B w0 w'∧(∀ q o,q ≠ b→w.heap[q]? = some o→w'.heap[q]? = some o)∧(g=b∨w.heap.size≤g):=by
 by_cases h0:n=0
 ·subst h0
  have hn0:news=[]:=by
   rcases hsrc with ⟨-,h2⟩ | ⟨ad, -,h2, -⟩
   ·exact h2
   ·exact List.length_eq_zero_iff.1 (by omega)
  subst hn0
  refine ⟨b,c,w,?_,by simpa using h,hC,fun _ _ _ h=>h, .inl rfl⟩
  have hfc : ∀ w:World,(Builtin.firstCells i0.size 0 (.slice a 0 cap)).run P w = .ok #[] w:=fun w=>by
   cases a <;> simp [Builtin.firstCells,loadCells,loadCellsFrom]
  exact run_append_nothing w ts ts ty e i0 ht hi (some ⟨b,0,none⟩) m c h.cap.1 (.slice a 0 cap) ⟨.inl ⟨e,ht⟩,fun w'=>rfl,hfc _,hfc _,by simp,by simp⟩
 ·obtain ⟨ad,rfl,hl,hnews⟩ : ∃ ad,a=some ad∧news.length=n*size ∧ ∀ j u,news[j]? = some u→w.cell? (ad.add j)=some u:=by
    rcases hsrc with ⟨h2, -⟩ | h2
    ·exact absurd h2 h0
    ·exact h2
  obtain ⟨v',w',hr,h2,h3, -,h5⟩:=run_append_own_at (P:=P) w B ts ty e i0 z size bytes ht hi hz hs hby hzs hsz _ m xs h ad n cap news hl hnews h1 hm hbytes (by rw [hB]; exact hC.size)
  have hf : ∃ g cap,v'=sl g (m+n) cap:=by
   rcases h2.2 with ⟨_,e0⟩ | ⟨g,cap,cur,rfl,_⟩
   ·omega
   ·exact ⟨g,cap,rfl⟩
  obtain ⟨g,c',rfl⟩:=hf
  refine ⟨g,c',w',hr,h2,hC.grown h3 (by rw [hB]; exact hC.size) (fun j hj=>by cases hj; exact h.lt.1),fun q o hq ho => ?_,?_⟩
  ·rw [h3.block q (heap_size_lt ho) (fun e=>hq (by cases e; rfl))]
   exact ho
  ·rcases h5 with h5 | h5
   ·left
    have:=Option.some.inj h5
    exact this
   ·right
    have:=Option.some.inj h5
    exact Nat.le_of_eq this.symm
end
end Go.Proofs.Ytkbbhihndigmeaa

namespace Go.Proofs.Ytkbbhihndigmeaa
open Go Go.RowKit
def numL (g:Nat→Int) (m:Nat):List Value:=(List.range m).map fun i=> .int .i64 (g i)
theorem numL_len (g:Nat→Int) (m:Nat):(numL g m).length=m:=by simp [numL]
theorem numL_more (g:Nat→Int) (m:Nat):numL g (m+1)=numL g m ++ [.int .i64 (g m)]:=by simp [numL,List.range_succ]
theorem numL_get (g:Nat→Int) (m i:Nat) (h:i<m):(numL g m)[i]? = some (.int .i64 (g i)):=by simp [numL,h]
theorem numL_same {g h:Nat→Int} {m:Nat} (e : ∀ i,i<m→g i=h i):numL g m=numL h m:=List.map_congr_left fun i hi=>by rw [e i (List.mem_range.1 hi)]
theorem sl1_inj (b c:Nat) (h:(Value.slice (some ⟨b,0,none⟩) 1 1) = .slice (some ⟨c,0,none⟩) 1 1):b=c:=(sl_inj h).1
theorem sl0_inj (b c:Nat) (h:(Value.slice (some ⟨b,0,none⟩) 0 0) = .slice (some ⟨c,0,none⟩) 0 0):b=c:=(sl_inj h).1
theorem tab_ownG {w:World} {B n m:Nat} {L:List Value} {v:Value} {G:Nat→Nat→Int} (hL:L.length=n) (hv:OwnV 25 w B L v) (hr : ∀ j,j<n→OwnV 2 w B (numL (G j) m) (L.getD j undef)) :
 ∃ p cap f',v = .slice p n cap∧n≤cap∧cap≤9223372036854775807∧Tab w p n f'∧(∀ j,(f' j).n=m)∧(∀ j,(f' j).g=G j)∧(∀ j,m≤(f' j).cap∧(f' j).cap≤9223372036854775807+m):=by
 classical
 have hx : ∀ j,∃ R:Row3,R.n=m∧R.g=G j∧(m≤R.cap∧R.cap≤9223372036854775807+m)∧(j<n→L.getD j undef = .slice R.a R.n R.cap∧Ints w R.a R.n R.g):=fun j=>by
  by_cases hj:j<n
  ·obtain ⟨p,cap,h1,h2,h3,h4,h5,h6⟩:=(hr j hj).form
   rw [numL_len] at h1 h2
   exact ⟨⟨p,m,cap,G j⟩,rfl,rfl,⟨h2,by show cap≤_; omega⟩,fun _=>⟨h1,h5 m _ (numL_len (G j) m).symm fun i hi=>numL_get _ _ _ hi⟩⟩
  ·exact ⟨⟨none,m,m,G j⟩,rfl,rfl,⟨Nat.le_refl _,by show m≤_; omega⟩,fun h=>absurd h hj⟩
 obtain ⟨p,cap,h1,h2,h3,h4,h5,h6⟩:=hv.form
 rw [hL] at h1 h2
 refine ⟨p,cap,fun j=>Classical.choose (hx j),h1,h2,h3,⟨h5 n _ hL.symm fun i hi => ?_,fun i hi => ?_⟩,fun j=>(Classical.choose_spec (hx j)).1,fun j=>(Classical.choose_spec (hx j)).2.1,fun j=>(Classical.choose_spec (hx j)).2.2.1⟩
 ·have:=((Classical.choose_spec (hx i)).2.2.2 hi).1
  rw [← this,List.getD_eq_getElem?_getD,List.getElem?_eq_getElem (by omega)]
  rfl
 ·exact ((Classical.choose_spec (hx i)).2.2.2 hi).2
theorem OwnR.toV {e:TypeId} {B n g c:Nat} {xs:List Value} {w:World} (h:OwnR e 1 B w n xs g c) (hn:xs.length=n):OwnV e w B xs (sl g n c):=by
 subst hn
 exact h
theorem app64R {A w0:World} {xs news:List Value} {b c m n cap:Nat} {a:Option Addr} (hC:Below w0.heap.size w0 A) (h:OwnR 2 1 w0.heap.size A m xs b c)
 (hsrc:(n=0∧news=[]) ∨ ∃ ad,a=some ad∧news.length=n ∧ ∀ j u,news[j]? = some u→A.cell? (ad.add j)=some u) (h1 : ∀ u ∈ news,u.oneCell'=true) (hm:m≤1048576) (hn:n≤1048576) :
 ∃ g c' A',(Builtin.append_ #[25,25] 25 #[sl b m c, .slice a n cap]).run Try.prog A = .ok (sl g (m+n) c') A'∧OwnR 2 1 w0.heap.size A' (m+n) (xs ++ news) g c'∧Below w0.heap.size w0 A':=by
 obtain ⟨i0,hi,h2,h3,h4⟩:=info_one info64
 obtain ⟨g,c',A',r1,r2,r3, -⟩:=app_list (P:=Try.prog) Try.underlying25 hi h2 h3 h4 rfl (by omega) (ty:=25) (cap:=cap) hC rfl h (by simpa using hsrc) h1 (by unfold maxLen; omega) (by omega)
 exact ⟨g,c',A',r1,r2,r3⟩
theorem numL_one (g:Nat→Int) (m:Nat) : ∀ u ∈ numL g m,u.oneCell'=true:=fun u hu=>by
 obtain ⟨i, -,rfl⟩:=List.mem_map.1 hu
 rfl
theorem tabC {w:World} {b off m:Nat} {f:Nat→Row3} (hf:Tab w (some ⟨b,off,none⟩) m f) (y:World) (hy:Below w.heap.size w y) (i:Nat) (hi:i<m):y.cell? ⟨b,off+i,none⟩=some (.slice (f i).a (f i).n (f i).cap):=by
 obtain ⟨b2,off2,he2, -,hcc2⟩:=Tab.at (hf.below hy) i hi
 obtain ⟨rfl,rfl⟩:b2=b∧off2=off:=by injection he2 with he; injection he with h1 h2 _; exact ⟨h1.symm,h2.symm⟩
 exact hcc2 i hi
theorem rowCs {w:World} {a:Option Addr} {m:Nat} {f:Nat→Row3} (hf:Tab w a m f) (i:Nat) (hi:i<m) (h0:0<(f i).n) : ∃ rb ro,(f i).a=some ⟨rb,ro,none⟩ ∧ ∀ y,Below w.heap.size w y → ∀ q,q<(f i).n→y.cell? ⟨rb,ro+q,none⟩=some (.int .i64 ((f i).g q)):=by
 obtain ⟨rb,ro,hra, -, -⟩:=Cells.at (hf.2 i hi) 0 h0
 refine ⟨rb,ro,hra,fun y hy q hq => ?_⟩
 obtain ⟨b2,o2,he2, -,hc2⟩:=Cells.at ((hf.below hy).2 i hi) q hq
 obtain ⟨rfl,rfl⟩:b2=rb∧o2=ro:=by rw [hra] at he2; injection he2 with he; injection he with h1 h2 _; exact ⟨h1.symm,h2.symm⟩
 exact hc2 q hq
theorem lstC {w:World} {x:List Nat} {p:Option Addr} {cap:Nat} (h:Lst w x p cap) (h0:0<x.length) : ∃ b off,p=some ⟨b,off,none⟩ ∧ ∀ y,Below w.heap.size w y → ∀ i,i<x.length→y.cell? ⟨b,off+i,none⟩=some (.int .i64 ((x.getD i 0:Nat):Int)):=by
 obtain ⟨b,off,rfl,hz,hc⟩:=Cells.at h.cells 0 h0
 exact ⟨b,off,rfl,fun y hy i hi=>(hy.cell (p:=⟨b,off+i,none⟩) hz).trans (hc i hi)⟩
end Go.Proofs.Ytkbbhihndigmeaa

namespace Go.Proofs.Ytkbbhihndigmeaa
open Go Go.RowKit Go.Shelf
set_option maxRecDepth 100000 in
set_option maxHeartbeats 16000000 in
theorem rPart_c (a:Option Addr) (m n cap:Nat) (f:Nat→Row3) (R C:List Nat) (pr pc:Option Addr) (cr cc:Nat) (w:World) (hf:Tab w a m f) (hO:Okay m n f) (hR:Lst w R pr cr) (hC:Lst w C pc cc) (hRm : ∀ i ∈ R,i<m) (hCn : ∀ j ∈ C,j<n) (hR4:R.length≤4) (hC4:C.length≤4) :
 Calls Try.prog 49 #[tabV a m cap, .slice pr R.length cr, .slice pc C.length cc] w fun e w'=>(∃ p c f',e = .returned (tabV p R.length c)∧R.length≤c∧c≤9223372036854775807∧Tab w' p R.length f'∧(∀ j,(f' j).n=C.length) ∧ ∀ i,(f' i).g=fun j=>lossA f (R.getD i 0) (C.getD j 0))∧Below w.heap.size w w':=by
 obtain ⟨W,hW⟩ : ∃ W,((w.alloc (.cells #[.slice a m cap] 24)).alloc (.cells #[.slice none 0 0] 24)).alloc (.cells #[.slice none 0 0] 24)=W:=⟨_,rfl⟩
 have hB:Below w.heap.size w W:=by rw [← hW]; exact Below.alloc1 (Below.alloc1 (Below.alloc1 (Below.refl _ _) _ (Nat.le_refl _)) _ (Nat.le_refl _)) _ (Nat.le_refl _)
 have hRw:RowIs W w.heap.size #[.slice a m cap] 24:=by rw [← hW]; exact RowIs.alloc (RowIs.alloc (heap_new_at _ _ _ rfl) _) _
 have hQ:RowIs W (w.heap.size+1) #[.slice none 0 0] 24:=by rw [← hW]; exact RowIs.alloc (heap_new_at _ _ _ (by simp)) _
 have hS:RowIs W (w.heap.size+1+1) #[.slice none 0 0] 24:=by rw [← hW]; exact heap_new_at _ _ _ (by simp)
 have hm0:0<m:=hO.m1
 obtain ⟨b,off,rfl,hbs, -⟩:=Tab.at hf 0 hm0
 have HT:=Lib.hid (tabC hf)
 have HF:=Lib.hid hf
 have HR:=Lib.hid hRw
 have HQ:=Lib.hid hQ
 have HS:=Lib.hid hS
 have HB:=Lib.hid hB
 have HO:=Lib.hid hO
 have HRl:=Lib.hid hR
 have HCl:=Lib.hid hC
 have HRm:=Lib.hid hRm
 have HCn:=Lib.hid hCn
 obtain ⟨rl,hrl⟩ : ∃ rl,R.length=rl:=⟨_,rfl⟩
 obtain ⟨cl,hcl⟩ : ∃ cl,C.length=cl:=⟨_,rfl⟩
 have Hrl:=Lib.hid hrl
 have Hcl:=Lib.hid hcl
 rw [hrl,hcl]
 rw [hrl] at hR4
 rw [hcl] at hC4
 clear hf hO hQ hS hRw hB hR hC hRm hCn hrl hcl
 go_enter Try.func49,Try.ntmps49
 go_wp2_with fail
 clear hW
 go_loopw [8] (fun i wr=> ∃ k:Nat,k≤rl∧i = .int .i64 k ∧ ∃ L v,L.length=k∧OwnV 25 wr w.heap.size L v∧(∀ j,j<k→OwnV 2 wr w.heap.size (numL (fun q=>lossA f (R.getD j 0) (C.getD q 0)) cl) (L.getD j undef))∧RowIs wr (w.heap.size+1+1) #[v] 24∧RowIs wr w.heap.size #[.slice (some ⟨b,off,none⟩) m cap] 24∧RowIs wr (w.heap.size+1) #[.slice none 0 0] 24∧Below w.heap.size w wr) (fun i _=>rl-(intOf i).toNat)
 case atStart=>exact ⟨0,Nat.zero_le _,rfl,[],_,rfl,ownV_nil _ _ _,fun j hj=>absurd hj (Nat.not_lt_zero _),HS.out,HR.out,HQ.out,HB.out⟩
 case round=>
  obtain ⟨k,hk,rfl,L,v,hL,hv,hrows,hs,hr,hq,hb⟩:=hrel
  have Hs:=Lib.hid hs
  have Hr:=Lib.hid hr
  have Hq:=Lib.hid hq
  have Hv:=Lib.hid hv
  have Hb:=Lib.hid hb
  have Hrows:=Lib.hid hrows
  have HL:=Lib.hid hL
  clear hs hr hq hv hb hrows hL
  by_cases hlt:k<rl
  ·obtain ⟨X,hX⟩ : ∃ X:World,X=wr:=⟨_,rfl⟩
   subst hX
   go_wp2_with fail
   go_loopw [9,10] (fun x i wr=> ∃ (j:Nat) (u:Value),j≤cl∧i = .int .i64 j∧x=u∧OwnV 2 wr X.heap.size (numL (fun q=>lossA f (R.getD k 0) (C.getD q 0)) j) u∧Below X.heap.size X wr) (fun _ i _=>cl-(intOf i).toNat)
   case atStart=>exact ⟨0,_,Nat.zero_le _,rfl,rfl,ownV_nil _ _ _,Below.refl _ _⟩
   case round=>
    obtain ⟨j,u,hj,rfl,rfl,hu,hbx⟩:=hrel
    have hr2:=Hr.out.below hbx
    have rz:=Hr.out.lt
    have hb2:Below w.heap.size w wr:=Hb.out.trans (hbx.mono (by omega))
    by_cases hlj:j<cl
    ·skip
     obtain ⟨rb,ro,hpr,hrc⟩:=lstC HRl.out (by rw [Hrl.out]; omega)
     obtain ⟨cb,co,hpc,hcc⟩:=lstC HCl.out (by rw [Hcl.out]; omega)
     subst hpr hpc
     obtain ⟨i,hi⟩ : ∃ i,R.getD k 0=i:=⟨_,rfl⟩
     obtain ⟨c,hc⟩ : ∃ c,C.getD j 0=c:=⟨_,rfl⟩
     have him:i<m:=by rw [← hi]; exact HRm.out _ (getD_mem (by rw [Hrl.out]; exact hlt))
     have hcn:c<n:=by rw [← hc]; exact HCn.out _ (getD_mem (by rw [Hcl.out]; exact hlj))
     obtain ⟨lb,lo,hla,hlc⟩:=rowCs HF.out i him (by rw [HO.out.len i him]; omega)
     rw [HO.out.len i him] at hlc
     have hfn:=HO.out.len i him
     obtain ⟨icap,hicap⟩ : ∃ icap,(f i).cap=icap:=⟨_,rfl⟩
     obtain ⟨g,hg⟩ : ∃ g,(f i).g c=g:=⟨_,rfl⟩
     obtain ⟨up,uc,huf, -⟩:=hu.form
     rw [numL_len] at huf
     subst huf
     have hcell : ∀ y,Below w.heap.size w y→y.cell? ⟨b,off+i,none⟩=some (.slice (some ⟨lb,lo,none⟩) n icap)∧y.cell? ⟨lb,lo+c,none⟩=some (.int .i64 g)∧y.cell? ⟨rb,ro+k,none⟩=some (.int .i64 (i:Int))∧y.cell? ⟨cb,co+j,none⟩=some (.int .i64 (c:Int)):=fun y hy=>by
      have h1:=HT.out y hy i him
      rw [hfn,hla,hicap] at h1
      have h2:=hlc y hy c hcn
      rw [hg] at h2
      have h3:=hrc y hy k (by rw [Hrl.out]; exact hlt)
      rw [hi] at h3
      have h4:=hcc y hy j (by rw [Hcl.out]; exact hlj)
      rw [hc] at h4
      exact ⟨h1,h2,h3,h4⟩
     have hbox : ∀ y,Below wr.heap.size wr y→y.cell? ⟨w.heap.size,0,none⟩=some (.slice (some ⟨b,off,none⟩) m cap):=fun y hy=>RowIs.cell (hr2.below hy) 0
     have hFC : ∀ y,Below wr.heap.size wr y→Below wr.heap.size wr y:=fun y hy=>hy
     have hFC2 : ∀ y,Below wr.heap.size wr y→Below w.heap.size w y:=fun y hy=>hb2.trans (hy.mono hb2.size)
     have Hu:=Lib.hid hu
     have Hbx:=Lib.hid hbx
     have Hb2:=Lib.hid hb2
     have i0:wr.cell? ⟨w.heap.size,0,none⟩=some (.slice (some ⟨b,off,none⟩) m cap):=hbox wr (Below.refl _ _)
     have i1:(k:Int)<(rl:Int):=by omega
     have i2:(j:Int)<(cl:Int):=by omega
     have i3:(i:Int)<(m:Int):=by omega
     have i4:(c:Int)<(n:Int):=by omega
     clear hu hbx hb2 hr2 hrc hcc hlc hla
     go_wp2_with fail
     refine RC.wp_region_runF (C:=fun y=>y.cell? ⟨w.heap.size,0,none⟩=some (.slice (some ⟨b,off,none⟩) m cap)∧Below w.heap.size w y) (fun y=>Below wr.heap.size wr y) (by kernel_rfl) (stable_below wr) (Below.refl _ _) ?_
     change RC.Run _ _ _ _ _ 18 _ _ _
     refine RC.run_take (i:=0) (.slice up j uc) rfl (by kernel_rfl) (by kernel_rfl) (by kernel_rfl) rfl (fun y hy=>⟨hbox y hy,hFC2 y hy⟩) (fun y hy=>by obtain ⟨q0,q5⟩:=hy; obtain ⟨q1,q2,q3,q4⟩:=hcell y q5; go_simp) ?_
     simp only [puts]
     refine RC.run_take (i:=1) (.pointer (some ⟨w.heap.size,0,none⟩)) rfl (by kernel_rfl) (by kernel_rfl) (by kernel_rfl) rfl (fun y hy=>⟨hbox y hy,hFC2 y hy⟩) (fun y hy=>by obtain ⟨q0,q5⟩:=hy; obtain ⟨q1,q2,q3,q4⟩:=hcell y q5; go_simp) ?_
     simp only [puts]
     refine RC.run_take (i:=2) (.slice (some ⟨b,off,none⟩) m cap) rfl (by kernel_rfl) (by kernel_rfl) (by kernel_rfl) rfl (fun y hy=>⟨hbox y hy,hFC2 y hy⟩) (fun y hy=>by obtain ⟨q0,q5⟩:=hy; obtain ⟨q1,q2,q3,q4⟩:=hcell y q5; go_simp) ?_
     simp only [puts]
     refine RC.run_take (i:=3) (.slice (some ⟨rb,ro,none⟩) rl cr) rfl (by kernel_rfl) (by kernel_rfl) (by kernel_rfl) rfl (fun y hy=>⟨hbox y hy,hFC2 y hy⟩) (fun y hy=>by obtain ⟨q0,q5⟩:=hy; obtain ⟨q1,q2,q3,q4⟩:=hcell y q5; go_simp) ?_
     simp only [puts]
     refine RC.run_take (i:=4) (.int .i64 (k:Int)) rfl (by kernel_rfl) (by kernel_rfl) (by kernel_rfl) rfl (fun y hy=>⟨hbox y hy,hFC2 y hy⟩) (fun y hy=>by obtain ⟨q0,q5⟩:=hy; obtain ⟨q1,q2,q3,q4⟩:=hcell y q5; go_simp) ?_
     simp only [puts]
     refine RC.run_take (i:=5) (.pointer (some ⟨rb,ro+k,none⟩)) rfl (by kernel_rfl) (by kernel_rfl) (by kernel_rfl) rfl (fun y hy=>⟨hbox y hy,hFC2 y hy⟩) (fun y hy=>by obtain ⟨q0,q5⟩:=hy; obtain ⟨q1,q2,q3,q4⟩:=hcell y q5; go_simp) ?_
     simp only [puts]
     refine RC.run_take (i:=6) (.int .i64 (i:Int)) rfl (by kernel_rfl) (by kernel_rfl) (by kernel_rfl) rfl (fun y hy=>⟨hbox y hy,hFC2 y hy⟩) (fun y hy=>by obtain ⟨q0,q5⟩:=hy; obtain ⟨q1,q2,q3,q4⟩:=hcell y q5; go_simp) ?_
     simp only [puts]
     refine RC.run_take (i:=7) (.pointer (some ⟨b,off+i,none⟩)) rfl (by kernel_rfl) (by kernel_rfl) (by kernel_rfl) rfl (fun y hy=>⟨hbox y hy,hFC2 y hy⟩) (fun y hy=>by obtain ⟨q0,q5⟩:=hy; obtain ⟨q1,q2,q3,q4⟩:=hcell y q5; go_simp) ?_
     simp only [puts]
     refine RC.run_take (i:=8) (.slice (some ⟨lb,lo,none⟩) n icap) rfl (by kernel_rfl) (by kernel_rfl) (by kernel_rfl) rfl (fun y hy=>⟨hbox y hy,hFC2 y hy⟩) (fun y hy=>by obtain ⟨q0,q5⟩:=hy; obtain ⟨q1,q2,q3,q4⟩:=hcell y q5; go_simp) ?_
     simp only [puts]
     refine RC.run_take (i:=9) (.slice (some ⟨cb,co,none⟩) cl cc) rfl (by kernel_rfl) (by kernel_rfl) (by kernel_rfl) rfl (fun y hy=>⟨hbox y hy,hFC2 y hy⟩) (fun y hy=>by obtain ⟨q0,q5⟩:=hy; obtain ⟨q1,q2,q3,q4⟩:=hcell y q5; go_simp) ?_
     simp only [puts]
     refine RC.run_take (i:=10) (.int .i64 (j:Int)) rfl (by kernel_rfl) (by kernel_rfl) (by kernel_rfl) rfl (fun y hy=>⟨hbox y hy,hFC2 y hy⟩) (fun y hy=>by obtain ⟨q0,q5⟩:=hy; obtain ⟨q1,q2,q3,q4⟩:=hcell y q5; go_simp) ?_
     simp only [puts]
     refine RC.run_take (i:=11) (.pointer (some ⟨cb,co+j,none⟩)) rfl (by kernel_rfl) (by kernel_rfl) (by kernel_rfl) rfl (fun y hy=>⟨hbox y hy,hFC2 y hy⟩) (fun y hy=>by obtain ⟨q0,q5⟩:=hy; obtain ⟨q1,q2,q3,q4⟩:=hcell y q5; go_simp) ?_
     simp only [puts]
     refine RC.run_take (i:=12) (.int .i64 (c:Int)) rfl (by kernel_rfl) (by kernel_rfl) (by kernel_rfl) rfl (fun y hy=>⟨hbox y hy,hFC2 y hy⟩) (fun y hy=>by obtain ⟨q0,q5⟩:=hy; obtain ⟨q1,q2,q3,q4⟩:=hcell y q5; go_simp) ?_
     simp only [puts]
     refine RC.run_take (i:=13) (.pointer (some ⟨lb,lo+c,none⟩)) rfl (by kernel_rfl) (by kernel_rfl) (by kernel_rfl) rfl (fun y hy=>⟨hbox y hy,hFC2 y hy⟩) (fun y hy=>by obtain ⟨q0,q5⟩:=hy; obtain ⟨q1,q2,q3,q4⟩:=hcell y q5; go_simp) ?_
     simp only [puts]
     refine RC.run_take (i:=14) (.int .i64 g) rfl (by kernel_rfl) (by kernel_rfl) (by kernel_rfl) rfl (fun y hy=>⟨hbox y hy,hFC2 y hy⟩) (fun y hy=>by obtain ⟨q0,q5⟩:=hy; obtain ⟨q1,q2,q3,q4⟩:=hcell y q5; go_simp) ?_
     simp only [puts]
     refine RC.run_only (i:=15) (by kernel_rfl) (RC.at_make (w0:=wr) (t:=38) (z:= .cells #[.int .i64 g] 2 (0,0)) (fun q=> .slice (some ⟨q,0,none⟩) 1 1) (fun _=>False) sl1_inj rfl rfl rfl (fun y _=>by go_simp) (fun y h=>h.size) (fun _ _ _ h=>h.elim) ?_)
     intro d1 hd1 _
     simp only [Act.put,List.setIfInBounds_toArray,List.set_cons_zero,List.set_cons_succ]
     have hboxX : ∀ y,Below X.heap.size X y→y.cell? ⟨w.heap.size,0,none⟩=some (.slice (some ⟨b,off,none⟩) m cap):=fun y hy=>RowIs.cell (Hr.out.below hy) 0
     have hBX : ∀ y,Below X.heap.size X y→Below w.heap.size w y:=fun y hy=>Hb.out.trans (hy.mono (by omega))
     refine RC.run_only (i:=16) (by kernel_rfl) (RC.at_upd (fun v y=>OwnV 2 y X.heap.size (numL (fun q=>lossA f (R.getD k 0) (C.getD q 0)) j ++ [.int .i64 g]) v∧Below X.heap.size X y) rfl rfl (fun v y y1 h hb=>⟨h.1.below hb,h.2.trans (hb.mono h.2.size)⟩) (fun v y h=>⟨hboxX y h.2,hBX y h.2⟩) (fun y hy => ?_) ?_)
     ·obtain ⟨g1,g2⟩:=hy
      have hvY:=Hu.out.below g1
      have c4:y.cell? ⟨d1,0,none⟩=some (.int .i64 g):=RowIs.cell g2 0
      obtain ⟨v',Z,hrun,ho, -,hbz, -⟩:=app64 hvY (.int .i64 g) d1 c4 rfl (Nat.le_trans Hbx.out.size g1.size) (by rw [numL_len]; omega)
      exact ⟨v',Z,exec_app _ _ _ rfl _ _ rfl rfl hrun,ho,(Hbx.out.trans (g1.mono Hbx.out.size)).trans hbz⟩
     intro v2 hv2
     simp only [puts]
     refine RC.run_quiet (i:=17) (v2) (by kernel_rfl) rfl rfl (fun y hy=>by go_simp) ?_
     simp only [puts]
     refine ⟨by kernel_rfl,fun y hy => ?_⟩
     obtain ⟨h1,h2⟩:=hy
     have hnm:numL (fun q=>lossA f (R.getD k 0) (C.getD q 0)) j ++ [.int .i64 g]=numL (fun q=>lossA f (R.getD k 0) (C.getD q 0)) (j+1):=by rw [numL_more,hi,hc]; rw [show lossA f i c=g from hg]
     rw [hnm] at h1
     have H1:=Lib.hid h1
     have H2:=Lib.hid h2
     clear h1 h2 hcell hbox hFC hFC2 hboxX hBX hv2 hnm i0
     go_wp2_with fail
     go_roundw
     case rel=>exact ⟨j+1,v2,by omega,by go_num,rfl,H1.out,H2.out⟩
     case measure=>simp [intOf]; omega
    ·obtain rfl:j=cl:=by omega
     have hs2:=Hs.out.below hbx
     have s0:wr.cell? ⟨w.heap.size+1+1,0,none⟩=some v:=RowIs.cell hs2 0
     obtain ⟨vp,vc,hvf, -⟩:=Hv.out.form
     have hsz:w.heap.size+1+1<wr.heap.size:=hs2.lt
     obtain ⟨up,uc,huf, -⟩:=hu.form
     rw [numL_len] at huf
     rw [HL.out] at hvf
     obtain ⟨Y,hY⟩ : ∃ Y,wr.alloc (.cells #[u9] 25)=Y:=⟨_,rfl⟩
     have hyb:Below wr.heap.size wr Y:=by rw [← hY]; exact Below.alloc1 (Below.refl _ _) _ (Nat.le_refl _)
     have hyr:RowIs Y wr.heap.size #[u9] 25:=by rw [← hY]; exact heap_new_at _ _ _ rfl
     have hXY:Below X.heap.size X Y:=hbx.trans (hyb.mono hbx.size)
     have hDX:w.heap.size≤X.heap.size:=by omega
     obtain ⟨v',Z,hrun,ho,hgz,hbz, -⟩:=appS64 (Hv.out.below hXY) u9 wr.heap.size (hyr.cell 0) (by rw [huf]; rfl) (Nat.le_trans hDX hXY.size) (by rw [HL.out]; omega)
     have hvY:=Hv.out.below hXY
     have hsZ:=hvY.other hgz (hs2.below hyb) (by decide)
     have hrZ:=hvY.other hgz (hr2.below hyb) (by decide)
     have hqZ:=hvY.other hgz ((Hq.out.below hbx).below hyb) (by decide)
     have huZ:=hvY.keep hgz (hu.below hyb) (by decide)
     have hlZ : ∀ l,l<k→OwnV 2 Z w.heap.size (numL (fun q=>lossA f (R.getD l 0) (C.getD q 0)) j) (L.getD l undef):=fun l hl=>hvY.keep hgz ((Hrows.out l hl).below hXY) (by decide)
     have hbZ:Below w.heap.size w Z:=(hb2.trans (hyb.mono (by omega))).trans hbz
     have hfz:Z.frozen? ⟨w.heap.size+1+1,0,none⟩=false:=hsZ.frozen 0
     have hcz:Z.cell? ⟨w.heap.size+1+1,0,none⟩=some v:=hsZ.cell 0
     have hzz:w.heap.size+1+1<Z.heap.size:=hsZ.lt
     have HsZ:=Lib.hid hsZ
     have HrZ:=Lib.hid hrZ
     have HqZ:=Lib.hid hqZ
     have HuZ:=Lib.hid (huZ.base hDX)
     have HlZ:=Lib.hid hlZ
     have HbZ:=Lib.hid hbZ
     have Ho:=Lib.hid ho
     clear hu hbx hr2 hb2 hs2 hyb hyr hXY hvY hsZ hrZ hqZ huZ hlZ hbZ ho hgz hbz hDX
     obtain ⟨np,nc,hnf, -⟩:=Ho.out.form
     rw [show (L ++ [u9]).length=k+1 by simp [HL.out]] at hnf
     subst hnf
     subst hvf
     subst huf
     go_wp2_with (at_builtin; refine wpList_append_run rfl _ _ 22 rfl rfl rfl hrun ?_)
     clear hrun
     go_roundw
     case rel=>
      have hg:=getD_snoc (v:= .slice up j uc) (d:=undef) HL.out
      refine ⟨k+1,by omega,by go_num,L ++ [.slice up j uc], .slice np (k+1) nc,by simp [HL.out],?_,?_,HsZ.out.set 0 _,HrZ.out.other 0 _ (by omega),HqZ.out.other 0 _ (by omega),HbZ.out.setCell (p:=⟨w.heap.size+1+1,0,none⟩) (by show w.heap.size≤w.heap.size+1+1; omega) _⟩
      ·exact Ho.out.far HsZ.out (by decide)
      ·intro l hl
       by_cases e:l=k
       ·subst e
        rw [hg.1]
        exact HuZ.out.far HsZ.out (by decide)
       ·rw [hg.2 l (by omega)]
        exact (HlZ.out l (by omega)).far HsZ.out (by decide)
     case measure=>simp [intOf]; omega
  ·obtain rfl:k=rl:=by omega
   obtain ⟨p,c,hvf, -⟩:=Hv.out.form
   rw [HL.out] at hvf
   subst hvf
   have s0:wr.cell? ⟨w.heap.size+1+1,0,none⟩=some (.slice p k c):=RowIs.cell Hs.out 0
   have sz:w.heap.size+1+1<wr.heap.size:=Hs.out.lt
   have q0:wr.cell? ⟨w.heap.size+1,0,none⟩=some (.slice none 0 0):=RowIs.cell Hq.out 0
   have z0:wr.frozen? ⟨w.heap.size+1,0,none⟩=false:=RowIs.frozen Hq.out 0
   have qz:w.heap.size+1<wr.heap.size:=Hq.out.lt
   go_wp2_with fail
   have hq2:=Hq.out.set 0 (.slice p k c)
   have y0:=RowIs.cell hq2 0
   simp at y0
   obtain ⟨p',c',f',e1,h1,h2,h3,h4,h5, -⟩:=tab_ownG (G:=fun i q=>lossA f (R.getD i 0) (C.getD q 0)) HL.out (Hv.out.far (bb:=w.heap.size+1) (o:=0) (u:= .slice p k c) Hq.out (by decide)) fun j hj=>(Hrows.out j hj).far (bb:=w.heap.size+1) (o:=0) (u:= .slice p k c) Hq.out (by decide)
   simp only [Value.slice.injEq,true_and] at e1
   obtain ⟨rfl,rfl⟩:=e1
   exact bodyPost_ret (v:=tabV p k c) (by simp [results,Try.results49,go_sem,y0]) rfl ⟨⟨p,c,f',rfl,h1,h2,h3,h4,h5⟩,Hb.out.setCell (p:=⟨w.heap.size+1,0,none⟩) (by show w.heap.size≤w.heap.size+1; omega) _⟩
end Go.Proofs.Ytkbbhihndigmeaa
