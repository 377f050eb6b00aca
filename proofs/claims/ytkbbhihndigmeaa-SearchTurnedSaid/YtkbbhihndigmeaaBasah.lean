/- Contracts of layer 3: a list of ones (slices.Repeat). -/
import Derived.Laws.CopyOwn
import Derived.Test.YtkbbhihndigmeaaProg
import Derived.Test.YtkbbhihndigmeaaBasaa
import Derived.Test.YtkbbhihndigmeaaBasag
import Derived.Test.YtkbbhihndigmeaaBasaf
namespace Go.Proofs.Ytkbbhihndigmeaa
open Go Go.RowKit
theorem mul64_c (n:Nat) (hn:n≤4) (w:World):Calls Try.prog 112 #[.int .u64 1, .int .u64 (n:Int)] w fun e w'=>e = .returned (.tuple #[.int .u64 0, .int .u64 (n:Int)])∧w=w':=by
 have:n=0∨n=1∨n=2∨n=3∨n=4:=by omega
 rcases this with rfl | rfl | rfl | rfl | rfl
 all_goals
  go_enter Try.func112,Try.ntmps112
  go_wp2
  exact bodyPost_ret (by simp [results,Try.results112,go_sem]; rfl) rfl ⟨rfl,rfl⟩
def oneF (k i:Nat):Int:=if i<k then 1 else 0
theorem copy_ones {w:World} {L n k:Nat} {T:TypeId} (h:RowIs w L (rowA n (oneF k)) T) (_:0<k) (hk:k<n) (src:Addr) (m sc:Nat) (hs : ∀ j,j<m→w.cell? (src.add j)=some (.int .i64 1)) (_:m≤k) (c:Nat) :
 ∃ w',(Builtin.copy_ #[25,25] 3 #[.slice (some ⟨L,k,none⟩) (n-k) c, .slice (some src) m sc]).run Try.prog w = .ok (.int .i64 ((min m (n-k):Nat):Int)) w'∧RowIs w' L (rowA n (oneF (k+min m (n-k)))) T∧Below L w w':=by
 have hlen:(List.replicate (min m (n-k)) (Value.int .i64 1)).length=min m (n-k):=by simp
 have hrun:=run_copy_row (P:=Try.prog) w 25 25 3 2 L k (n-k) c src m sc (rowA n (oneF k)) T (List.replicate (min m (n-k)) (Value.int .i64 1)) Try.underlying25 one64 h hlen
  (fun j v hv=>by
    have hj:j<min m (n-k):=by have:=(List.getElem?_eq_some_iff.1 hv).1; simpa using this
    rw [List.getElem?_replicate,if_pos hj] at hv
    rw [← Option.some.inj hv]
    exact hs j (by omega)) (by simp [rowA]; omega) (by intro v hv; rw [List.eq_of_mem_replicate hv]; rfl)
 rw [hlen] at hrun
 have hr:=setRow_heap w L _ (((rowA n (oneF k)).toList.take k ++ List.replicate (min m (n-k)) (Value.int .i64 1) ++ (rowA n (oneF k)).toList.drop (k+min m (n-k))).toArray) T (0,0) h
 refine ⟨_,hrun,?_,below_setRow (Below.refl _ _) (Nat.le_refl _) _⟩
 have e:((rowA n (oneF k)).toList.take k ++ List.replicate (min m (n-k)) (Value.int .i64 1) ++ (rowA n (oneF k)).toList.drop (k+min m (n-k))).toArray=rowA n (oneF (k+min m (n-k))):=by
  apply Array.ext_getElem?
  intro i
  simp only [rowA,List.getElem?_toArray,List.append_assoc]
  by_cases h1:i<k
  ·rw [List.getElem?_append_left (by simp; omega),List.getElem?_take_of_lt h1]
   simp [oneF,h1,show i<n by omega,show i<k+min m (n-k) by omega]
  ·rw [List.getElem?_append_right (by simp; omega)]
   simp only [List.length_take,List.length_map,List.length_range]
   rw [show i-min k n=i-k by omega]
   by_cases h2:i<k+min m (n-k)
   ·rw [List.getElem?_append_left (by simp; omega),List.getElem?_replicate,if_pos (by omega)]
    simp [oneF,h2,show i<n by omega]
   ·rw [List.getElem?_append_right (by simp; omega),List.getElem?_drop]
    simp only [List.length_replicate]
    rw [show k+min m (n-k)+(i-k-min m (n-k))=i by omega]
    by_cases h3:i<n
    ·simp [oneF,h1,h2,h3]
    ·simp [h3]
 exact hr.trans (by rw [e])
theorem copy_one {w:World} {L n:Nat} {T:TypeId} (h:RowIs w L (rowA n fun _=>0) T) (hn:0<n) (src:Addr) (sc:Nat) (hs:w.cell? src=some (.int .i64 1)) :
 ∃ w',(Builtin.copy_ #[25,25] 3 #[.slice (some ⟨L,0,none⟩) n n, .slice (some src) 1 sc]).run Try.prog w = .ok (.int .i64 1) w'∧RowIs w' L (rowA n (oneF 1)) T∧Below L w w':=by
 have hrun:=run_copy_row (P:=Try.prog) w 25 25 3 2 L 0 n n src 1 sc (rowA n fun _=>0) T [Value.int .i64 1] Try.underlying25 one64 h (by show 1=min 1 n; omega)
  (fun j v hv=>by
    cases j with
    | zero=>rw [← hv]; exact hs
    | succ j=>simp at hv) (by simp [rowA]; omega) (by intro v hv; simp at hv; subst hv; rfl)
 have hr:=setRow_heap w L _ (((rowA n fun _=>0).toList.take 0 ++ [Value.int .i64 1] ++ (rowA n fun _=>0).toList.drop (0+[Value.int .i64 1].length)).toArray) T (0,0) h
 refine ⟨_,hrun,?_,below_setRow (Below.refl _ _) (Nat.le_refl _) _⟩
 have e:((rowA n fun _=>0).toList.take 0 ++ [Value.int .i64 1] ++ (rowA n fun _=>0).toList.drop (0+[Value.int .i64 1].length)).toArray=rowA n (oneF 1):=by
  apply Array.ext_getElem?
  intro i
  simp only [rowA,List.getElem?_toArray]
  cases i with
  | zero=>simp [oneF,hn]
  | succ i=>
    by_cases h3:i+1<n
    ·simp [oneF,h3]
    ·simp [h3]
 exact hr.trans (by rw [e])
set_option maxRecDepth 100000 in
set_option maxHeartbeats 8000000 in
theorem repeat_c (b n:Nat) (T:TypeId) (w:World) (hb:RowIs w b #[.int .i64 1] T) (hn0:0<n) (hn:n≤4) :
 Calls Try.prog 105 #[.slice (some ⟨b,0,none⟩) 1 1, .int .i64 (n:Int)] w fun e w'=>(∃ L,e = .returned (.slice (some ⟨L,0,none⟩) n n)∧RowIs w' L (rowA n fun _=>1) 2)∧Below w.heap.size w w':=by
 have u1:IntKind.u64.wrap (n:Int)=(n:Int):=by
  have:n=1∨n=2∨n=3∨n=4:=by omega
  rcases this with rfl | rfl | rfl | rfl <;> rfl
 have u2:IntKind.i64.wrap (n:Int)=(n:Int):=IntWalk.i64_in _ (by omega)
 have t1 : ¬ ((n:Int)<0):=by omega
 have t2 : ¬ (9223372036854775807<(n:Int)):=by omega
 have t3:decide (9223372036854775807<(n:Int))=false:=decide_eq_false t2
 have HM:=Lib.hid (mul64_c n hn)
 have mk:=make_row64 n hn
 have b0:w.cell? ⟨b,0,none⟩=some (.int .i64 1):=hb.cell 0
 have bz:=hb.lt
 obtain ⟨V,hV⟩ : ∃ V,w.alloc (.cells (rowA n fun _=>0) 2)=V:=⟨_,rfl⟩
 have hVb:Below w.heap.size w V:=by rw [← hV]; exact Below.alloc1 (Below.refl _ _) _ (Nat.le_refl _)
 have hVr:RowIs V w.heap.size (rowA n fun _=>0) 2:=by rw [← hV]; exact heap_new_at _ _ _ rfl
 obtain ⟨X,hcopy,hX,hXb⟩:=copy_one hVr hn0 ⟨b,0,none⟩ 1 ((hVb.cell (p:=⟨b,0,none⟩) bz).trans b0)
 have HX:=Lib.hid hX
 have HXb:=Lib.hid (hVb.trans hXb)
 clear hVb hVr hX hXb hb
 go_enter Try.func105,Try.ntmps105
 go_wp2_with fail
 refine (HM.out w).mono ?_
 rintro e w1 ⟨rfl,rfl⟩
 go_wp2_with fail
 clear hV hcopy mk HM
 go_loopw [8] (fun i wr=> ∃ k:Nat,0<k∧k≤n∧i = .int .i64 k∧RowIs wr w.heap.size (rowA n (oneF k)) 2∧Below w.heap.size w wr) (fun i _=>n-(intOf i).toNat)
 case atStart=>exact ⟨1,by omega,hn0,rfl,HX.out,HXb.out⟩
 case round=>
  obtain ⟨k,hk0,hk,rfl,hr,hb⟩:=hrel
  by_cases hlt:k<n
  ·have hcl : ∀ (x:Later wr),∃ w',(Builtin.copy_ #[25,25] 3 #[.slice (some ⟨w.heap.size,k,none⟩) (n-k) (n-k), .slice (some ⟨w.heap.size,0,none⟩) k n]).run Try.prog x.w = .ok (.int .i64 ((min k (n-k):Nat):Int)) w'∧RowIs w' w.heap.size (rowA n (oneF (k+min k (n-k)))) 2∧Below w.heap.size x.w w':=fun x=>
     copy_ones (hr.below x.h) hk0 hlt _ k n (fun j hj=>by
      rw [Addr.add_lit,Nat.zero_add]
      refine ((hr.below x.h).cell j).trans ((rowA_get n _ j (by omega)).trans ?_)
      unfold oneF; rw [if_pos hj]) (Nat.le_refl _) _
   have HCl:=Lib.hid hcl
   have Hb:=Lib.hid hb
   have rz:=hr.lt
   have j1:(k:Int)≤(n:Int):=by omega
   have hm:k+min k (n-k)≤n:=by omega
   have hw:IntKind.i64.wrap ((k:Int)+((min k (n-k):Nat):Int))=((k+min k (n-k):Nat):Int):=by rw [IntWalk.i64_in _ (by omega)]; omega
   clear hcl hb hr
   obtain ⟨w2,hrun,hr2,hb2⟩:=HCl.out ⟨wr.drew,Below.drew (Below.refl _ _)⟩
   have Hr2:=Lib.hid hr2
   have Hb2:=Lib.hid ((Hb.out.drew).trans hb2)
   clear hr2 hb2
   dsimp only at hrun
   go_wp2_with fail
   go_region
   all_goals
    go_wp2_with fail
    go_roundw
    case rel=>exact ⟨k+min k (n-k),by omega,hm,rfl,Hr2.out,Hb2.out⟩
    case measure=>simp [intOf]; omega
  ·obtain rfl:k=n:=by omega
   have hr2:RowIs wr w.heap.size (rowA k fun _=>1) 2:=by rw [← rowA_same (h:=oneF k) (fun i hi=>if_pos hi)]; exact hr
   have Hr2:=Lib.hid hr2
   clear hr hr2
   go_wp2_with fail
   go_ret
   exact ⟨⟨_,rfl,Hr2.out⟩,hb⟩
end Go.Proofs.Ytkbbhihndigmeaa

namespace Go.Proofs.Ytkbbhihndigmeaa
open Go Go.RowKit
def rowV (s:Nat) (h:Nat→Value):Array Value:=((List.range s).map h).toArray
theorem rowV_get (s:Nat) (h:Nat→Value) (j:Nat) (hj:j<s):(rowV s h)[j]? = some (h j):=by simp [rowV,hj]
theorem rowV_set (s:Nat) (h g:Nat→Value) (j:Nat) (v:Value) (hv:v=g j) (hg : ∀ i,i<s→i ≠ j→g i=h i):(rowV s h).setIfInBounds j v=rowV s g:=by
 apply Array.ext_getElem?
 intro i
 simp only [rowV,Array.getElem?_setIfInBounds]
 by_cases e:j=i
 ·subst e
  by_cases hj:j<s
  ·simp [hj,hv]
  ·simp [hj]
 ·by_cases hi:i<s
  ·simp [e,hi,hg i hi (fun h=>e h.symm)]
  ·simp [e,hi]
theorem rowV_same {s:Nat} {h g:Nat→Value} (e : ∀ i,i<s→h i=g i):rowV s h=rowV s g:=by
 apply Array.ext_getElem?
 intro i
 by_cases hi:i<s
 ·rw [rowV_get s h i hi,rowV_get s g i hi,e i hi]
 ·simp [rowV,hi]
theorem replicate_rowV (s:Nat) (v:Value):Array.replicate s v=rowV s fun _=>v:=by
 apply Array.ext_getElem?
 intro i
 by_cases hi:i<s
 ·rw [rowV_get s _ i hi,Array.getElem?_replicate,if_pos hi]
 ·simp [rowV,hi]
def hdV (r:Row3):Value:= .slice r.a r.n r.cap
theorem tab_rowV {w:World} {b k:Nat} {F:Nat→Row3} {T:TypeId} (h:RowIs w b (rowV k fun i=>hdV (F i)) T) (hr : ∀ i,i<k→Ints w (F i).a (F i).n (F i).g):Tab w (some ⟨b,0,none⟩) k F:=
 ⟨.inr ⟨b,0,rfl,h.lt,fun i hi=>by rw [Nat.zero_add]; exact (h.cell i).trans (rowV_get k _ i hi)⟩,hr⟩
def chosenF (f:Nat→Row3) (R:List Nat) (i:Nat):Row3:=f (R.getD i 0)
def onesR (L n:Nat):Row3:=⟨some ⟨L,0,none⟩,n,n,fun _=>1⟩
theorem rowsL_map : ∀ (F:Nat→Row3) (k:Nat),rowsL F k=(List.range k).map fun i=>(F i).g
 | _,0=>rfl
 | F,k+1=>by
   rw [rowsL,rowsL_map,List.range_succ_eq_map,List.map_cons,List.map_map]
   rfl
def partI (f:Nat→Row3) (R G:List Nat) (i:Nat):Int:=detP ((rowsL (chosenF f R) R.length).set i fun _=>1) G
theorem rowsL_set (F:Nat→Row3) (k i:Nat) (r:Row3):rowsL (fun j=>if j=i then r else F j) k=(rowsL F k).set i r.g:=by
 rw [rowsL_map,rowsL_map]
 apply List.ext_getElem?
 intro j
 rw [List.getElem?_set]
 by_cases hj:j<k
 ·by_cases e:i=j
  ·subst e; simp [hj]
  ·have e2 : ¬ j=i:=fun h=>e h.symm
   simp [hj,e,e2]
 ·by_cases e:i=j
  ·subst e; simp [hj]
  ·simp [hj,e]
def putR (R:List Nat) (y:Nat→Int):Nat→Nat→Int
 | 0,_=>0
 | k+1,i=>if i=R.getD k 0 then y k else putR R y k i
def rawP (f:Nat→Row3) (R G:List Nat):Nat→Int:=putR R (partI f R G) R.length
def leastP (p:Nat→Int):Int:=leastF p 4
def byP (p:Nat→Int):Int:=if leastP p<0 then-divF p 4 else divF p 4
def quoP (p:Nat→Int) (i:Nat):Int:=(p i).tdiv (byP p)
def planQ (f:Nat→Row3) (R G:List Nat):Nat→Int:=quoP (rawP f R G)
def zeroB4 (p:Nat→Int):Bool:=p 0==0 && (p 1==0 && (p 2==0 && p 3==0))
def foundB (f:Nat→Row3) (R G:List Nat):Bool:=decide (0≤leastP (planQ f R G)) && !zeroB4 (planQ f R G)
theorem gcdF_bd (f:Nat→Int) (B:Nat) : ∀ n,(∀ i,i<n→(f i).natAbs≤B)→gcdF f n≤B
 | 0,_=>by simp [gcdF]
 | n+1,h=>by
   have h1:=h n (by omega)
   have h2:=gcdF_bd f B n fun i hi=>h i (by omega)
   simp only [gcdF,Int.gcd,Int.natAbs_natCast]
   by_cases h0:f n=0
   ·rw [h0]; simp; exact h2
   ·exact Nat.le_trans (Nat.le_of_dvd (by omega) (Nat.gcd_dvd_right _ _)) h1
theorem div_pos (p:Nat→Int):1≤divF p 4:=by unfold divF; omega
theorem by_not (p:Nat→Int):byP p ≠ 0:=by have:=div_pos p; unfold byP; split <;> omega
theorem putR_bd {R:List Nat} {y:Nat→Int} {B:Int} (hB:0≤B) : ∀ {k:Nat},(∀ i,i<k → -B≤y i∧y i≤B) → ∀ i, -B≤putR R y k i∧putR R y k i≤B
 | 0,_,i=>by simp [putR]; omega
 | k+1,h,i=>by
   rw [putR]
   split
   ·exact h k (by omega)
   ·exact putR_bd hB (fun i hi=>h i (by omega)) i
def MildL (n:Nat):List (Nat→Int)→List Int→Prop
 | [],[]=>True
 | r :: rs,b :: bs=>(0≤b ∧ ∀ j,j<n → -b≤r j∧r j≤b)∧MildL n rs bs
 | _,_=>False
def detBL:List Int→Int
 | []=>1
 | b :: bs=>b*detBL bs*((bs.length:Int)+1)
theorem detBL_nn {n:Nat} : ∀ {rs:List (Nat→Int)} {bs:List Int},MildL n rs bs→0≤detBL bs
 | [],[],_=>by decide
 | _ :: rs,b :: bs,h=>by
   have h1:=detBL_nn h.2
   exact Int.mul_nonneg (Int.mul_nonneg h.1.1 h1) (by omega)
 | [],_ :: _,h=>h.elim
 | _ :: _,[],h=>h.elim
theorem MildL.len {n:Nat} : ∀ {rs:List (Nat→Int)} {bs:List Int},MildL n rs bs→rs.length=bs.length
 | [],[],_=>rfl
 | _ :: _,_ :: _,h=>by rw [List.length_cons,List.length_cons,MildL.len h.2]
 | [],_ :: _,h=>h.elim
 | _ :: _,[],h=>h.elim
theorem detP_bdL {n:Nat} : ∀ (rs:List (Nat→Int)) (bs:List Int) (x:List Nat),MildL n rs bs→x.length=rs.length→(∀ i ∈ x,i<n) → -(detBL bs)≤detP rs x∧detP rs x≤detBL bs
 | [],[],_,_,_,_=>by simp [detP,detBL]
 | [],_ :: _,_,h,_,_=>h.elim
 | _ :: _,[],_,h,_,_=>h.elim
 | r :: rs,b :: bs,x,h,hx,hn=>by
   rw [detP,hx]
   rw [List.length_cons] at hx ⊢
   have h1 : ∀ j,j<rs.length+1 → -(b*detBL bs)≤r (x.getD j 0)*detP rs (x.eraseIdx j)∧r (x.getD j 0)*detP rs (x.eraseIdx j)≤b*detBL bs:=fun j hj=>by
    have hjx:j<x.length:=by omega
    have hxj:x.getD j 0 ∈ x:=by rw [List.getD_eq_getElem?_getD,List.getElem?_eq_getElem hjx]; exact List.getElem_mem hjx
    exact mul_ab (h.1.2 _ (hn _ hxj)) (detP_bdL rs bs _ h.2 (by rw [List.length_eraseIdx,if_pos hjx]; omega) fun i hi=>hn i (List.mem_of_mem_eraseIdx hi)) h.1.1
   have h2:=altSum_bd (h:=fun j=>r (x.getD j 0)*detP rs (x.eraseIdx j)) h1 (rs.length+1) (Nat.le_refl _)
   have e:b*detBL bs*((rs.length+1:Nat):Int)=detBL (b :: bs):=by
    rw [detBL,MildL.len h.2]
    simp
   rw [e] at h2
   exact h2
theorem mildL_rows {n:Nat} : ∀ (k i:Nat) (F:Nat→Row3),Mild k n F→MildL n ((rowsL F k).set i fun _=>1) ((List.replicate k 100).set i 1)
 | 0,_,_,_=>by simp [rowsL,MildL]
 | k+1,0,F,h=>by
   have aux : ∀ (k:Nat) (F:Nat→Row3),Mild k n F→MildL n (rowsL F k) (List.replicate k 100):=by
    intro k
    induction k with
    | zero=>intro _ _; trivial
    | succ k ih=>
      intro F h
      exact ⟨⟨by decide,fun j hj=>(h 0 (by omega)).2 j hj⟩,ih _ h.tail⟩
   exact ⟨⟨by decide,fun j _=>⟨show (-1:Int)≤1 by decide,show (1:Int)≤1 by decide⟩⟩,aux k _ h.tail⟩
 | k+1,i+1,F,h=>⟨⟨by decide,fun j hj=>(h 0 (by omega)).2 j hj⟩,mildL_rows k i _ h.tail⟩
theorem partI_bd {f:Nat→Row3} {m n:Nat} {R G:List Nat} (hO:Okay m n f) (hR : ∀ i ∈ R,i<m) (hG : ∀ i ∈ G,i<n) (hl:G.length=R.length) (hk:R.length≤4) (i:Nat) (hi:i<R.length) : -24000000≤partI f R G i∧partI f R G i≤24000000:=by
 have hM:Mild R.length n (chosenF f R):=fun s hs=>by
  have:R.getD s 0<m:=hR _ (getD_mem hs)
  exact ⟨hO.len _ this,hO.num _ this⟩
 have h:=detP_bdL _ _ G (mildL_rows R.length i (chosenF f R) hM) (by rw [List.length_set,rowsL_len]; exact hl) hG
 have hb:detBL ((List.replicate R.length 100).set i 1)≤24000000:=by
  generalize R.length=k at hk hi
  have:k=1∨k=2∨k=3∨k=4:=by omega
  rcases this with rfl | rfl | rfl | rfl
  ·obtain rfl:i=0:=by omega
   decide
  ·have:i=0∨i=1:=by omega
   rcases this with rfl | rfl <;> decide
  ·have:i=0∨i=1∨i=2:=by omega
   rcases this with rfl | rfl | rfl <;> decide
  ·have:i=0∨i=1∨i=2∨i=3:=by omega
   rcases this with rfl | rfl | rfl | rfl <;> decide
 unfold partI
 omega
theorem tdiv_bd {a b B:Int} (h : -B≤a∧a≤B) : -B≤a.tdiv b∧a.tdiv b≤B:=by
 have h1:(a.tdiv b).natAbs≤a.natAbs:=by
  rw [Int.natAbs_tdiv]
  exact Nat.div_le_self _ _
 omega
theorem rawP_bd {f:Nat→Row3} {m n:Nat} {R G:List Nat} (hO:Okay m n f) (hR : ∀ i ∈ R,i<m) (hG : ∀ i ∈ G,i<n) (hl:G.length=R.length) (hk:R.length≤4) (j:Nat) : -24000000≤rawP f R G j∧rawP f R G j≤24000000:=
 putR_bd (by decide) (fun i hi=>partI_bd hO hR hG hl hk i hi) j
theorem planQ_bd {f:Nat→Row3} {m n:Nat} {R G:List Nat} (hO:Okay m n f) (hR : ∀ i ∈ R,i<m) (hG : ∀ i ∈ G,i<n) (hl:G.length=R.length) (hk:R.length≤4) (j:Nat) : -24000000≤planQ f R G j∧planQ f R G j≤24000000:=
 tdiv_bd (rawP_bd hO hR hG hl hk j)
end Go.Proofs.Ytkbbhihndigmeaa
