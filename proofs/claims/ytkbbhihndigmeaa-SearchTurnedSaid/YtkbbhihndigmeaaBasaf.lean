/- Plain mathematics: no plan is sure of more than some plan that a choice of rows and columns tells (Shapley and Snow). It uses nothing of the program but words. -/
import Derived.Test.YtkbbhihndigmeaaProg
import Derived.Test.YtkbbhihndigmeaaBasae
import Derived.Test.YtkbbhihndigmeaaBasaa
import Derived.Test.YtkbbhihndigmeaaBasac
import Derived.Test.YtkbbhihndigmeaaBasad
namespace Go.Proofs.Ytkbbhihndigmeaa
def inj (R:List Nat) (y:Nat→Int):Nat→Nat→Int
 | 0,_=>0
 | k+1,i=>inj R y k i+if R.getD k 0=i then y k else 0
theorem inj_dot (R:List Nat) (y f:Nat→Int) (m:Nat) : ∀ k,(∀ s,s<k→R.getD s 0<m)→dotN (inj R y k) f m=dotN y (fun s=>f (R.getD s 0)) k
 | 0,_=>by
   rw [show inj R y 0=fun _=>0 from rfl]
   have : ∀ m,dotN (fun _=>0) f m=0:=fun m=>by
    induction m with
    | zero=>rfl
    | succ m ih=>rw [dotN,ih]; simp
   rw [this]; rfl
 | k+1,h=>by
   rw [show inj R y (k+1)=fun i=>inj R y k i+(if R.getD k 0=i then y k else 0) from rfl,dotN_add (inj R y k),inj_dot R y f m k (fun s hs=>h s (by omega)),dotN]
   have h2 : ∀ N,dotN (fun i=>if R.getD k 0=i then y k else 0) f N=if R.getD k 0<N then y k*f (R.getD k 0) else 0:=fun N=>by
    induction N with
    | zero=>rfl
    | succ N ih=>
      rw [dotN,ih]
      by_cases h3:R.getD k 0=N
      ·rw [if_neg (by omega),if_pos h3,if_pos (by omega),h3]; omega
      ·rw [if_neg h3]
       by_cases h4:R.getD k 0<N
       ·rw [if_pos h4,if_pos (by omega)]; omega
       ·rw [if_neg h4,if_neg (by omega)]; simp
   rw [h2,if_pos (h k (by omega))]
theorem inj_out {R:List Nat} {y:Nat→Int} {i:Nat} : ∀ {k:Nat},(∀ s,s<k→R.getD s 0 ≠ i)→inj R y k i=0
 | 0,_=>rfl
 | k+1,h=>by rw [inj,inj_out (fun s hs=>h s (by omega)),if_neg (h k (by omega))]; rfl
theorem getD_inj {R:List Nat} (hR:R.Nodup) {s t:Nat} (hs:s<R.length) (ht:t<R.length) (h:R.getD s 0=R.getD t 0):s=t:=by
 rw [List.getD_eq_getElem?_getD,List.getD_eq_getElem?_getD,List.getElem?_eq_getElem hs,List.getElem?_eq_getElem ht] at h
 exact (List.getElem_inj hR).1 h
theorem inj_in {R:List Nat} (hR:R.Nodup) {y:Nat→Int} {s:Nat} : ∀ {k:Nat},s<k→k≤R.length→inj R y k (R.getD s 0)=y s
 | 0,h,_=>absurd h (Nat.not_lt_zero _)
 | k+1,h,hk=>by
   rw [inj]
   by_cases e:s=k
   ·subst e
    rw [inj_out (fun t ht he=>by have:=getD_inj hR (by omega) (by omega) he; omega),if_pos rfl]
    omega
   ·rw [inj_in hR (by omega) (by omega),if_neg (fun he=>e (getD_inj hR (by omega) (by omega) he).symm)]
    omega
theorem getD_mem {R:List Nat} {s:Nat} (h:s<R.length):R.getD s 0 ∈ R:=by
 rw [List.getD_eq_getElem?_getD,List.getElem?_eq_getElem h]
 exact List.getElem_mem h
theorem mem_getD {R:List Nat} {i:Nat} (h:i ∈ R) : ∃ s,s<R.length∧R.getD s 0=i:=by
 obtain ⟨s,hs,rfl⟩:=List.getElem_of_mem h
 exact ⟨s,hs,by rw [List.getD_eq_getElem?_getD,List.getElem?_eq_getElem hs]; rfl⟩
theorem dot_supp (x f:Nat→Int) (m:Nat):dotN x f m=dotN (fun s=>x ((supp x m).getD s 0)) (fun s=>f ((supp x m).getD s 0)) (supp x m).length:=by
 rw [← inj_dot (supp x m) (fun s=>x ((supp x m).getD s 0)) f m _ fun s hs=>(supp_iff.1 (getD_mem hs)).1]
 have h : ∀ i,i<m→x i=inj (supp x m) (fun s=>x ((supp x m).getD s 0)) (supp x m).length i:=fun i hi=>by
  by_cases h0:x i=0
  ·rw [h0,inj_out]
   exact fun s hs he=>(supp_iff.1 (getD_mem hs)).2 (by rw [he]; exact h0)
  ·obtain ⟨s,hs,rfl⟩:=mem_getD (supp_iff.2 ⟨hi,h0⟩)
   rw [inj_in (supp_nodup x m) hs (Nat.le_refl _)]
 have h2 : ∀ {u v:Nat→Int} {N:Nat},(∀ i,i<N→u i=v i)→dotN u f N=dotN v f N:=by
  intro u v N
  induction N with
  | zero=>exact fun _=>rfl
  | succ N ih=>exact fun e=>by rw [dotN,dotN,ih (fun i hi=>e i (by omega)),e N (by omega)]
 exact h2 h
theorem ag_exists (A:Nat→Nat→Int) (x:Nat→Int) (m:Nat) : ∀ n,0<n → ∃ j,j<n ∧ ∀ l,l<n→ag A x m j≤ag A x m l
 | 0,h=>absurd h (Nat.lt_irrefl _)
 | 1,_=>⟨0,by omega,fun l hl=>by rw [show l=0 by omega]; exact Int.le_refl _⟩
 | n+2,_=>by
   obtain ⟨j,hj,h⟩:=ag_exists A x m (n+1) (by omega)
   by_cases hc:ag A x m j≤ag A x m (n+1)
   ·exact ⟨j,by omega,fun l hl=>by
      by_cases e:l=n+1
      ·rw [e]; exact hc
      ·exact h l (by omega)⟩
   ·exact ⟨n+1,by omega,fun l hl=>by
      by_cases e:l=n+1
      ·rw [e]; exact Int.le_refl _
      ·have:=h l (by omega); omega⟩
def lossM (A:Nat→Nat→Int) (R G:List Nat) (a b:Nat):Int:=A (R.getD a 0) (G.getD b 0)
def partsOf (A:Nat→Nat→Int) (R G:List Nat) (a:Nat):Int:=partP (tabM (lossM A R G) R.length) a R.length
def Told (A:Nat→Nat→Int) (m n:Nat) (x:Nat→Int):Prop:=
 ∃ (R G:List Nat) (e:Int),R.Sublist (List.range m)∧G.Sublist (List.range n)∧G.length=R.length∧0<R.length∧(e=1∨e = -1)∧(∀ a,a<R.length→0≤e*partsOf A R G a)∧(∃ a,a<R.length∧partsOf A R G a ≠ 0) ∧
   ∀ v s:Int,0<s→(∀ j,j<n→v*tot x m≤s*ag A x m j) → ∀ j,j<n→v*tot (inj R (fun a=>e*partsOf A R G a) R.length) m≤s*ag A (inj R (fun a=>e*partsOf A R G a) R.length) m j
theorem scaled {x c v s T B t g:Int} (k1:x*T=c*t) (k2:x*B=c*g) (h:c*(v*t)≤c*(s*g)):x*(v*T)≤x*(s*B):=by
 have a1:x*(v*T)=c*(v*t):=by grind
 have a2:x*(s*B)=c*(s*g):=by grind
 omega
theorem told_of (A:Nat→Nat→Int) (m n:Nat) (x:Nat→Int) (hm:m≤4) (hx : ∀ i,i<m→0≤x i) (ht:0<tot x m) (G S:List Nat) (hG:G.Sublist (tight A x m n)) (hGl:G.length=(supp x m).length) (hS:S.length=(supp x m).length) (hSN : ∀ c,c ∈ S→c<(supp x m).length+1)
 (hdet:detP (formsM (lossM A (supp x m) G) (supp x m).length) S ≠ 0):Told A m n x:=by
 obtain ⟨R,hR⟩ : ∃ R,supp x m=R:=⟨_,rfl⟩
 have hds:=fun f=>dot_supp x f m
 have hRi : ∀ i,i ∈ R↔i<m∧x i ≠ 0:=fun i=>by rw [← hR]; exact supp_iff
 have hRn:R.Nodup:=by rw [← hR]; exact supp_nodup x m
 have hRs:R.Sublist (List.range m):=by rw [← hR]; exact List.filter_sublist
 rw [hR] at hGl hS hSN hdet
 simp only [hR] at hds
 have hRl:R.length≤m:=by have:=hRs.length_le; simpa using this
 have hRm : ∀ s,s<R.length→R.getD s 0<m:=fun s hs=>((hRi _).1 (getD_mem hs)).1
 have hxp : ∀ s,s<R.length→0<x (R.getD s 0):=fun s hs=>by
  have h1:=(hRi _).1 (getD_mem hs)
  have h2:=hx _ h1.1
  omega
 have hR0:0<R.length:=by
  refine Nat.pos_of_ne_zero fun h0 => ?_
  have:=hds fun _=>1
  rw [h0] at this
  unfold tot at ht
  rw [this] at ht
  exact absurd ht (Int.lt_irrefl _)
 obtain ⟨b,hb,hPb⟩ : ∃ b,b<R.length∧partsOf A R G b ≠ 0:=by
  refine Classical.byContradiction fun hno=>hdet (part_det _ _ (by omega) hR0 (fun i hi=>Classical.byContradiction fun h=>hno ⟨i,hi,h⟩) S hS hSN)
 have hun : ∀ a,a<R.length→x (R.getD a 0)*partsOf A R G b=x (R.getD b 0)*partsOf A R G a:=fun a ha=>by
  refine uniq (lossM A R G) (fun s=>x (R.getD s 0)) (ag A x m (G.getD 0 0)) R.length (by omega) (fun c hc => ?_) ha hb
  have h1:=hds fun i=>A i (G.getD c 0)
  have e:dotN (fun s=>x (R.getD s 0)) (fun i=>lossM A R G i c) R.length=ag A x m (G.getD c 0):=h1.symm
  rw [e]
  have t1:=tight_iff.1 (hG.subset (getD_mem (s:=c) (by omega)))
  have t2:=tight_iff.1 (hG.subset (getD_mem (s:=0) (R:=G) (by omega)))
  have:=t1.2 _ t2.1
  have:=t2.2 _ t1.1
  omega
 obtain ⟨e,he,hpos⟩ : ∃ e:Int,(e=1∨e = -1)∧0<e*partsOf A R G b:=by
  by_cases h:0<partsOf A R G b
  ·exact ⟨1, .inl rfl,by omega⟩
  ·exact ⟨-1, .inr rfl,by omega⟩
 have hxb:=hxp b hb
 have hsc : ∀ a,a<R.length→x (R.getD b 0)*(e*partsOf A R G a)=(e*partsOf A R G b)*x (R.getD a 0):=fun a ha=>by
  have:=hun a ha
  grind
 have hge : ∀ a,a<R.length→0≤e*partsOf A R G a:=fun a ha=>by
  have h1:=Int.mul_nonneg (Int.le_of_lt hpos) (Int.le_of_lt (hxp a ha))
  rw [← hsc a ha] at h1
  exact Int.nonneg_of_mul_nonneg_right h1 hxb
 refine ⟨R,G,e,hRs,hG.trans List.filter_sublist,hGl,hR0,he,hge,⟨b,hb,hPb⟩,fun v s hs hv j hj => ?_⟩
 have key : ∀ f:Nat→Int,x (R.getD b 0)*dotN (inj R (fun a=>e*partsOf A R G a) R.length) f m=(e*partsOf A R G b)*dotN x f m:=fun f=>by
  rw [inj_dot R _ f m R.length hRm,hds f, ← dotN_mul, ← dotN_mul]
  have h2 : ∀ {u v g:Nat→Int} {N:Nat},(∀ i,i<N→u i=v i)→dotN u g N=dotN v g N:=by
   intro u v g N
   induction N with
   | zero=>exact fun _=>rfl
   | succ N ih=>exact fun e=>by rw [dotN,dotN,ih (fun i hi=>e i (by omega)),e N (by omega)]
  exact h2 fun a ha=>hsc a ha
 have k1:=key fun _=>1
 have k2:=key fun i=>A i j
 have h3:=Int.mul_le_mul_of_nonneg_left (hv j hj) (Int.le_of_lt hpos)
 refine Int.le_of_mul_le_mul_left (a:=x (R.getD b 0)) ?_ hxb
 exact scaled k1 k2 h3
theorem dotN_comm (x y:Nat→Int) : ∀ m,dotN x y m=dotN y x m
 | 0=>rfl
 | m+1=>by rw [dotN,dotN,dotN_comm x y m,Int.mul_comm]
theorem dotN_const (x:Nat→Int) (c:Int) (m:Nat):dotN x (fun _=>c) m=c*dotN x (fun _=>1) m:=by
 induction m with
 | zero=>simp [dotN]
 | succ m ih=>rw [dotN,dotN,ih]; grind
theorem told (A:Nat→Nat→Int) (m n:Nat) (hm:m≤4) (hn:0<n) : ∀ (z:Nat) (x:Nat→Int),(supp x m).length+(n-(tight A x m n).length)≤z→(∀ i,i<m→0≤x i)→0<tot x m→Told A m n x:=by
 intro z
 induction z using Nat.strongRecOn with
 | ind z ih=>
 intro x hz hx ht
 obtain ⟨j0,hj0n,hj0m⟩:=ag_exists A x m n hn
 have hj0:j0 ∈ tight A x m n:=tight_iff.2 ⟨hj0n,hj0m⟩
 have hsl:(supp x m).length≤m:=by have:=(List.filter_sublist (l:=List.range m) (p:=fun i=>decide (x i ≠ 0))).length_le; simpa [supp] using this
 -- a line along which it can be moved
 have move : ∀ (d:Nat→Int) (th:Int),(∀ i,i<m→x i=0→d i=0)→tot d m=0→(∃ i,i<m∧d i ≠ 0)→0≤th→(∀ j,j ∈ tight A x m n→ag A d m j=th)→Told A m n x:=by
  intro d th hd0 hdt hd hth hag
  obtain ⟨p,q,hp,hq,h1,h2,h3⟩:=moved A m n x d th j0 hx hj0 hd0 hdt hd hag
  obtain ⟨y,hy⟩ : ∃ y:Nat→Int,y=fun i=>q*x i+p*d i:=⟨_,rfl⟩
  have hyt:tot y m=q*tot x m:=by
   unfold tot at *
   rw [hy,dotN_lin,hdt]
   simp
  have hya : ∀ j,ag A y m j=q*ag A x m j+p*ag A d m j:=fun j=>by
   unfold ag
   rw [hy,dotN_lin]
  have hsub : ∀ i,i ∈ supp y m→i ∈ supp x m:=fun i hi=>by
   obtain ⟨a1,a2⟩:=supp_iff.1 hi
   refine supp_iff.2 ⟨a1,fun h0=>a2 ?_⟩
   rw [hy]
   show q*x i+p*d i=0
   rw [h0,hd0 i a1 h0]
   simp
  have hmin : ∀ j,j<n→q*ag A x m j0+p*th≤ag A y m j:=fun j hj=>by rw [hya]; exact h2 j hj
  have htg : ∀ j,j ∈ tight A x m n→j ∈ tight A y m n:=fun j hj=>by
   obtain ⟨a1,a2⟩:=tight_iff.1 hj
   refine tight_iff.2 ⟨a1,fun l hl => ?_⟩
   have e:ag A x m j=ag A x m j0:=Int.le_antisymm (a2 j0 hj0n) (hj0m j a1)
   have:=hmin l hl
   rw [hya j,e,hag j hj]
   exact this
  have hlen1:=nodup_len (supp_nodup y m) hsub
  have hlen2:=nodup_len (tight_nodup A x m n) htg
  have hlen3:(tight A y m n).length≤n:=by have:=(List.filter_sublist (l:=List.range n) (p:=fun j=>decide (∀ l,l<n→ag A y m j≤ag A y m l))).length_le; simpa [tight] using this
  have hless:(supp y m).length+(n-(tight A y m n).length)<z:=by
   rcases h3 with ⟨i,hi,hxi,h0⟩ | ⟨j,hj,hjt,he⟩
   ·have:=nodup_len (S:=i :: supp y m) (T:=supp x m) (List.nodup_cons.2 ⟨fun h=>(supp_iff.1 h).2 (by rw [hy]; exact h0),supp_nodup y m⟩) fun l hl=>by
      rcases List.mem_cons.1 hl with rfl | hl
      ·exact supp_iff.2 ⟨hi,hxi⟩
      ·exact hsub l hl
    rw [List.length_cons] at this
    omega
   ·have:=nodup_len (S:=j :: tight A x m n) (T:=tight A y m n) (List.nodup_cons.2 ⟨hjt,tight_nodup A x m n⟩) fun l hl=>by
      rcases List.mem_cons.1 hl with rfl | hl
      ·exact tight_iff.2 ⟨hj,fun k hk=>by rw [hya l,he]; exact hmin k hk⟩
      ·exact htg l hl
    rw [List.length_cons] at this
    omega
  obtain ⟨R,G,e,b1,b2,b3,b4,b5,b6,b7,b8⟩:=ih _ hless y (Nat.le_refl _) (fun i hi=>by rw [hy]; exact h1 i hi) (by rw [hyt]; exact Int.mul_pos hq ht)
  refine ⟨R,G,e,b1,b2,b3,b4,b5,b6,b7,fun v s hs hv=>b8 v s hs fun j hj => ?_⟩
  have c1:=Int.mul_le_mul_of_nonneg_left (hv j0 hj0n) (Int.le_of_lt hq)
  have c2:=Int.mul_le_mul_of_nonneg_left (hmin j hj) (Int.le_of_lt hs)
  have c3:=Int.mul_nonneg (Int.le_of_lt hs) (Int.mul_nonneg (Int.le_of_lt hp) hth)
  rw [hyt]
  grind
 have hRm : ∀ s,s<(supp x m).length→(supp x m).getD s 0<m:=fun s hs=>(supp_iff.1 (getD_mem hs)).1
 -- from a solution of the forms
 have line : ∀ y:Nat→Int,(∀ j,j ∈ tight A x m n→dotN (fun s=>if s<(supp x m).length then A ((supp x m).getD s 0) j else -1) y ((supp x m).length+1)=0) →
  Told A m n x∨((∀ s,s<(supp x m).length→tot x m*y s=dotN y (fun _=>1) (supp x m).length*x ((supp x m).getD s 0))∧tot x m*y (supp x m).length=dotN y (fun _=>1) (supp x m).length*ag A x m j0):=by
  intro y hy
  obtain ⟨sg,hsg⟩ : ∃ sg,dotN y (fun _=>1) (supp x m).length=sg:=⟨_,rfl⟩
  rw [hsg]
  have hyj : ∀ j,j ∈ tight A x m n→dotN y (fun s=>A ((supp x m).getD s 0) j) (supp x m).length=y (supp x m).length:=fun j hj=>by
   have h:=hy j hj
   rw [dotN,if_neg (Nat.lt_irrefl _),dotN_comm,dotN_same (s:=fun s=>A ((supp x m).getD s 0) j) (fun s hs=>if_pos hs)] at h
   omega
  obtain ⟨d,hd⟩ : ∃ d:Nat→Int,d=fun i=>tot x m*inj (supp x m) y (supp x m).length i+(- sg)*x i:=⟨_,rfl⟩
  have hdt:tot d m=0:=by
   have h1:=inj_dot (supp x m) y (fun _=>1) m (supp x m).length hRm
   rw [hsg] at h1
   unfold tot at *
   rw [hd,dotN_lin,h1]
   grind
  have hda : ∀ j,j ∈ tight A x m n→ag A d m j=tot x m*y (supp x m).length+(- sg)*ag A x m j0:=fun j hj=>by
   have h1:=inj_dot (supp x m) y (fun i=>A i j) m (supp x m).length hRm
   rw [hyj j hj] at h1
   have e:ag A x m j=ag A x m j0:=Int.le_antisymm ((tight_iff.1 hj).2 j0 hj0n) (hj0m j (tight_iff.1 hj).1)
   rw [← e]
   unfold ag
   rw [hd,dotN_lin,h1]
  have hd0 : ∀ i,i<m→x i=0→d i=0:=fun i hi h0=>by
   rw [hd]
   show tot x m*inj (supp x m) y (supp x m).length i+(- sg)*x i=0
   rw [inj_out fun s hs he=>(supp_iff.1 (getD_mem hs)).2 (by rw [he]; exact h0),h0]
   simp
  by_cases hex : ∃ i,i<m∧d i ≠ 0
  ·left
   by_cases hth:0≤tot x m*y (supp x m).length+(- sg)*ag A x m j0
   ·exact move d _ hd0 hdt hex hth hda
   ·refine move (fun i=>(-1)*d i) ((-1)*(tot x m*y (supp x m).length+(- sg)*ag A x m j0)) (fun i hi h0=>by rw [hd0 i hi h0]; rfl) (by unfold tot at *; rw [dotN_mul,hdt]; rfl) ?_ (by omega) fun j hj => ?_
    ·obtain ⟨i,hi,h⟩:=hex
     exact ⟨i,hi,by omega⟩
    ·have h1:=hda j hj
     unfold ag at *
     rw [dotN_mul,h1]
  ·right
   have hz : ∀ i,i<m→d i=0:=fun i hi=>Classical.byContradiction fun h=>hex ⟨i,hi,h⟩
   refine ⟨fun s hs => ?_,?_⟩
   ·have h1:=hz _ (hRm s hs)
    rw [hd] at h1
    replace h1:tot x m*inj (supp x m) y (supp x m).length ((supp x m).getD s 0)+(- sg)*x ((supp x m).getD s 0)=0:=h1
    rw [inj_in (supp_nodup x m) hs (Nat.le_refl _)] at h1
    grind
   ·have h1:=hda j0 hj0
    have h2:ag A d m j0=0:=by
     unfold ag
     rw [dotN_comm,dotN_same (s:=fun _=>0) hz]
     exact dotN_zero _ m
    rw [h2] at h1
    grind
 rcases rank (fun j s=>if s<(supp x m).length then A ((supp x m).getD s 0) j else -1) (tight A x m n) (tight_nodup A x m n) (supp x m).length (by omega) with ⟨G,S,hG,hGl,hS,hSN,hdet⟩ | ⟨y,w,l,k,hl,hk,y1,y2,w1,w2,hsol⟩
 ·refine told_of A m n x hm hx ht G S hG hGl hS hSN ?_
  have e:formsM (lossM A (supp x m) G) (supp x m).length=G.map fun j s=>if s<(supp x m).length then A ((supp x m).getD s 0) j else -1:=by
   unfold formsM
   refine List.ext_getElem (by simp [hGl]) fun i h1 h2 => ?_
   have h3:i<G.length:=by simpa using h2
   rw [List.getElem_map,List.getElem_map,List.getElem_range]
   funext s
   simp [formM,lossM,List.getD_eq_getElem?_getD,List.getElem?_eq_getElem h3]
  rw [e]
  exact hdet
 ·rcases line y (fun j hj=>(hsol j hj).1) with h | ⟨a1,a2⟩
  ·exact h
  rcases line w (fun j hj=>(hsol j hj).2) with h | ⟨b1,b2⟩
  ·exact h
  exfalso
  obtain ⟨X,hX⟩ : ∃ X:Nat→Int,X=fun s=>if s<(supp x m).length then x ((supp x m).getD s 0) else ag A x m j0:=⟨_,rfl⟩
  have ya : ∀ s,s<(supp x m).length+1→tot x m*y s=dotN y (fun _=>1) (supp x m).length*X s:=fun s hs=>by
   rw [hX]
   show _=_*(if s<(supp x m).length then x ((supp x m).getD s 0) else ag A x m j0)
   by_cases h:s<(supp x m).length
   ·rw [if_pos h]; exact a1 s h
   ·rw [if_neg h,show s=(supp x m).length by omega]; exact a2
  have wa : ∀ s,s<(supp x m).length+1→tot x m*w s=dotN w (fun _=>1) (supp x m).length*X s:=fun s hs=>by
   rw [hX]
   show _=_*(if s<(supp x m).length then x ((supp x m).getD s 0) else ag A x m j0)
   by_cases h:s<(supp x m).length
   ·rw [if_pos h]; exact b1 s h
   ·rw [if_neg h,show s=(supp x m).length by omega]; exact b2
  have c1:=ya l hl
  have c2:=ya k hk
  have c3:=wa k hk
  rw [y2,Int.mul_zero] at c2
  have c4:X k=0:=by
   rcases Int.mul_eq_zero.1 c2.symm with h | h
   ·rw [h,Int.zero_mul] at c1
    rcases Int.mul_eq_zero.1 c1 with h | h
    ·omega
    ·exact absurd h y1
   ·exact h
  rw [c4,Int.mul_zero] at c3
  rcases Int.mul_eq_zero.1 c3 with h | h
  ·omega
  ·exact absurd h w1
end Go.Proofs.Ytkbbhihndigmeaa

namespace Go.Proofs.Ytkbbhihndigmeaa
def subs:List Nat→List (List Nat)
 | []=>[[]]
 | a :: l=>subs l ++ (subs l).map (a :: ·)
theorem mem_subs {s l:List Nat} (h:s.Sublist l):s ∈ subs l:=by
 induction h with
 | slnil=>simp [subs]
 | cons a _ ih=>exact List.mem_append_left _ ih
 | cons_cons a _ ih=>exact List.mem_append_right _ (List.mem_map.2 ⟨_,ih,rfl⟩)
def Choice (A:Nat→Nat→Int) (m n:Nat) (R G:List Nat) (e:Int):Prop:=
 R.Sublist (List.range m)∧G.Sublist (List.range n)∧G.length=R.length∧0<R.length∧(e=1∨e = -1)∧(∀ a,a<R.length→0≤e*partsOf A R G a) ∧ ∃ a,a<R.length∧partsOf A R G a ≠ 0
def planC (A:Nat→Nat→Int) (R G:List Nat) (e:Int):Nat→Int:=inj R (fun a=>e*partsOf A R G a) R.length
theorem dotN_pos {y:Nat→Int} : ∀ {k:Nat},(∀ a,a<k→0≤y a)→0≤dotN y (fun _=>1) k∧((∃ a,a<k∧y a ≠ 0)→0<dotN y (fun _=>1) k)
 | 0,_=>⟨Int.le_refl _,fun ⟨a,ha,_⟩=>absurd ha (Nat.not_lt_zero _)⟩
 | k+1,h=>by
   obtain ⟨h1,h2⟩:=dotN_pos (k:=k) fun a ha=>h a (by omega)
   have h3:=h k (by omega)
   rw [dotN]
   refine ⟨by omega,fun ⟨a,ha,hne⟩ => ?_⟩
   by_cases e:a=k
   ·subst e; omega
   ·have:=h2 ⟨a,by omega,hne⟩; omega
theorem Choice.plan {A:Nat→Nat→Int} {m n:Nat} {R G:List Nat} {e:Int} (h:Choice A m n R G e):(∀ i,i<m→0≤planC A R G e i)∧0<tot (planC A R G e) m:=by
 obtain ⟨hR, -, -, -,he,hp,a,ha,hne⟩:=h
 have hRn:R.Nodup:=List.nodup_range.sublist hR
 have hRm : ∀ s,s<R.length→R.getD s 0<m:=fun s hs=>List.mem_range.1 (hR.subset (getD_mem hs))
 refine ⟨fun i _ => ?_,?_⟩
 ·by_cases hi:i ∈ R
  ·obtain ⟨s,hs,rfl⟩:=mem_getD hi
   unfold planC
   rw [inj_in hRn hs (Nat.le_refl _)]
   exact hp s hs
  ·unfold planC
   rw [inj_out fun s hs he=>hi (by rw [← he]; exact getD_mem hs)]
   exact Int.le_refl _
 ·unfold tot planC
  rw [inj_dot R _ _ m R.length hRm]
  refine (dotN_pos hp).2 ⟨a,ha,fun h0=>hne ?_⟩
  rcases he with rfl | rfl <;> omega
noncomputable def worst (A:Nat→Nat→Int) (m n:Nat) (x:Nat→Int):Int:=if h:0<n then ag A x m (Classical.choose (ag_exists A x m n h)) else 0
theorem worst_is (A:Nat→Nat→Int) (m n:Nat) (x:Nat→Int) (hn:0<n):(∃ j,j<n∧worst A m n x=ag A x m j) ∧ ∀ j,j<n→worst A m n x≤ag A x m j:=by
 obtain ⟨h1,h2⟩:=Classical.choose_spec (ag_exists A x m n hn)
 unfold worst
 rw [dif_pos hn]
 exact ⟨⟨_,h1,rfl⟩,h2⟩
theorem climb {v s wd td wc tc g:Int} (hs:0<s) (hd:0<td) (hc:0<tc) (h1:v*td≤s*wd) (h2:wd*tc≤wc*td) (h3:wc≤g):v*tc≤s*g:=by
 have a1:=Int.mul_le_mul_of_nonneg_right h1 (Int.le_of_lt hc)
 have a2:=Int.mul_le_mul_of_nonneg_left h2 (Int.le_of_lt hs)
 have a3:=Int.mul_le_mul_of_nonneg_left (Int.mul_le_mul_of_nonneg_right h3 (Int.le_of_lt hd)) (Int.le_of_lt hs)
 refine Int.le_of_mul_le_mul_right (a:=td) ?_ hd
 grind
theorem best_choice (A:Nat→Nat→Int) (m n:Nat) (hm0:0<m) (hm:m≤4) (hn:0<n) :
 ∃ R G e,Choice A m n R G e ∧ ∀ x:Nat→Int,(∀ i,i<m→0≤x i)→0<tot x m → ∀ v s:Int,0<s→(∀ j,j<n→v*tot x m≤s*ag A x m j) → ∀ j,j<n→v*tot (planC A R G e) m≤s*ag A (planC A R G e) m j:=by
 classical
 obtain ⟨L,hL⟩ : ∃ L:List (List Nat × List Nat × Int),∀ R G e,(R,G,e) ∈ L↔Choice A m n R G e:=by
  refine ⟨((subs (List.range m)).flatMap fun R=>(subs (List.range n)).flatMap fun G=>[(R,G,1),(R,G, -1)]).filter fun c=>decide (Choice A m n c.1 c.2.1 c.2.2),fun R G e => ?_⟩
  simp only [List.mem_filter,decide_eq_true_eq,List.mem_flatMap]
  refine ⟨fun h=>h.2,fun h=>⟨⟨R,mem_subs h.1,G,mem_subs h.2.1,?_⟩,h⟩⟩
  rcases h.2.2.2.2.1 with rfl | rfl <;> simp
 have hall : ∀ x:Nat→Int,(∀ i,i<m→0≤x i)→0<tot x m → ∃ c,c ∈ L ∧ ∀ v s:Int,0<s→(∀ j,j<n→v*tot x m≤s*ag A x m j) → ∀ j,j<n→v*tot (planC A c.1 c.2.1 c.2.2) m≤s*ag A (planC A c.1 c.2.1 c.2.2) m j:=fun x hx ht=>by
  obtain ⟨R,G,e,b1,b2,b3,b4,b5,b6,b7,b8⟩:=told A m n hm hn _ x (Nat.le_refl _) hx ht
  exact ⟨(R,G,e),(hL R G e).2 ⟨b1,b2,b3,b4,b5,b6,b7⟩,b8⟩
 obtain ⟨W,hW⟩ : ∃ W:List Nat × List Nat × Int→Int × Int,W=fun c=>(worst A m n (planC A c.1 c.2.1 c.2.2),tot (planC A c.1 c.2.1 c.2.2) m):=⟨_,rfl⟩
 have hW2 : ∀ c,c ∈ L→0<(W c).2:=fun c hc=>by
  rw [hW]
  exact ((hL c.1 c.2.1 c.2.2).1 hc).plan.2
 obtain ⟨c0,hc0, -⟩:=hall (fun _=>1) (fun _ _=>by decide) (by
  have:=(dotN_pos (y:=fun _=>1) (k:=m) fun _ _=>by decide).2 ⟨0,hm0,by decide⟩
  exact this)
 have hmax : ∃ c,c ∈ L ∧ ∀ d,d ∈ L→fLe (W d) (W c):=by
  obtain ⟨w,hw,hle⟩:=f_max ((L.map W)) (W c0) (fun y hy=>by
   rcases List.mem_cons.1 hy with rfl | hy
   ·exact hW2 c0 hc0
   ·obtain ⟨c,hc,rfl⟩:=List.mem_map.1 hy
    exact hW2 c hc)
  have hw':w ∈ L.map W:=by
   rcases List.mem_cons.1 hw with rfl | hw
   ·exact List.mem_map.2 ⟨c0,hc0,rfl⟩
   ·exact hw
  obtain ⟨c,hc,rfl⟩:=List.mem_map.1 hw'
  exact ⟨c,hc,fun d hd=>hle _ (List.mem_cons_of_mem _ (List.mem_map.2 ⟨d,hd,rfl⟩))⟩
 obtain ⟨⟨R,G,e⟩,hc,hbest⟩:=hmax
 refine ⟨R,G,e,(hL R G e).1 hc,fun x hx ht v s hs hv j hj => ?_⟩
 obtain ⟨d,hd,hdx⟩:=hall x hx ht
 obtain ⟨⟨j1,hj1,e1⟩, -⟩:=worst_is A m n (planC A d.1 d.2.1 d.2.2) hn
 have h1:=hdx v s hs hv j1 hj1
 rw [← e1] at h1
 have h2:=hbest d hd
 have h3:=(worst_is A m n (planC A R G e) hn).2 j hj
 have hp1:=hW2 d hd
 have hp2:=hW2 _ hc
 rw [hW] at h2 hp1 hp2
 unfold fLe at h2
 simp only [] at h2 hp1 hp2
 exact climb hs hp1 hp2 h1 h2 h3
end Go.Proofs.Ytkbbhihndigmeaa

namespace Go.Proofs.Ytkbbhihndigmeaa
def flip (A:Nat→Nat→Int) (j i:Nat):Int:= - A i j
theorem dotN_neg1 (x f:Nat→Int) : ∀ m,dotN x (fun i=> - f i) m = - dotN x f m
 | 0=>rfl
 | m+1=>by rw [dotN,dotN,dotN_neg1 x f m,Int.mul_neg]; omega
theorem dotN_sum (A:Nat→Nat→Int) (x q:Nat→Int) (m:Nat) : ∀ n,dotN q (fun j=>ag A x m j) n=dotN x (fun i=>dotN q (fun j=>A i j) n) m
 | 0=>by
   rw [dotN,show (fun i=>dotN q (fun j=>A i j) 0)=fun _=>0 from rfl]
   exact (dotN_zero x m).symm
 | n+1=>by
   rw [dotN,dotN_sum A x q m n]
   rw [show (fun i=>dotN q (fun j=>A i j) (n+1))=fun i=>dotN q (fun j=>A i j) n+q n*A i n from rfl,dotN_addr x]
   unfold ag
   rw [dotN_comm x (fun i=>q n*A i n),dotN_mul,dotN_comm (fun i=>A i n) x]
theorem dotN_mono {x f g:Nat→Int} : ∀ {m:Nat},(∀ i,i<m→0≤x i)→(∀ i,i<m→f i≤g i)→dotN x f m≤dotN x g m
 | 0,_,_=>Int.le_refl _
 | m+1,h1,h2=>by
   have a1:=dotN_mono (m:=m) (fun i hi=>h1 i (by omega)) fun i hi=>h2 i (by omega)
   have a2:=Int.mul_le_mul_of_nonneg_left (h2 m (by omega)) (h1 m (by omega))
   rw [dotN,dotN]
   omega
theorem weak {A:Nat→Nat→Int} {m n:Nat} {x q:Nat→Int} {v s v' s':Int} (hx : ∀ i,i<m→0≤x i) (ht:0<tot x m) (hq : ∀ j,j<n→0≤q j) (htq:0<tot q n) (hs:0<s) (hs':0<s') (h1 : ∀ j,j<n→v*tot x m≤s*ag A x m j) (h2 : ∀ i,i<m→s'*dotN q (fun j=>A i j) n≤v'*tot q n):v*s'≤v'*s:=by
 have a1:=dotN_mono (f:=fun _=>v*tot x m) (g:=fun j=>s*ag A x m j) hq h1
 have a2:=dotN_mono (f:=fun i=>s'*dotN q (fun j=>A i j) n) (g:=fun _=>v'*tot q n) hx h2
 rw [dotN_const,dotN_comm q (fun j=>s*ag A x m j),dotN_mul,dotN_comm (fun j=>ag A x m j),dotN_sum] at a1
 rw [dotN_comm x (fun i=>s'*dotN q (fun j=>A i j) n),dotN_mul,dotN_comm (fun i=>dotN q (fun j=>A i j) n),dotN_const] at a2
 obtain ⟨Z,hZ⟩ : ∃ Z,dotN x (fun i=>dotN q (fun j=>A i j) n) m=Z:=⟨_,rfl⟩
 obtain ⟨T,hT⟩ : ∃ T,tot x m=T:=⟨_,rfl⟩
 obtain ⟨Q,hQ⟩ : ∃ Q,tot q n=Q:=⟨_,rfl⟩
 have hT':dotN x (fun _=>1) m=T:=hT
 have hQ':dotN q (fun _=>1) n=Q:=hQ
 rw [hT] at ht
 rw [hQ] at htq
 rw [hZ,hT,hQ'] at a1
 rw [hZ,hQ,hT'] at a2
 have b1:=Int.mul_le_mul_of_nonneg_left a1 (Int.le_of_lt hs')
 have b2:=Int.mul_le_mul_of_nonneg_left a2 (Int.le_of_lt hs)
 have b3:0<T*Q:=Int.mul_pos ht htq
 refine Int.le_of_mul_le_mul_right (a:=T*Q) ?_ b3
 grind
theorem Cone.weights {n:Nat} {r:Nat→Nat→Int} {u:Nat→Int} (h:Cone ((List.range n).map r) u) : ∃ q:Nat→Int,(∀ j,0≤q j)∧0<tot q n ∧ ∀ i,u i=dotN q (fun j=>r j i) n:=by
 induction h with
 | row h=>
   obtain ⟨j,hj,rfl⟩:=List.mem_map.1 h
   rw [List.mem_range] at hj
   refine ⟨fun k=>if j=k then 1 else 0,fun k => ?_,?_,fun i => ?_⟩
   ·show (0:Int)≤if j=k then 1 else 0
    split <;> decide
   ·unfold tot
    rw [dotN_comm,dotN_one,if_pos hj]
    decide
   ·rw [dotN_comm,dotN_one,if_pos hj]
    omega
 | add _ _ h1 h2=>
   obtain ⟨q,a1,a2,a3⟩:=h1
   obtain ⟨p,b1,b2,b3⟩:=h2
   refine ⟨fun j=>q j+p j,fun j=>Int.add_nonneg (a1 j) (b1 j),?_,fun i => ?_⟩
   ·unfold tot at *
    rw [dotN_add q p]
    omega
   ·rw [dotN_add q p, ← a3 i, ← b3 i]
 | mul hc _ h1=>
   rename_i c _
   obtain ⟨q,a1,a2,a3⟩:=h1
   refine ⟨fun j=>c*q j,fun j=>Int.mul_nonneg (Int.le_of_lt hc) (a1 j),?_,fun i => ?_⟩
   ·unfold tot at *
    rw [dotN_mul]
    exact Int.mul_pos hc a2
   ·rw [dotN_mul, ← a3 i]
theorem both_sides (A:Nat→Nat→Int) (m n:Nat) (hm0:0<m) (hm:m≤4) (hn0:0<n) (hn:n≤4) :
 ∃ (R G:List Nat) (e:Int) (C D:List Nat) (e':Int) (v s:Int),Choice A m n R G e∧Choice (flip A) n m C D e'∧0<s ∧
   (∀ j,j<n→v*tot (planC A R G e) m≤s*ag A (planC A R G e) m j) ∧ ∀ i,i<m→s*dotN (planC (flip A) C D e') (fun j=>A i j) n≤v*tot (planC (flip A) C D e') n:=by
 obtain ⟨R,G,e,hc,hbest⟩:=best_choice A m n hm0 hm hn0
 obtain ⟨C,D,e',hc',hbest'⟩:=best_choice (flip A) n m hn0 hn hm0
 obtain ⟨hp,ht⟩:=hc.plan
 obtain ⟨⟨j0,hj0,e0⟩,hw⟩:=worst_is A m n (planC A R G e) hn0
 refine ⟨R,G,e,C,D,e',worst A m n (planC A R G e),tot (planC A R G e) m,hc,hc',ht,fun j hj => ?_,?_⟩
 ·have:=Int.mul_le_mul_of_nonneg_left (hw j hj) (Int.le_of_lt ht)
  grind
 obtain ⟨v,hv⟩ : ∃ v,worst A m n (planC A R G e)=v:=⟨_,rfl⟩
 obtain ⟨s,hs⟩ : ∃ s,tot (planC A R G e) m=s:=⟨_,rfl⟩
 rw [hv] at e0 hw ⊢
 rw [hs] at ht ⊢
 have hmax : ∀ x:Nat→Int,(∀ i,i<m→0≤x i)→0<tot x m → ∃ j,j<n∧s*ag A x m j≤v*tot x m:=fun x hx hxt=>by
  obtain ⟨⟨j1,hj1,e1⟩,hw1⟩:=worst_is A m n x hn0
  refine ⟨j1,hj1,?_⟩
  have h:=hbest x hx hxt (worst A m n x) (tot x m) hxt (fun j hj=>by
   have:=Int.mul_le_mul_of_nonneg_left (hw1 j hj) (Int.le_of_lt hxt)
   grind) j0 hj0
  rw [hs, ← e0,e1] at h
  grind
 obtain ⟨q,hq0,hqt,hq⟩ : ∃ q:Nat→Int,(∀ j,0≤q j)∧0<tot q n ∧ ∀ i,i<m→s*dotN q (fun j=>A i j) n≤v*tot q n:=by
  rcases ville m ((List.range n).map fun j i=>v-s*A i j) with ⟨x,hx,hneg⟩ | ⟨u,hu,hu0⟩
  ·exfalso
   have hlt : ∀ j,j<n→v*tot x m<s*ag A x m j:=fun j hj=>by
    have h:=hneg _ (List.mem_map.2 ⟨j,List.mem_range.2 hj,rfl⟩)
    rw [dotN_comm,show (fun i=>v-s*A i j)=fun i=>v + - (s*A i j) from rfl,dotN_addr x (fun _=>v),dotN_const,dotN_neg1,dotN_comm x (fun i=>s*A i j),dotN_mul,dotN_comm (fun i=>A i j)] at h
    unfold tot ag
    omega
   have hxt:0<tot x m:=by
    have h1:=(dotN_pos (y:=x) (k:=m) fun a _=>hx a).1
    by_cases h0:tot x m=0
    ·exfalso
     have hz : ∀ i,i<m→x i=0:=fun i hi=>Classical.byContradiction fun hne=>by
      have:=(dotN_pos (y:=x) (k:=m) fun a _=>hx a).2 ⟨i,hi,hne⟩
      unfold tot at h0
      omega
     have h2:=hlt 0 hn0
     have h3:ag A x m 0=0:=by
      unfold ag
      rw [dotN_comm,dotN_same (s:=fun _=>0) hz]
      exact dotN_zero _ m
     rw [h0,h3] at h2
     simp at h2
    ·unfold tot at *; omega
   obtain ⟨j,hj,h⟩:=hmax x (fun i _=>hx i) hxt
   have:=hlt j hj
   omega
  ·obtain ⟨q,a1,a2,a3⟩:=hu.weights
   refine ⟨q,a1,a2,fun i hi => ?_⟩
   have h:=hu0 i hi
   rw [a3,show (fun j=>v-s*A i j)=fun j=>v + - (s*A i j) from rfl,dotN_addr q (fun _=>v),dotN_const,dotN_neg1,dotN_comm q (fun j=>s*A i j),dotN_mul,dotN_comm (fun j=>A i j)] at h
   unfold tot
   omega
 intro i hi
 have hfl : ∀ (q:Nat→Int) (i:Nat),ag (flip A) q n i = - dotN q (fun j=>A i j) n:=fun q i=>by
  unfold ag flip
  exact dotN_neg1 q _ n
 have h:=hbest' q (fun j _=>hq0 j) hqt (- v) s ht (fun i hi=>by
  have:=hq i hi
  rw [hfl]
  grind) i hi
 rw [hfl] at h
 grind
end Go.Proofs.Ytkbbhihndigmeaa

namespace Go.Proofs.Ytkbbhihndigmeaa
open Go Go.RowKit
theorem okay_turn {m n:Nat} {f f':Nat→Row3} (hO:Okay m n f) (h1 : ∀ j,j<n→(f' j).n=m) (h2 : ∀ j,(f' j).g=fun i=> - (f i).g j):Okay n m f':=
 ⟨hO.n1,hO.n4,hO.m1,hO.m4,h1,fun j hj i hi=>by rw [h2 j]; have:=hO.num i hi j hj; show -100 ≤ -(f i).g j ∧ -(f i).g j≤100; omega⟩
def turnF (f:Nat→Row3) (m:Nat) (j:Nat):Row3:=⟨none,m,0,fun i=> - (f i).g j⟩
theorem loss_turn {f f':Nat→Row3} (h2 : ∀ j,(f' j).g=fun i=> - (f i).g j):lossA f'=flip (lossA f):=funext fun j=>funext fun i=>by unfold lossA flip; rw [h2 j]
theorem rOpposite_c (x y:Int) (w:World) (h1 : -4611686018427387904≤x) (h2:x≤4611686018427387904) :
 Calls Try.prog 85 #[.agg #[.int .i64 x, .int .i64 y]] w fun e w'=>e = .returned (.agg #[.int .i64 (-x), .int .i64 y])∧Below w.heap.size w w':=by
 have hw:IntKind.i64.wrap (-x) = -x:=IntWalk.i64_in _ (by omega)
 go_enter Try.func85,Try.ntmps85
 go_wp2
 refine bodyPost_ret (v:= .agg #[.int .i64 (-x), .int .i64 y]) (by simp [results,Try.results85,go_sem]) rfl ⟨rfl,?_⟩
 repeat (first | exact Below.refl _ _ | exact Nat.le_refl _ | (show w.heap.size≤w.heap.size+1; omega) | (refine Below.setCell ?_ ?_ _) | (refine Below.alloc1 ?_ _ (Nat.le_refl _)))
theorem rat_bd {x d B:Int} (hd:0<d) (h1 : -B≤x) (h2:x≤B) : -B≤ratN x d∧ratN x d≤B:=by
 unfold ratN
 have hg:=gcd_bd x d hd
 have h3:(x.tdiv (Int.gcd x d)).natAbs≤x.natAbs:=by
  rw [Int.natAbs_tdiv]
  exact Nat.div_le_self _ _
 omega
abbrev boundN (f:Nat→Row3) (m n:Nat) (q:Nat→Int):Int:=leastF (ag (flip (lossA f)) q n) m
theorem rBoundOf_c (a:Option Addr) (m n cap:Nat) (f:Nat→Row3) (pa:Option Addr) (pcap:Nat) (p:Nat→Int) (w:World) (hf:Tab w a m f) (hO:Okay m n f) (hp:Ints w pa n p) (hb : ∀ i,i<n→0≤p i∧p i≤100000000) (hs:sumI p n ≠ 0) :
 Calls Try.prog 67 #[tabV a m cap, .slice pa n pcap] w fun e w'=>e = .returned (.agg #[.int .i64 (- ratN (boundN f m n p) (sumI p n)), .int .i64 (ratD (boundN f m n p) (sumI p n))])∧Below w.heap.size w w':=by
 obtain ⟨W,hW⟩ : ∃ W,(w.alloc (.cells #[.slice a m cap] 24)).alloc (.cells #[.int .i64 0, .int .i64 0] 30)=W:=⟨_,rfl⟩
 have hB:Below w.heap.size w W:=by rw [← hW]; exact Below.alloc1 (Below.alloc1 (Below.refl _ _) _ (Nat.le_refl _)) _ (Nat.le_refl _)
 have hQ:RowIs W (w.heap.size+1) #[.int .i64 0, .int .i64 0] 30:=by rw [← hW]; exact heap_new_at _ _ _ (by simp)
 have hR:RowIs W w.heap.size #[.slice a m cap] 24:=by rw [← hW]; exact RowIs.alloc (heap_new_at _ _ _ rfl) _
 have r0:W.cell? ⟨w.heap.size,0,none⟩=some (.slice a m cap):=RowIs.cell hR 0
 have rz:w.heap.size<W.heap.size:=hR.lt
 have HT:=Lib.hid (rTurned_c a m n cap f W (hf.below hB) hO)
 have HP:=Lib.hid (Cells.below hp hB)
 have HQ:=Lib.hid hQ
 have HB:=Lib.hid hB
 have HO:=Lib.hid hO
 have Hb:=Lib.hid hb
 have Hs:=Lib.hid hs
 obtain ⟨x,hx⟩ : ∃ x,leastF (ag (flip (lossA f)) p n) m=x:=⟨_,rfl⟩
 have hxb : -40000000000≤x∧x≤40000000000:=by
  rw [← hx]
  have hO2:=okay_turn (f':=turnF f m) hO (fun _ _=>rfl) fun _=>rfl
  exact leastF_bd hO.m1 (ag_bd hO2 hb)
 unfold boundN
 rw [hx]
 have hrb:=rat_bd (d:=sumI p n) (B:=40000000000) (sum_pos hb hs) hxb.1 hxb.2
 obtain ⟨N,hN⟩ : ∃ N,ratN x (sumI p n)=N:=⟨_,rfl⟩
 obtain ⟨d,hd⟩ : ∃ d,ratD x (sumI p n)=d:=⟨_,rfl⟩
 rw [hN] at hrb
 rw [hN,hd]
 have HNb:=Lib.hid hrb
 have Hx:=Lib.hid hx
 have HN:=Lib.hid hN
 have Hd:=Lib.hid hd
 clear hf hB hQ hR hp hO hb hs hx hxb hN hd hrb
 go_enter Try.func67,Try.ntmps67
 go_wp2_with fail
 refine HT.out.mono ?_
 rintro e w1 ⟨⟨tp,tc,f',rfl, -, -,hT,h1,h2⟩,hb1⟩
 clear hW HT r0
 have hO':=okay_turn HO.out h1 h2
 have HS:=Lib.hid (rSureOf_c tp n m tc f' pa pcap p w1 hT hO' (Cells.below HP.out hb1) Hb.out Hs.out)
 unfold sureN ratV at HS
 rw [loss_turn h2,Hx.out,HN.out,Hd.out] at HS
 have Hb1:=Lib.hid hb1
 clear hT h1 h2 hO' hb1 Hx HN Hd
 go_wp2_with fail
 refine HS.out.mono ?_
 rintro e w2 ⟨rfl,hb2⟩
 have Hb2:=Lib.hid (bup Hb1.out hb2)
 clear hb2 HS
 go_wp2_with fail
 refine (rOpposite_c N d w2 (by have:=HNb.out; omega) (by have:=HNb.out; omega)).mono ?_
 rintro e w3 ⟨rfl,hb3⟩
 have hQ3:=HQ.out.below (bup Hb2.out hb3)
 have q0:=RowIs.cell hQ3 0
 have q1:=RowIs.cell hQ3 1
 have z0:=RowIs.frozen hQ3 0
 have z1:=RowIs.frozen hQ3 1
 have qz:=hQ3.lt
 simp at q0 q1
 have HB3:=Lib.hid (bup HB.out (bup Hb2.out hb3))
 have HQ3:=Lib.hid hQ3
 clear hQ3 hb3
 go_wp2_with fail
 have hQ4:=(HQ3.out.set 0 (.int .i64 (-N))).set 1 (.int .i64 d)
 have y0:=RowIs.cell hQ4 0
 have y1:=RowIs.cell hQ4 1
 simp at y0 y1
 exact bodyPost_ret (v:= .agg #[.int .i64 (-N), .int .i64 d]) (by simp [results,Try.results67,go_sem,y0,y1]) rfl ⟨rfl,(HB3.out.setCell (p:=⟨w.heap.size+1,0,none⟩) (by show w.heap.size≤w.heap.size+1; omega) _).setCell (p:=⟨w.heap.size+1,1,none⟩) (by show w.heap.size≤w.heap.size+1; omega) _⟩
theorem plan_ok {len many:Nat} {g:Nat→Int} (h:planE len many g=0):len=many∧(∀ i,i<many→0≤g i∧g i≤100000000)∧sumI g many ≠ 0:=by
 unfold planE at h
 by_cases h1:len=many
 ·rw [if_pos h1] at h
  by_cases h2:allB (inB g) many=true
  ·rw [if_pos h2] at h
   by_cases h3:sumI g many=0
   ·rw [if_pos h3] at h; cases h
   ·exact ⟨h1,inB_all h2,h3⟩
  ·rw [if_neg h2] at h; cases h
 ·rw [if_neg h1] at h; cases h
def sureR (m:Nat) (f:Nat→Row3) (len:Nat) (p:Nat→Int):Int × Int × Int:=
 if tableE m f ≠ 0 then (0,0,tableE m f) else if planE len m p ≠ 0 then (0,0,planE len m p) else (ratN (sureN f m (f 0).n p) (sumI p m),ratD (sureN f m (f 0).n p) (sumI p m),0)
def boundR (m:Nat) (f:Nat→Row3) (len:Nat) (p:Nat→Int):Int × Int × Int:=
 if tableE m f ≠ 0 then (0,0,tableE m f) else if planE len (f 0).n p ≠ 0 then (0,0,planE len (f 0).n p) else (- ratN (boundN f m (f 0).n p) (sumI p (f 0).n),ratD (boundN f m (f 0).n p) (sumI p (f 0).n),0)
set_option maxHeartbeats 4000000 in
theorem rSure_c (a:Option Addr) (m cap:Nat) (f:Nat→Row3) (pa:Option Addr) (len pcap:Nat) (p:Nat→Int) (w:World) (hf:Tab w a m f) (hm:m≤1048576) (hp:Ints w pa len p) (hl:len≤1048576) :
 Calls Try.prog 20 #[tabV a m cap, .slice pa len pcap] w fun e w'=>e = .returned (re2 (sureR m f len p))∧Below w.heap.size w w':=by
 obtain ⟨W,hW⟩ : ∃ W,(w.alloc (.cells #[.slice a m cap] 24)).alloc (.cells #[.int .i64 0, .int .i64 0] 30)=W:=⟨_,rfl⟩
 have hB:Below w.heap.size w W:=by rw [← hW]; exact Below.alloc1 (Below.alloc1 (Below.refl _ _) _ (Nat.le_refl _)) _ (Nat.le_refl _)
 have hQ:RowIs W (w.heap.size+1) #[.int .i64 0, .int .i64 0] 30:=by rw [← hW]; exact heap_new_at _ _ _ (by simp)
 have hR:RowIs W w.heap.size #[.slice a m cap] 24:=by rw [← hW]; exact RowIs.alloc (heap_new_at _ _ _ rfl) _
 have r0:W.cell? ⟨w.heap.size,0,none⟩=some (.slice a m cap):=RowIs.cell hR 0
 have rz:w.heap.size<W.heap.size:=hR.lt
 have HF:=Lib.hid (hf.below hB)
 have HT:=Lib.hid (fun (x:World) (h:Tab x a m f)=>rcheckTable_c a m cap f x h hm)
 have HP:=Lib.hid (Cells.below hp hB)
 have HQ:=Lib.hid hQ
 have HR:=Lib.hid hR
 have HB:=Lib.hid hB
 clear hf hB hQ hR hp
 by_cases hE:tableE m f=0
 ·have hO:=okay_of hE
  by_cases hL:planE len m p=0
  ·obtain ⟨rfl,hb,hs⟩:=plan_ok hL
   have Hv:=Lib.hid (show sureR len f len p=(ratN (sureN f len (f 0).n p) (sumI p len),ratD (sureN f len (f 0).n p) (sumI p len),0) by unfold sureR; rw [if_neg (by simp [hE]),if_neg (by simp [hL])])
   have HS:=Lib.hid (fun (x:World) (h1:Tab x a len f) (h2:Ints x pa len p)=>rSureOf_c a len (f 0).n cap f pa pcap p x h1 hO h2 hb hs)
   have HL:=Lib.hid (fun (x:World) (h2:Ints x pa len p)=>rplanError_c pa len pcap len p x h2 hl hl)
   rw [hE] at HT
   rw [hL] at HL
   clear hE hL hO hb hs
   obtain ⟨N,hN⟩ : ∃ N,ratN (sureN f len (f 0).n p) (sumI p len)=N:=⟨_,rfl⟩
   obtain ⟨d,hd⟩ : ∃ d,ratD (sureN f len (f 0).n p) (sumI p len)=d:=⟨_,rfl⟩
   unfold ratV at HS
   rw [hN,hd] at HS Hv
   clear hN hd
   rw [Hv.out]
   go_enter Try.func20,Try.ntmps20
   go_wp2_with fail
   refine (HT.out _ HF.out).mono ?_
   rintro e w1 ⟨rfl,hb1⟩
   clear hW
   have s0:w1.cell? ⟨w.heap.size,0,none⟩=some (.slice a len cap):=RowIs.cell (HR.out.below hb1) 0
   have sz:=(HR.out.below hb1).lt
   have Hb1:=Lib.hid hb1
   clear hb1 r0
   go_wp2_with fail
   refine (HL.out _ (Cells.below HP.out Hb1.out)).mono ?_
   rintro e w2 ⟨rfl,rfl⟩
   go_wp2_with fail
   refine (HS.out _ (HF.out.below Hb1.out) (Cells.below HP.out Hb1.out)).mono ?_
   rintro e w3 ⟨rfl,hb3⟩
   have hQ3:=HQ.out.below (bup Hb1.out hb3)
   have q0:=RowIs.cell hQ3 0
   have q1:=RowIs.cell hQ3 1
   have z0:=RowIs.frozen hQ3 0
   have z1:=RowIs.frozen hQ3 1
   have qz:=hQ3.lt
   simp at q0 q1
   have HB3:=Lib.hid (bup HB.out (bup Hb1.out hb3))
   have HQ3:=Lib.hid hQ3
   clear hQ3 hb3
   go_wp2_with fail
   have hQ4:=(HQ3.out.set 0 (.int .i64 N)).set 1 (.int .i64 d)
   have y0:=RowIs.cell hQ4 0
   have y1:=RowIs.cell hQ4 1
   simp at y0 y1
   exact bodyPost_ret (v:=re2 (N,d,0)) (by simp [results,Try.results20,go_sem,y0,y1]) rfl ⟨rfl,(HB3.out.setCell (p:=⟨w.heap.size+1,0,none⟩) (by show w.heap.size≤w.heap.size+1; omega) _).setCell (p:=⟨w.heap.size+1,1,none⟩) (by show w.heap.size≤w.heap.size+1; omega) _⟩
  ·have Hv:=Lib.hid (show sureR m f len p=(0,0,planE len m p) by unfold sureR; rw [if_neg (by simp [hE]),if_pos hL])
   have HL:=Lib.hid (fun (x:World) (h2:Ints x pa len p)=>rplanError_c pa len pcap m p x h2 hl hm)
   have t0:(planE len m p != 0)=true:=by simpa using hL
   rw [hE] at HT
   clear hE hL hO
   obtain ⟨E,hE⟩ : ∃ E,planE len m p=E:=⟨_,rfl⟩
   rw [hE] at HL Hv t0
   clear hE
   rw [Hv.out]
   go_enter Try.func20,Try.ntmps20
   go_wp2_with fail
   refine (HT.out _ HF.out).mono ?_
   rintro e w1 ⟨rfl,hb1⟩
   clear hW
   have s0:w1.cell? ⟨w.heap.size,0,none⟩=some (.slice a m cap):=RowIs.cell (HR.out.below hb1) 0
   have sz:=(HR.out.below hb1).lt
   have hQ3:=HQ.out.below hb1
   have q0:=RowIs.cell hQ3 0
   have q1:=RowIs.cell hQ3 1
   have z0:=RowIs.frozen hQ3 0
   have z1:=RowIs.frozen hQ3 1
   have qz:=hQ3.lt
   simp at q0 q1
   have Hb1:=Lib.hid hb1
   have HQ3:=Lib.hid hQ3
   clear hb1 r0 hQ3
   go_wp2_with fail
   refine (HL.out _ (Cells.below HP.out Hb1.out)).mono ?_
   rintro e w2 ⟨rfl,rfl⟩
   go_wp2_with fail
   refine (HL.out _ (Cells.below HP.out Hb1.out)).mono ?_
   rintro e w2 ⟨rfl,rfl⟩
   go_wp2_with fail
   have hQ4:=(HQ3.out.set 0 (.int .i64 0)).set 1 (.int .i64 0)
   have y0:=RowIs.cell hQ4 0
   have y1:=RowIs.cell hQ4 1
   simp at y0 y1
   exact bodyPost_ret (v:=re2 (0,0,E)) (by simp [results,Try.results20,go_sem,y0,y1]) rfl ⟨rfl,((bup HB.out Hb1.out).setCell (p:=⟨w.heap.size+1,0,none⟩) (by show w.heap.size≤w.heap.size+1; omega) _).setCell (p:=⟨w.heap.size+1,1,none⟩) (by show w.heap.size≤w.heap.size+1; omega) _⟩
 ·have Hv:=Lib.hid (show sureR m f len p=(0,0,tableE m f) by unfold sureR; rw [if_pos hE])
  have t0:(tableE m f != 0)=true:=by simpa using hE
  clear hE
  obtain ⟨E,hE⟩ : ∃ E,tableE m f=E:=⟨_,rfl⟩
  rw [hE] at HT Hv t0
  clear hE
  rw [Hv.out]
  go_enter Try.func20,Try.ntmps20
  go_wp2_with fail
  refine (HT.out _ HF.out).mono ?_
  rintro e w1 ⟨rfl,hb1⟩
  clear hW
  have s0:w1.cell? ⟨w.heap.size,0,none⟩=some (.slice a m cap):=RowIs.cell (HR.out.below hb1) 0
  have sz:=(HR.out.below hb1).lt
  have Hb1:=Lib.hid hb1
  clear hb1 r0
  go_wp2_with fail
  refine (HT.out _ (HF.out.below Hb1.out)).mono ?_
  rintro e w2 ⟨rfl,hb2⟩
  have hQ3:=HQ.out.below (bup Hb1.out hb2)
  have q0:=RowIs.cell hQ3 0
  have q1:=RowIs.cell hQ3 1
  have z0:=RowIs.frozen hQ3 0
  have z1:=RowIs.frozen hQ3 1
  have qz:=hQ3.lt
  simp at q0 q1
  have HB3:=Lib.hid (bup HB.out (bup Hb1.out hb2))
  have HQ3:=Lib.hid hQ3
  clear hb2 hQ3
  go_wp2_with fail
  have hQ4:=(HQ3.out.set 0 (.int .i64 0)).set 1 (.int .i64 0)
  have y0:=RowIs.cell hQ4 0
  have y1:=RowIs.cell hQ4 1
  simp at y0 y1
  exact bodyPost_ret (v:=re2 (0,0,E)) (by simp [results,Try.results20,go_sem,y0,y1]) rfl ⟨rfl,(HB3.out.setCell (p:=⟨w.heap.size+1,0,none⟩) (by show w.heap.size≤w.heap.size+1; omega) _).setCell (p:=⟨w.heap.size+1,1,none⟩) (by show w.heap.size≤w.heap.size+1; omega) _⟩
end Go.Proofs.Ytkbbhihndigmeaa

namespace Go.Proofs.Ytkbbhihndigmeaa
open Go Go.RowKit
set_option maxHeartbeats 400000 in
theorem divisor_c (a:Option Addr) (len cap:Nat) (f:Nat→Int) (w:World) (hf:Ints w a len f) (hl:len≤1048576) (hb : ∀ i,i<len → -4611686018427387904≤f i∧f i≤4611686018427387904) :
 Calls Try.prog 102 #[.slice a len cap] w fun e w'=>e = .returned (.int .i64 (divF f len)) ∧ ∃ q,w'=w.drewN q:=by
 go_enter Try.func102,Try.ntmps102
 go_wp2
 go_loopw [3,8] (fun d i wr=> ∃ k:Nat,∃ x:Int,∃ q,k≤len∧i = .int .i64 k∧d = .int .i64 x∧x.natAbs=gcdF f k ∧ -4611686018427387904≤x∧x≤4611686018427387904∧wr=w.drewN q) (fun _ i _=>len-(intOf i).toNat)
 case atStart=>exact ⟨0,0,0,Nat.zero_le _,rfl,rfl,rfl,by omega,by omega,rfl⟩
 case round=>
  obtain ⟨k,x,q,hk,rfl,rfl,hg,hx,hx',rfl⟩:=hrel
  have Hg:=Lib.hid hg
  clear hg
  by_cases hlt:k<len
  ·obtain ⟨b,off,rfl,hbs,hc⟩:=Cells.at hf k hlt
   have hck:=hc k hlt
   have hbk:=hb k hlt
   clear hc hb
   go_wp2
   go_loopw [3,5] (fun d n wr=> ∃ y z:Int,∃ q,d = .int .i64 y∧n = .int .i64 z∧Int.gcd y z=gcdF f (k+1) ∧ -4611686018427387904≤y∧y≤4611686018427387904 ∧ -4611686018427387904≤z∧z≤4611686018427387904∧wr=w.drewN q) (fun _ n _=>(intOf n).natAbs)
   case atStart=>exact ⟨x,f k,q,rfl,rfl,by simp only [gcdF, ← Hg.out]; simp [Int.gcd],hx,hx',hbk.1,hbk.2,rfl⟩
   case round=>
    obtain ⟨y,z,q,rfl,rfl,hgg,hy,hy',hz,hz',rfl⟩:=hrel
    have HG:=Lib.hid hgg
    clear hgg
    by_cases h0:z=0
    ·subst h0
     go_wp2
     go_roundw
     case rel=>exact ⟨k+1,y,q,by omega,by go_num,rfl,by rw [← HG.out]; simp [Int.gcd],hy,hy',rfl⟩
     case measure=>simp [intOf]; omega
    ·have hzn:(z != 0)=true:=by simpa using h0
     have hz0:(z==0)=false:=by simpa using h0
     have hm1:(y.tmod z).natAbs<z.natAbs:=by rw [Int.natAbs_tmod]; exact Nat.mod_lt _ (by omega)
     have Hs:=Lib.hid (gcd_tstep y z)
     go_wp2
     go_quiet (fail)
     go_wp2
     go_roundw
     case rel=>exact ⟨z,y.tmod z,_,rfl,rfl,by rw [Hs.out,HG.out],hz,hz',by omega,by omega,drewN_drewN _ _ _⟩
     case measure=>exact hm1
  ·obtain rfl:k=len:=by omega
   clear hb
   by_cases h0:1<x
   ·go_wp2
    go_ret
    exact ⟨ret_i (by unfold divF; rw [← Hg.out]; omega),q,rfl⟩
   by_cases h1:x < -1
   ·go_wp2
    go_ret
    exact ⟨ret_i (by unfold divF; rw [← Hg.out]; omega),q,rfl⟩
   by_cases h2:x=1
   ·subst h2
    go_wp2
    go_ret
    exact ⟨ret_i (by unfold divF; rw [← Hg.out]; rfl),q,rfl⟩
   by_cases h3:x=0
   ·subst h3
    go_wp2
    go_ret
    exact ⟨ret_i (by unfold divF; rw [← Hg.out]; rfl),q,rfl⟩
   obtain rfl:x = -1:=by omega
   go_wp2
   go_ret
   exact ⟨ret_i (by unfold divF; rw [← Hg.out]; rfl),q,rfl⟩
theorem divF_two (n d:Int) (hd:0<d):divF (fun i=>[n,d].getD i 0) 2=Int.gcd n d:=by
 have h:=gcd_bd n d hd
 have:gcdF (fun i=>[n,d].getD i 0) 2=Int.gcd n d:=by
  simp [gcdF,Int.gcd]
 unfold divF
 rw [this]
 omega
set_option maxHeartbeats 400000 in
theorem ratio_c (n d:Int) (w:World) (hn : -4611686018427387904≤n) (hn':n≤4611686018427387904) (hd:0<d) (hd':d≤4611686018427387904) :
 Calls Try.prog 95 #[.int .i64 n, .int .i64 d] w fun e w'=>e = .returned (ratV n d)∧Below w.heap.size w w':=by
 obtain ⟨g0,g1⟩:=gcd_bd n d hd
 have hD:=divF_two n d hd
 unfold ratV ratN ratD
 obtain ⟨g,hG⟩ : ∃ g:Int,(Int.gcd n d:Int)=g:=⟨_,rfl⟩
 rw [hG] at g0 g1 hD ⊢
 have HD:=Lib.hid hD
 clear hG hD
 have hi:Ints ((w.alloc (.cells #[.int .i64 0, .int .i64 0] 30)).alloc (.cells #[.int .i64 n, .int .i64 d] 2)) (some ⟨w.heap.size+1,0,none⟩) 2 (fun i=>[n,d].getD i 0):=by
  have:=ints_new (w.alloc (.cells #[.int .i64 0, .int .i64 0] 30)) 2 (0,0) [n,d]
  rw [World.size_alloc] at this
  exact this
 by_cases h:0≤n
 all_goals
  go_enter Try.func95,Try.ntmps95
  go_wp2_with fail
  refine (divisor_c _ 2 2 (fun i=>[n,d].getD i 0) _ hi (by omega) (fun i hi => ?_)).mono ?_
  ·match i,hi with
   | 0,_=>exact ⟨hn,hn'⟩
   | 1,_=>exact ⟨by show _≤d; omega,hd'⟩
  rintro e w' ⟨he,q,rfl⟩
  rw [HD.out] at he
  subst he
  clear hi
  go_wp2_with fail
  go_region
  all_goals
   go_wp2
   refine bodyPost_ret (v:= .agg #[.int .i64 (n.tdiv g), .int .i64 (d / g)]) (by simp [results,Try.results95,go_sem,Int.tdiv_eq_ediv_of_nonneg, *]) rfl ⟨rfl,?_⟩
   repeat (first | exact Below.refl _ _ | exact Nat.le_refl _ | (refine Below.setCell ?_ ?_ _) | (refine Below.drew ?_) | (refine below_drewN ?_ _) | (refine Below.alloc1 ?_ _ (Nat.le_refl _)))
end Go.Proofs.Ytkbbhihndigmeaa

namespace Go.Proofs.Ytkbbhihndigmeaa
open Go Go.RowKit
theorem grown_refl (w:World) (r:Option Nat):w.grownBy w r:=⟨rfl,rfl,rfl,Nat.le_refl _,fun _ _ _=>rfl⟩
theorem grown_trans {a b c:World} {r:Option Nat} (h:a.grownBy b r) (k:b.grownBy c r):a.grownBy c r:=
 ⟨k.os.trans h.os,k.tape.trans h.tape,k.output.trans h.output,Nat.le_trans h.size k.size,fun i hi hr=>(k.block i (Nat.lt_of_lt_of_le hi h.size) hr).trans (h.block i hi hr)⟩
theorem grown_alloc {a b:World} {r:Option Nat} (h:a.grownBy b r) (o:Obj):a.grownBy (b.alloc o) r:=
 grown_trans h ⟨rfl,rfl,rfl,by simp,fun k hk _=>Below.heap_alloc _ _ _ hk⟩
theorem grown_set {a b:World} {t:Nat} (h:a.grownBy b (some t)) (j:Nat) (v:Value):a.grownBy (b.setCell ⟨t,j,none⟩ v) (some t):=
 grown_trans h ⟨rfl,rfl,rfl,by simp [World.setCell],fun k _ hr=>Below.heap_setCell _ _ _ _ (fun e=>hr (by rw [e]))⟩
theorem grown_drew {a b:World} {r:Option Nat} (h:a.grownBy b r):a.grownBy b.drew r:=grown_trans h ⟨rfl,rfl,rfl,Nat.le_refl _,fun _ _ _=>rfl⟩
theorem below_of_grown {B t:Nat} {a b:World} (h:a.grownBy b (some t)) (hB:B≤t) (hz:B≤a.heap.size):Below B a b:=⟨h.os,h.tape,h.output,h.size,fun k hk=>h.block k (by omega) (by intro e; cases e; omega)⟩
theorem grown_below {a b:World} (h:Below a.heap.size a b) (t:Option Nat):a.grownBy b t:=⟨h.os,h.tape,h.output,h.size,fun k hk _=>h.block k hk⟩
abbrev planV (p:Nat→Int):Value:= .agg #[.int .i64 (p 0), .int .i64 (p 1), .int .i64 (p 2), .int .i64 (p 3)]
abbrev planRow (p:Nat→Int):Array Value := #[.int .i64 (p 0), .int .i64 (p 1), .int .i64 (p 2), .int .i64 (p 3)]
theorem planRow_at (p:Nat→Int) (j:Nat) (hj:j<4):(planRow p)[j]? = some (.int .i64 (p j)):=by
 match j,hj with
 | 0,_=>rfl
 | 1,_=>rfl
 | 2,_=>rfl
 | 3,_=>rfl
def lossF (f:Nat→Row3) (n:Nat) (p:Nat→Int) (i j:Nat):Int:=if j<n then ag (lossA f) p i j else if j=4 then sumI p i else 0
def lossK (f:Nat→Row3) (n:Nat) (p:Nat→Int) (i k j:Nat):Int:=if j<k then ag (lossA f) p (i+1) j else lossF f n p i j
theorem lossK_zero (f:Nat→Row3) (n:Nat) (p:Nat→Int) (i:Nat):lossK f n p i 0=lossF f n p i:=funext fun _=>if_neg (Nat.not_lt_zero _)
def wiped (w:World) (b:Nat):World:=((((w.setCell ⟨b,0,none⟩ (.int .i64 0)).setCell ⟨b,1,none⟩ (.int .i64 0)).setCell ⟨b,2,none⟩ (.int .i64 0)).setCell ⟨b,3,none⟩ (.int .i64 0)).setCell ⟨b,4,none⟩ (.int .i64 0)
set_option maxHeartbeats 400000 in
theorem clear5 (w:World) (tb:Nat) (c0 c1 c2 c3 c4:Value) (e:TypeId) (ht:RowIs w tb #[c0,c1,c2,c3,c4] e) :
 (Builtin.clear_ #[25] 0 #[.slice (some ⟨tb,0,none⟩) 5 5]).run Try.prog w = .ok (.tuple #[]) (wiped w tb):=by
 have k0:=ht.cell 0
 have k1:=ht.cell 1
 have k2:=ht.cell 2
 have k3:=ht.cell 3
 have k4:=ht.cell 4
 have z0:=ht.frozen 0
 have z1:=ht.frozen 1
 have z2:=ht.frozen 2
 have z3:=ht.frozen 3
 have z4:=ht.frozen 4
 simp at k0 k1 k2 k3 k4
 simp [Builtin.clear_,run_underlying Try.underlying25,go_sem,wiped,Value.cells,Result.andThen]
 rw [show (Builtin.zeroCells #[.int .i64 0] 5).toList=[.int .i64 0, .int .i64 0, .int .i64 0, .int .i64 0, .int .i64 0] by kernel_rfl]
 simp [go_sem,storeCells,k0,k1,k2,k3,k4,z0,z1,z2,z3,z4]
theorem wiped_row {w:World} {tb:Nat} {c0 c1 c2 c3 c4:Value} {e:TypeId} (h:RowIs w tb #[c0,c1,c2,c3,c4] e) (f:Nat→Row3) (n:Nat) (p:Nat→Int):RowIs (wiped w tb) tb (rowA 5 (lossF f n p 0)) e:=by
 have:=((((h.set 0 (.int .i64 0)).set 1 (.int .i64 0)).set 2 (.int .i64 0)).set 3 (.int .i64 0)).set 4 (.int .i64 0)
 have e0:rowA 5 (lossF f n p 0)=rowA 5 fun _=>0:=rowA_same fun i _=>by
  unfold lossF
  by_cases h1:i<n
  ·rw [if_pos h1]; rfl
  ·rw [if_neg h1]; by_cases h2:i=4 <;> simp [h2,sumI]
 rw [e0]
 simpa [wiped,rowA,List.range_succ] using this
theorem wiped_grown (w:World) (b:Nat):w.grownBy (wiped w b) (some b):=grown_set (grown_set (grown_set (grown_set (grown_set (grown_refl _ _) _ _) _ _) _ _) _ _) _ _
set_option maxRecDepth 100000 in
set_option maxHeartbeats 8000000 in
theorem weigh_c (a:Option Addr) (m n cap sb B:Nat) (f:Nat→Row3) (p:Nat→Int) (c0 c1 c2 c3 c4:Value) (e:TypeId) (w:World) (hT : ∀ x,Below B w x→Tab x a m f) (hB:B≤sb) (hBw:B≤w.heap.size) (hO:Okay m n f) (hb : ∀ i,i<m→0≤p i∧p i≤100000000) (hs:RowIs w sb #[c0,c1,c2,c3,c4] e) :
 Calls Try.prog 83 #[tabV a m cap,planV p, .pointer (some ⟨sb,0,none⟩)] w fun r w'=>r = .returned (.tuple #[])∧RowIs w' sb (rowA 5 (lossF f n p m)) e∧w.grownBy w' (some sb):=by
 obtain ⟨W,hW⟩ : ∃ W,(w.alloc (.cells #[.slice a m cap] 73)).alloc (.cells #[.int .i64 (p 0), .int .i64 (p 1), .int .i64 (p 2), .int .i64 (p 3)] 77)=W:=⟨_,rfl⟩
 have hR:RowIs W w.heap.size #[.slice a m cap] 73:=by rw [← hW]; exact RowIs.alloc (heap_new_at _ _ _ rfl) _
 have hP:RowIs W (w.heap.size+1) (planRow p) 77:=by rw [← hW]; exact heap_new_at _ _ _ (by simp)
 have hS:RowIs W sb #[c0,c1,c2,c3,c4] e:=by rw [← hW]; exact (hs.alloc _).alloc _
 have hsz:=hs.lt
 have hwW:w.grownBy W (some sb):=by rw [← hW]; exact grown_alloc (grown_alloc (grown_refl _ _) _) _
 have hclr:=clear5 W sb c0 c1 c2 c3 c4 e hS
 obtain ⟨V,hV⟩ : ∃ V,wiped W sb=V:=⟨_,rfl⟩
 rw [hV] at hclr
 have hWV:W.grownBy V (some sb):=by rw [← hV]; exact wiped_grown W sb
 have hSV:RowIs V sb (rowA 5 (lossF f n p 0)) e:=by rw [← hV]; exact wiped_row hS f n p
 have hRV:RowIs V w.heap.size #[.slice a m cap] 73:=(hWV.block _ hR.lt (by intro h; cases h; omega)).trans hR
 have hPV:RowIs V (w.heap.size+1) (planRow p) 77:=(hWV.block _ hP.lt (by intro h; cases h; omega)).trans hP
 have r0:V.cell? ⟨w.heap.size,0,none⟩=some (.slice a m cap):=RowIs.cell hRV 0
 have rz:w.heap.size<V.heap.size:=hRV.lt
 have hgV:=grown_trans hwW hWV
 have sz0:sb<W.heap.size:=hS.lt
 have HSV:=Lib.hid hSV
 have HPV:=Lib.hid hPV
 have HgV:=Lib.hid hgV
 have HT:=Lib.hid hT
 have HO:=Lib.hid hO
 have Hb:=Lib.hid hb
 have HD:=Lib.hid (fun j (hj:j<n)=>dot_bd (g:=fun i=>lossA f i j) hb (fun i hi=>hO.num i hi j hj))
 have hm4:=hO.m4
 have hn4:=hO.n4
 clear hR hP hS hwW hWV hSV hRV hPV hgV hT hO hb hs
 go_enter Try.func83,Try.ntmps83
 go_wp2_with fail
 clear hclr hW hV
 go_loopw [17] (fun i wr=> ∃ k:Nat,k≤m∧i = .int .i64 k∧RowIs wr sb (rowA 5 (lossF f n p k)) e∧V.grownBy wr (some sb)) (fun i _=>m-(intOf i).toNat)
 case atStart=>exact ⟨0,Nat.zero_le _,rfl,HSV.out,grown_refl _ _⟩
 case round=>
  obtain ⟨i,hi,rfl,hr,hg⟩:=hrel
  have hT:=HT.out wr (below_of_grown (grown_trans HgV.out hg) hB hBw)
  by_cases hlt:i<m
  ·obtain ⟨b,off,rfl,hbs,hc⟩:=Tab.at hT i hlt
   have c1:=hc i hlt
   rw [HO.out.len i hlt] at c1
   have Hr:=Lib.hid hr
   have Hg:=Lib.hid hg
   clear hr hg hT hc r0
   obtain ⟨X,hX⟩ : ∃ X:World,X=wr:=⟨_,rfl⟩
   subst hX
   go_wp2_with fail
   go_loopw [8,9,24] (fun _ _ j wi=> ∃ k:Nat,k≤n∧j = .int .i64 k∧RowIs wi sb (rowA 5 (lossK f n p i k)) e∧V.grownBy wi (some sb)) (fun _ _ j _=>n-(intOf j).toNat)
   case atStart=>exact ⟨0,Nat.zero_le _,rfl,by rw [lossK_zero]; exact Hr.out,Hg.out⟩
   case round=>
    obtain ⟨k,hk,rfl,hri,hgi⟩:=hrel
    have hPw:RowIs wr (w.heap.size+1) (planRow p) 77:=(hgi.block _ HPV.out.lt (by intro h; cases h; omega)).trans HPV.out
    have d1:wr.cell? ⟨w.heap.size+1,i,none⟩=some (.int .i64 (p i)):=(RowIs.cell hPw i).trans (planRow_at p i (by omega))
    have dz:=hPw.lt
    by_cases hlk:k<n
    ·have hT:=HT.out wr (below_of_grown (grown_trans HgV.out hgi) hB hBw)
     obtain ⟨rb,ro,hra,hrs,hrc⟩:=Cells.at (hT.2 i hlt) k (by rw [HO.out.len i hlt]; exact hlk)
     have c2:=hrc k (by rw [HO.out.len i hlt]; exact hlk)
     have c4:wr.cell? ⟨sb,k,none⟩=some (.int .i64 (ag (lossA f) p i k)):=((RowIs.cell hri k).trans (rowA_get _ _ k (by omega))).trans (by unfold lossK lossF; rw [if_neg (Nat.lt_irrefl _),if_pos hlk])
     have c5:wr.frozen? ⟨sb,k,none⟩=false:=RowIs.frozen hri k
     have cz:=hri.lt
     have b1:=prod_bd (Hb.out i hlt).1 (Hb.out i hlt).2 (HO.out.num i hlt k hlk).1 (HO.out.num i hlt k hlk).2
     have b2:=HD.out k hlk i (by omega)
     have hw1:IntKind.i64.wrap (p i*(f i).g k)=p i*(f i).g k:=IntWalk.i64_in _ (by omega)
     have hw2:IntKind.i64.wrap (ag (lossA f) p i k+p i*(f i).g k)=ag (lossA f) p i k+p i*(f i).g k:=IntWalk.i64_in _ (by unfold ag; omega)
     have hset:=rowA_set 5 (lossK f n p i k) (lossK f n p i (k+1)) k (ag (lossA f) p i k+p i*(f i).g k) (by unfold lossK; rw [if_pos (by omega)]; rfl) (fun j _ hj=>by unfold lossK; by_cases h:j<k; { rw [if_pos h,if_pos (by omega)] }; { rw [if_neg h,if_neg (by omega)] })
     have Hri:=Lib.hid hri
     have Hgi:=Lib.hid hgi
     have Hset:=Lib.hid hset
     have hk5:k<5:=by omega
     clear hri hgi hset hrc b1 b2 hT hPw
     simp only [hra]
     go_wp2_with fail
     go_region
     all_goals
      go_wp2_with fail
      go_roundw
      case rel=>exact ⟨k+1,by omega,by go_num,by rw [← Hset.out]; exact (Hri.out.set k _),grown_drew (grown_set Hgi.out k _)⟩
      case measure=>simp [intOf]; omega
    ·obtain rfl:k=n:=by omega
     have c4:wr.cell? ⟨sb,4,none⟩=some (.int .i64 (sumI p i)):=((RowIs.cell hri 4).trans (rowA_get _ _ 4 (by omega))).trans (by unfold lossK lossF; rw [if_neg (by omega),if_neg (by omega),if_pos rfl])
     have c5:wr.frozen? ⟨sb,4,none⟩=false:=RowIs.frozen hri 4
     have cz:=hri.lt
     have b1:=Hb.out i hlt
     have b2:=sumI_bound Hb.out i (by omega)
     have hw1:IntKind.i64.wrap (sumI p i+p i)=sumI p i+p i:=IntWalk.i64_in _ (by omega)
     have hset:=rowA_set 5 (lossK f k p i k) (lossF f k p (i+1)) 4 (sumI p i+p i) (by unfold lossF; rw [if_neg (by omega),if_pos rfl]; rfl) (fun j _ hj=>by unfold lossK lossF; by_cases h:j<k; { rw [if_pos h,if_pos h] }; { rw [if_neg h,if_neg h,if_neg hj,if_neg h,if_neg hj] })
     have Hri:=Lib.hid hri
     have Hgi:=Lib.hid hgi
     have Hset:=Lib.hid hset
     clear hri hgi hset b1 b2 hPw
     go_wp2_with fail
     go_region
     all_goals
      go_wp2_with fail
      go_roundw
      case rel=>exact ⟨i+1,by omega,by go_num,by rw [← Hset.out]; exact (Hri.out.set 4 _),grown_drew (grown_set Hgi.out 4 _)⟩
      case measure=>simp [intOf]; omega
  ·obtain rfl:i=m:=by omega
   go_wp2_with fail
   go_end0
   exact ⟨rfl,hr,grown_trans HgV.out hg⟩
end Go.Proofs.Ytkbbhihndigmeaa
