/- The helper of layer 3's laws that makes a plan by numbers. -/
import Derived.WalkKit
import Derived.Test.YtkbbhihndigmeaaProg
import Derived.Test.YtkbbhihndigmeaaBasaa
import Derived.Test.YtkbbhihndigmeaaBasad
import Derived.Test.YtkbbhihndigmeaaBasap
import Derived.Test.YtkbbhihndigmeaaQtdaa
import Derived.Shelf.Abstract
import Derived.Shelf.RegionOpen
import Derived.Deep.CutRange
import Derived.Deep.Quiet
import Derived.LoopN
import Derived.Maps.RangeWalk
import Derived.Laws.IdiomRangeMap
import Derived.Test.YtkbbhihndigmeaaBasan
import Derived.Test.YtkbbhihndigmeaaBasat
import Derived.Test.YtkbbhihndigmeaaBasau
import Derived.Test.YtkbbhihndigmeaaBasao
import Derived.Test.YtkbbhihndigmeaaBasaz
import Derived.Test.YtkbbhihndigmeaaBasba
namespace Go.Proofs.Ytkbbhihndigmeaa
open Go Go.RowKit
def Shorts (w:World) (a:Option Addr) (n:Nat) (f:Nat→Int):Prop:=Cells w a n fun i=> .int .u16 (f i)
theorem Shorts.below {w w':World} {a:Option Addr} {n:Nat} {f:Nat→Int} (h:Shorts w a n f) (hb:Below w.heap.size w w'):Shorts w' a n f:=Cells.below h hb
def planG (len:Nat) (f:Nat→Int) (i:Nat):Int:=if 0<len then f (i % len) else 0
def planX (n len:Nat) (f:Nat→Int):Nat→Int:=if sumI (planG len f) n=0 then (fun i=>if i=0 then 1 else planG len f i) else planG len f
theorem planG_bd {len:Nat} {f:Nat→Int} (hf : ∀ i,i<len→0≤f i∧f i≤65535) (i:Nat):0≤planG len f i∧planG len f i≤65535:=by
 unfold planG
 split
 ·exact hf _ (Nat.mod_lt _ (by assumption))
 ·omega
theorem planX_bd {n len:Nat} {f:Nat→Int} (hf : ∀ i,i<len→0≤f i∧f i≤65535) (i:Nat):0≤planX n len f i∧planX n len f i≤65535:=by
 have:=planG_bd hf i
 unfold planX
 split
 ·dsimp only
  split <;> omega
 ·exact this
theorem sumI_some {g:Nat→Int} : ∀ {n:Nat},(∀ i,i<n→0≤g i)→(∃ i,i<n∧0<g i)→0<sumI g n
 | 0,_,⟨_,h,_⟩=>absurd h (Nat.not_lt_zero _)
 | n+1,h,⟨i,hi,h2⟩=>by
   have h0:0≤sumI g n:=by
    have : ∀ k,k≤n→0≤sumI g k:=fun k=>by
     induction k with
     | zero=>intro _; exact Int.le_refl _
     | succ k ih=>intro hk; rw [sumI]; have:=ih (by omega); have:=h k (by omega); omega
    exact this n (Nat.le_refl _)
   have h3:=h n (by omega)
   rw [sumI]
   by_cases e:i=n
   ·subst e; omega
   ·have:=sumI_some (n:=n) (fun i hi=>h i (by omega)) ⟨i,by omega,h2⟩
    omega
theorem sumI_all0 {g:Nat→Int} : ∀ {n:Nat},(∀ i,i<n→g i=0)→sumI g n=0
 | 0,_=>rfl
 | n+1,h=>by rw [sumI,sumI_all0 fun i hi=>h i (by omega),h n (by omega)]; rfl
theorem planX_pos {n len:Nat} {f:Nat→Int} (hn:1≤n) (hf : ∀ i,i<len→0≤f i∧f i≤65535):0<sumI (planX n len f) n:=by
 by_cases h:sumI (planG len f) n=0
 ·refine sumI_some (fun i _=>(planX_bd hf i).1) ⟨0,by omega,?_⟩
  unfold planX
  rw [if_pos h]
  simp
 ·have e:planX n len f=planG len f:=by unfold planX; rw [if_neg h]
  rw [e]
  have h2 : ∀ i,i<n→0≤planG len f i:=fun i _=>(planG_bd hf i).1
  refine Classical.byContradiction fun hc=>h ?_
  refine sumI_all0 fun i hi => ?_
  have:=h2 i hi
  refine Classical.byContradiction fun h4=>hc (sumI_some h2 ⟨i,hi,by omega⟩)
theorem own_plan {w w2:World} {base:Nat} {e:TypeId} {v':Value} {k len:Nat} {f:Nat→Int} {x:Int} (h:w2.ownsRow base e 1 v' (k+1) (numL (planG len f) k ++ [.int .i64 x])) (hx:x=planG len f k) (_:w=w) :
 w2.ownsRow base e 1 v' (k+1) (numL (planG len f) (k+1)):=by
 rw [numL_more, ← hx]
 exact h
theorem ints_of_own {w:World} {base:Nat} {e:TypeId} {g n cap:Nat} {F:Nat→Int} (h:w.ownsRow base e 1 (.slice (some ⟨g,0,none⟩) n cap) n (numL F n)):Ints w (some ⟨g,0,none⟩) n F∧base≤g∧g<w.heap.size:=by
 have hg:base≤g∧g<w.heap.size:=by
  rcases h.2 with ⟨hv,_⟩ | ⟨g',cap',cur,hv,hb,hh,_⟩
  ·cases hv
  ·cases hv
   exact ⟨hb,(Array.getElem?_eq_some_iff.1 hh).1⟩
 refine ⟨.inr ⟨g,0,rfl,hg.2,fun i hi => ?_⟩,hg⟩
 rw [Nat.zero_add,h.cellAt i (by omega)]
 exact numL_get F _ _ hi
theorem own_form {w:World} {base:Nat} {e:TypeId} {size n:Nat} {v:Value} {xs:List Value} (h:w.ownsRow base e size v n xs) (hn:0<n) : ∃ g cap,v = .slice (some ⟨g,0,none⟩) n cap∧g<w.heap.size:=by
 rcases h.2 with ⟨_,h0⟩ | ⟨g,cap,cur,hv,hb,hg,_⟩
 ·omega
 ·exact ⟨g,cap,hv,(Array.getElem?_eq_some_iff.1 hg).1⟩
set_option maxRecDepth 100000 in
set_option maxHeartbeats 4000000 in
theorem Planned_c (b:Option Addr) (n len cap:Nat) (f:Nat→Int) (w:World) (hf:Shorts w b len f) (hn:1≤n∧n≤4) (hl:len≤20) (hb : ∀ i,i<len→0≤f i∧f i≤65535) :
 Calls Try.prog 42 #[.int .i64 n, .slice b len cap] w fun e w'=> ∃ g cap',e = .returned (.slice (some ⟨g,0,none⟩) n cap')∧Ints w' (some ⟨g,0,none⟩) n (planX n len f)∧Below w.heap.size w w':=by
 obtain ⟨i0,hi,hz0,hz1,hz2⟩:=info_one info64
 have Hb:=Lib.hid hb
 have Hn:=Lib.hid hn
 have hn0:0<n:=by omega
 have hn6:n≤4:=hn.2
 clear hb hn
 go_enter Try.func42,Try.ntmps42
 go_wp2
 go_loopw [5,6] (fun v i wr=> ∃ k:Nat,k≤n∧i = .int .i64 k∧wr.ownsRow w.heap.size 2 1 v k (numL (planG len f) k)∧Below w.heap.size w wr) (fun _ i _=>n-(intOf i).toNat)
 case atStart=>exact ⟨0,Nat.zero_le _,rfl,World.ownsRow_nil _ _ _ _,Below.refl _ _⟩
 case round=>
  obtain ⟨k,hk,rfl,hown,hB⟩:=hrel
  have hBs:=hB.size
  by_cases hlt:k<n
  ·by_cases hl0:0<len
   ·have hm:k % len<len:=Nat.mod_lt _ hl0
    have hmod:Int.tmod (k:Int) (len:Int)=((k % len:Nat):Int):=rfl
    obtain ⟨bb,off,rfl,hbs,hc⟩:=Cells.at hf (k % len) hm
    have hck:=(hB.cell (p:=⟨bb,off+k % len,none⟩) hbs).trans (hc _ hm)
    have hx:=Hb.out (k % len) hm
    have hwr:IntKind.i64.wrap (f (k % len))=f (k % len):=IntWalk.i64_in _ (by omega)
    have HB:=Lib.hid hB
    clear hB hc
    go_wp2_with (at_builtin; refine wpList_append_own _ rfl _ _ 25 rfl w.heap.size 2 i0 (.int .i64 0) 1 8 Try.underlying25 hi hz0 hz1 hz2 rfl (by decide) _ _ _ rfl (hown.alloc _) ⟨wr.heap.size,0,none⟩ 1 1 [.int .i64 (f (k % len))] rfl rfl (World.news_of_block (cs := #[.int .i64 (f (k % len))]) (t:=2) (fr:=(0,0)) (heap_new_at _ _ _ rfl)) (by simp [Value.oneCell']) (by unfold maxLen; omega) (by omega) (by simp; omega) ?_; intro v' w2 hown2 hgr2 _)
    go_roundw
    case rel=>
     refine ⟨k+1,by omega,by go_num,?_,(Below.alloc1 HB.out _ (Nat.le_refl _)).grown hgr2 (by simp; omega) (fun j h=>(hown.lt j h).1)⟩
     exact own_plan (w:=w) hown2 (by unfold planG; rw [if_pos hl0]) rfl
    case measure=>simp [intOf]; omega
   ·obtain rfl:len=0:=by omega
    have HB:=Lib.hid hB
    clear hB
    go_wp2_with (at_builtin; refine wpList_append_own _ rfl _ _ 25 rfl w.heap.size 2 i0 (.int .i64 0) 1 8 Try.underlying25 hi hz0 hz1 hz2 rfl (by decide) _ _ _ rfl (hown.alloc _) ⟨wr.heap.size,0,none⟩ 1 1 [.int .i64 0] rfl rfl (World.news_of_block (cs := #[.int .i64 0]) (t:=2) (fr:=(0,0)) (heap_new_at _ _ _ rfl)) (by simp [Value.oneCell']) (by unfold maxLen; omega) (by omega) (by simp; omega) ?_; intro v' w2 hown2 hgr2 _)
    go_roundw
    case rel=>
     refine ⟨k+1,by omega,by go_num,?_,(Below.alloc1 HB.out _ (Nat.le_refl _)).grown hgr2 (by simp; omega) (fun j h=>(hown.lt j h).1)⟩
     exact own_plan (w:=w) hown2 (by unfold planG; rw [if_neg (by omega)]) rfl
    case measure=>simp [intOf]; omega
  ·obtain rfl:k=n:=by omega
   obtain ⟨g,cap',rfl,hgz⟩:=own_form hown hn0
   obtain ⟨hI,hg1,hg2⟩:=ints_of_own hown
   have hf0:=hown.frozenAt 0
   have hc0:wr.cell? ⟨g,0,none⟩=some (.int .i64 (planG len f 0)):=by rw [hown.cellAt 0 (by omega)]; exact numL_get _ _ _ hn0
   have hG:=planG_bd Hb.out
   have Hown:=Lib.hid hown
   have HB:=Lib.hid hB
   clear hown hB
   by_cases h0:sumI (planG len f) k=0
   ·have hS:=rSum_c (some ⟨g,0,none⟩) k cap' (planG len f) wr hI (by omega) (fun i _=>by have:=hG i; omega)
    rw [h0] at hS
    have H0:=Lib.hid h0
    have HG:=Lib.hid hG
    clear h0 hG hI
    go_wp2_with fail
    refine hS.mono ?_
    rintro e w1 ⟨rfl,rfl⟩
    go_wp2
    go_ret
    obtain ⟨r1,r2⟩:=Hown.out.stored 0 (.int .i64 1)
    have e1:(numL (planG len f) k).set 0 (.int .i64 1)=numL (planX k len f) k:=by
     have em:planX k len f=fun i=>if i=0 then 1 else planG len f i:=by unfold planX; rw [if_pos H0.out]
     rw [em]
     refine List.ext_getElem? fun j => ?_
     rw [List.getElem?_set]
     by_cases hj:j<k
     ·rw [numL_get _ _ _ hj,numL_get _ _ _ hj,numL_len]
      by_cases e:0=j
      ·subst e
       simp [hn0]
      ·rw [if_neg e]
       simp [(show ¬ j=0 by omega)]
     ·rw [List.getElem?_eq_none (by rw [numL_len]; omega),List.getElem?_eq_none (by rw [numL_len]; omega),if_neg (by omega)]
    rw [e1] at r1
    obtain ⟨q1,q2,q3⟩:=ints_of_own r1
    exact ⟨g,cap',rfl,q1,HB.out.setCell (p:=⟨g,0,none⟩) hg1 _⟩
   ·have hS:=rSum_c (some ⟨g,0,none⟩) k cap' (planG len f) wr hI (by omega) (fun i _=>by have:=hG i; omega)
    have h0':(sumI (planG len f) k==0)=false:=by simpa using h0
    have H0:=Lib.hid h0
    have HI:=Lib.hid hI
    clear h0 hG hI
    go_wp2_with fail
    refine hS.mono ?_
    rintro e w1 ⟨rfl,rfl⟩
    go_wp2
    go_ret
    have em:planX k len f=planG len f:=by unfold planX; rw [if_neg H0.out]
    exact ⟨g,cap',rfl,by rw [em]; exact HI.out,HB.out⟩
end Go.Proofs.Ytkbbhihndigmeaa

namespace Go.Proofs.Ytkbbhihndigmeaa
open Go Go.RowKit Go.Shelf
def ToldAt (A:Nat→Nat→Int) (m n i0:Nat) (x:Nat→Int):Prop:=
 ∃ (R G:List Nat) (e:Int),R.Sublist (List.range m)∧G.Sublist (List.range n)∧G.length=R.length∧0<R.length∧(e=1∨e = -1)∧(∀ a,a<R.length→0≤e*partsOf A R G a)∧(∃ a,a<R.length∧partsOf A R G a ≠ 0)∧0<inj R (fun a=>e*partsOf A R G a) R.length i0 ∧
   ∀ v s:Int,0<s→(∀ j,j<n→v*tot x m≤s*ag A x m j) → ∀ j,j<n→v*tot (inj R (fun a=>e*partsOf A R G a) R.length) m≤s*ag A (inj R (fun a=>e*partsOf A R G a) R.length) m j
def Best (A:Nat→Nat→Int) (m n:Nat) (x:Nat→Int) (j0:Nat):Prop:= ∀ y:Nat→Int,(∀ i,i<m→0≤y i)→0<tot y m → ∀ v s:Int,0<s→(∀ j,j<n→v*tot y m≤s*ag A y m j)→v*tot x m≤s*ag A x m j0
theorem told_of_at (A:Nat→Nat→Int) (m n i0:Nat) (x:Nat→Int) (hm:m≤4) (hx : ∀ i,i<m→0≤x i) (hi0:i0<m) (hp0:0<x i0) (G S:List Nat) (hG:G.Sublist (tight A x m n)) (hGl:G.length=(supp x m).length) (hS:S.length=(supp x m).length) (hSN : ∀ c,c ∈ S→c<(supp x m).length+1)
 (hdet:detP (formsM (lossM A (supp x m) G) (supp x m).length) S ≠ 0):ToldAt A m n i0 x:=by
 obtain ⟨R,hR⟩ : ∃ R,supp x m=R:=⟨_,rfl⟩
 have hds:=fun f=>dot_supp x f m
 have hRi : ∀ i,i ∈ R↔i<m∧x i ≠ 0:=fun i=>by rw [← hR]; exact supp_iff
 have hRn:R.Nodup:=by rw [← hR]; exact supp_nodup x m
 have hRs:R.Sublist (List.range m):=by rw [← hR]; exact List.filter_sublist
 rw [hR] at hGl hS hSN hdet
 simp only [hR] at hds
 have hRl:R.length≤m:=by have:=hRs.length_le; simpa using this
 have hRm : ∀ s,s<R.length→R.getD s 0<m:=fun s hs=>((hRi _).1 (getD_mem hs)).1
 have hxp : ∀ s,s<R.length→0<x (R.getD s 0):=fun s hs=>by
  have h1:=(hRi _).1 (getD_mem hs)
  have h2:=hx _ h1.1
  omega
 obtain ⟨s0,hs0,es0⟩:=mem_getD ((hRi i0).2 ⟨hi0,by omega⟩)
 have hR0:0<R.length:=by omega
 obtain ⟨b,hb,hPb⟩ : ∃ b,b<R.length∧partsOf A R G b ≠ 0:=by
  refine Classical.byContradiction fun hno=>hdet (part_det _ _ (by omega) hR0 (fun i hi=>Classical.byContradiction fun h=>hno ⟨i,hi,h⟩) S hS hSN)
 have hun : ∀ a,a<R.length→x (R.getD a 0)*partsOf A R G b=x (R.getD b 0)*partsOf A R G a:=fun a ha=>by
  refine uniq (lossM A R G) (fun s=>x (R.getD s 0)) (ag A x m (G.getD 0 0)) R.length (by omega) (fun c hc => ?_) ha hb
  have h1:=hds fun i=>A i (G.getD c 0)
  have e:dotN (fun s=>x (R.getD s 0)) (fun i=>lossM A R G i c) R.length=ag A x m (G.getD c 0):=h1.symm
  rw [e]
  have t1:=tight_iff.1 (hG.subset (getD_mem (s:=c) (by omega)))
  have t2:=tight_iff.1 (hG.subset (getD_mem (s:=0) (R:=G) (by omega)))
  have:=t1.2 _ t2.1
  have:=t2.2 _ t1.1
  omega
 obtain ⟨e,he,hpos⟩ : ∃ e:Int,(e=1∨e = -1)∧0<e*partsOf A R G b:=by
  by_cases h:0<partsOf A R G b
  ·exact ⟨1, .inl rfl,by omega⟩
  ·exact ⟨-1, .inr rfl,by omega⟩
 have hxb:=hxp b hb
 have hsc : ∀ a,a<R.length→x (R.getD b 0)*(e*partsOf A R G a)=(e*partsOf A R G b)*x (R.getD a 0):=fun a ha=>by
  have:=hun a ha
  grind
 have hge : ∀ a,a<R.length→0≤e*partsOf A R G a:=fun a ha=>by
  have h1:=Int.mul_nonneg (Int.le_of_lt hpos) (Int.le_of_lt (hxp a ha))
  rw [← hsc a ha] at h1
  exact Int.nonneg_of_mul_nonneg_right h1 hxb
 have hi:0<inj R (fun a=>e*partsOf A R G a) R.length i0:=by
  rw [← es0,inj_in hRn hs0 (Nat.le_refl _)]
  have h1:=hsc s0 hs0
  have h2:=Int.mul_pos hpos (hxp s0 hs0)
  rw [← h1] at h2
  have h3:=hge s0 hs0
  refine Classical.byContradiction fun hn => ?_
  have h4:e*partsOf A R G s0=0:=by omega
  rw [h4,Int.mul_zero] at h2
  exact Int.lt_irrefl _ h2
 refine ⟨R,G,e,hRs,hG.trans List.filter_sublist,hGl,hR0,he,hge,⟨b,hb,hPb⟩,hi,fun v s hs hv j hj => ?_⟩
 have key : ∀ f:Nat→Int,x (R.getD b 0)*dotN (inj R (fun a=>e*partsOf A R G a) R.length) f m=(e*partsOf A R G b)*dotN x f m:=fun f=>by
  rw [inj_dot R _ f m R.length hRm,hds f, ← dotN_mul, ← dotN_mul]
  exact dotN_at (fun a ha=>hsc a ha) fun _ _=>rfl
 have k1:=key fun _=>1
 have k2:=key fun i=>A i j
 have h3:=Int.mul_le_mul_of_nonneg_left (hv j hj) (Int.le_of_lt hpos)
 refine Int.le_of_mul_le_mul_left (a:=x (R.getD b 0)) ?_ hxb
 exact scaled k1 k2 h3
theorem told_at (A:Nat→Nat→Int) (m n i0:Nat) (hm:m≤4) (hn:0<n) (hi0:i0<m) : ∀ (z:Nat) (x:Nat→Int),(supp x m).length+(n-(tight A x m n).length)≤z→(∀ i,i<m→0≤x i)→0<x i0→(∀ j0,j0 ∈ tight A x m n→Best A m n x j0)→ToldAt A m n i0 x:=by
 intro z
 induction z using Nat.strongRecOn with
 | ind z ih=>
 intro x hz hx hp0 hopt
 have ht:0<tot x m:=by
  rw [tot_sum]
  exact sumI_some hx ⟨i0,hi0,hp0⟩
 obtain ⟨j0,hj0n,hj0m⟩:=ag_exists A x m n hn
 have hj0:j0 ∈ tight A x m n:=tight_iff.2 ⟨hj0n,hj0m⟩
 have hsl:(supp x m).length≤m:=by have:=(List.filter_sublist (l:=List.range m) (p:=fun i=>decide (x i ≠ 0))).length_le; simpa [supp] using this
 -- one end of a line
 have one : ∀ (d:Nat→Int) (p q:Int),0<p→0<q→(∀ i,i<m→x i=0→d i=0)→tot d m=0→(∀ j,j ∈ tight A x m n→ag A d m j=0)→(∀ i,i<m→0≤q*x i+p*d i)→(∀ j,j<n→q*ag A x m j0≤q*ag A x m j+p*ag A d m j) →
  ((∃ i,i<m∧x i ≠ 0∧q*x i+p*d i=0) ∨ ∃ j,j<n ∧ ¬ j ∈ tight A x m n∧q*ag A x m j+p*ag A d m j=q*ag A x m j0)→0<q*x i0+p*d i0→ToldAt A m n i0 x:=by
  intro d p q hp hq hd0 hdt hag h1 h2 h3 hpos
  obtain ⟨y,hy⟩ : ∃ y:Nat→Int,y=fun i=>q*x i+p*d i:=⟨_,rfl⟩
  have hyt:tot y m=q*tot x m:=by
   unfold tot at *
   rw [hy,dotN_lin,hdt]
   simp
  have hya : ∀ j,ag A y m j=q*ag A x m j+p*ag A d m j:=fun j=>by
   unfold ag
   rw [hy,dotN_lin]
  have hsub : ∀ i,i ∈ supp y m→i ∈ supp x m:=fun i hi=>by
   obtain ⟨a1,a2⟩:=supp_iff.1 hi
   refine supp_iff.2 ⟨a1,fun h0=>a2 ?_⟩
   rw [hy]
   show q*x i+p*d i=0
   rw [h0,hd0 i a1 h0]
   simp
  have hmin : ∀ j,j<n→q*ag A x m j0≤ag A y m j:=fun j hj=>by rw [hya]; exact h2 j hj
  have htg : ∀ j,j ∈ tight A x m n→j ∈ tight A y m n:=fun j hj=>by
   obtain ⟨a1,a2⟩:=tight_iff.1 hj
   refine tight_iff.2 ⟨a1,fun l hl => ?_⟩
   have e:ag A x m j=ag A x m j0:=Int.le_antisymm (a2 j0 hj0n) (hj0m j a1)
   have:=hmin l hl
   rw [hya j,e,hag j hj,Int.mul_zero,Int.add_zero]
   exact this
  have hlen1:=nodup_len (supp_nodup y m) hsub
  have hlen2:=nodup_len (tight_nodup A x m n) htg
  have hlen3:(tight A y m n).length≤n:=by have:=(List.filter_sublist (l:=List.range n) (p:=fun j=>decide (∀ l,l<n→ag A y m j≤ag A y m l))).length_le; simpa [tight] using this
  have hless:(supp y m).length+(n-(tight A y m n).length)<z:=by
   rcases h3 with ⟨i,hi,hxi,h0⟩ | ⟨j,hj,hjt,he⟩
   ·have:=nodup_len (S:=i :: supp y m) (T:=supp x m) (List.nodup_cons.2 ⟨fun h=>(supp_iff.1 h).2 (by rw [hy]; exact h0),supp_nodup y m⟩) fun l hl=>by
      rcases List.mem_cons.1 hl with rfl | hl
      ·exact supp_iff.2 ⟨hi,hxi⟩
      ·exact hsub l hl
    rw [List.length_cons] at this
    omega
   ·have:=nodup_len (S:=j :: tight A x m n) (T:=tight A y m n) (List.nodup_cons.2 ⟨hjt,tight_nodup A x m n⟩) fun l hl=>by
      rcases List.mem_cons.1 hl with rfl | hl
      ·exact tight_iff.2 ⟨hj,fun k hk=>by rw [hya l,he]; exact hmin k hk⟩
      ·exact htg l hl
    rw [List.length_cons] at this
    omega
  have hyopt : ∀ j1,j1 ∈ tight A y m n→Best A m n y j1:=fun j1 hj1 u hu hut v s hs hv=>by
   have c1:=hopt j0 hj0 u hu hut v s hs hv
   have c2:=hmin j1 (tight_iff.1 hj1).1
   have c3:=Int.mul_le_mul_of_nonneg_left c1 (Int.le_of_lt hq)
   have c4:=Int.mul_le_mul_of_nonneg_left c2 (Int.le_of_lt hs)
   rw [hyt]
   grind
  obtain ⟨R,G,e,b1,b2,b3,b4,b5,b6,b7,b9,b8⟩:=ih _ hless y (Nat.le_refl _) (fun i hi=>by rw [hy]; exact h1 i hi) (by rw [hy]; exact hpos) hyopt
  refine ⟨R,G,e,b1,b2,b3,b4,b5,b6,b7,b9,fun v s hs hv=>b8 v s hs fun j hj => ?_⟩
  have c1:=Int.mul_le_mul_of_nonneg_left (hv j0 hj0n) (Int.le_of_lt hq)
  have c2:=Int.mul_le_mul_of_nonneg_left (hmin j hj) (Int.le_of_lt hs)
  rw [hyt]
  grind
 -- along a line nothing is won
 have flat : ∀ (d:Nat→Int) (th:Int),(∀ i,i<m→x i=0→d i=0)→tot d m=0→(∃ i,i<m∧d i ≠ 0)→(∀ j,j ∈ tight A x m n→ag A d m j=th)→th≤0:=by
  intro d th hd0 hdt hd hag
  obtain ⟨p,q,hp,hq,h1,h2, -⟩:=moved A m n x d th j0 hx hj0 hd0 hdt hd hag
  have hyt:tot (fun i=>q*x i+p*d i) m=q*tot x m:=by
   unfold tot at *
   rw [dotN_lin,hdt]
   simp
  have:=hopt j0 hj0 (fun i=>q*x i+p*d i) h1 (by rw [hyt]; exact Int.mul_pos hq ht) (q*ag A x m j0+p*th) (q*tot x m) (Int.mul_pos hq ht) (fun j hj=>by
   rw [hyt,show ag A (fun i=>q*x i+p*d i) m j=q*ag A x m j+p*ag A d m j by unfold ag; rw [dotN_lin],Int.mul_comm]
   exact Int.mul_le_mul_of_nonneg_left (h2 j hj) (Int.le_of_lt (Int.mul_pos hq ht)))
  refine Classical.byContradiction fun hn => ?_
  have h3:=Int.mul_pos (Int.mul_pos hp (Int.not_le.1 hn)) ht
  grind
 -- a line along which it can be moved
 have move : ∀ (d:Nat→Int) (th:Int),(∀ i,i<m→x i=0→d i=0)→tot d m=0→(∃ i,i<m∧d i ≠ 0)→(∀ j,j ∈ tight A x m n→ag A d m j=th)→ToldAt A m n i0 x:=by
  intro d th hd0 hdt hd hag
  have n0 : ∀ i,i<m→x i=0→(fun i=>(-1)*d i) i=0:=fun i hi h0=>by show (-1)*d i=0; rw [hd0 i hi h0]; rfl
  have n1:tot (fun i=>(-1)*d i) m=0:=by unfold tot at *; rw [dotN_mul,hdt]; rfl
  have n2 : ∃ i,i<m∧(fun i=>(-1)*d i) i ≠ 0:=by
   obtain ⟨i,hi,h⟩:=hd
   exact ⟨i,hi,by show (-1)*d i ≠ 0; omega⟩
  have na : ∀ j,ag A (fun i=>(-1)*d i) m j=(-1)*ag A d m j:=fun j=>by unfold ag; rw [dotN_mul]
  have n3 : ∀ j,j ∈ tight A x m n→ag A (fun i=>(-1)*d i) m j=(-1)*th:=fun j hj=>by rw [na,hag j hj]
  have t1:=flat d th hd0 hdt hd hag
  have t2:=flat _ _ n0 n1 n2 n3
  obtain rfl:th=0:=by omega
  obtain ⟨p,q,hp,hq,h1,h2,h3⟩:=moved A m n x d 0 j0 hx hj0 hd0 hdt hd hag
  obtain ⟨p',q',hp',hq',h1',h2',h3'⟩:=moved A m n x (fun i=>(-1)*d i) ((-1)*0) j0 hx hj0 n0 n1 n2 n3
  simp only [Int.mul_zero,Int.add_zero] at h2 h3 h2' h3'
  by_cases hg:0<q*x i0+p*d i0
  ·exact one d p q hp hq hd0 hdt hag h1 h2 h3 hg
  ·refine one _ p' q' hp' hq' n0 n1 (fun j hj=>by rw [n3 j hj]; rfl) h1' h2' h3' ?_
   show 0<q'*x i0+p'*((-1)*d i0)
   have g1:=Int.mul_pos hq hp0
   have g2:d i0<0:=by
    refine Classical.byContradiction fun h => ?_
    have:=Int.mul_nonneg (Int.le_of_lt hp) (Int.not_lt.1 h)
    omega
   have g3:=Int.mul_pos hq' hp0
   have g4:=Int.mul_pos hp' (show 0<(-1)*d i0 by omega)
   omega
 have hRm : ∀ s,s<(supp x m).length→(supp x m).getD s 0<m:=fun s hs=>(supp_iff.1 (getD_mem hs)).1
 have line : ∀ y:Nat→Int,(∀ j,j ∈ tight A x m n→dotN (fun s=>if s<(supp x m).length then A ((supp x m).getD s 0) j else -1) y ((supp x m).length+1)=0) →
  ToldAt A m n i0 x∨((∀ s,s<(supp x m).length→tot x m*y s=dotN y (fun _=>1) (supp x m).length*x ((supp x m).getD s 0))∧tot x m*y (supp x m).length=dotN y (fun _=>1) (supp x m).length*ag A x m j0):=by
  intro y hy
  obtain ⟨sg,hsg⟩ : ∃ sg,dotN y (fun _=>1) (supp x m).length=sg:=⟨_,rfl⟩
  rw [hsg]
  have hyj : ∀ j,j ∈ tight A x m n→dotN y (fun s=>A ((supp x m).getD s 0) j) (supp x m).length=y (supp x m).length:=fun j hj=>by
   have h:=hy j hj
   rw [dotN,if_neg (Nat.lt_irrefl _),dotN_comm,dotN_same (s:=fun s=>A ((supp x m).getD s 0) j) (fun s hs=>if_pos hs)] at h
   omega
  obtain ⟨d,hd⟩ : ∃ d:Nat→Int,d=fun i=>tot x m*inj (supp x m) y (supp x m).length i+(- sg)*x i:=⟨_,rfl⟩
  have hdt:tot d m=0:=by
   have h1:=inj_dot (supp x m) y (fun _=>1) m (supp x m).length hRm
   rw [hsg] at h1
   unfold tot at *
   rw [hd,dotN_lin,h1]
   grind
  have hda : ∀ j,j ∈ tight A x m n→ag A d m j=tot x m*y (supp x m).length+(- sg)*ag A x m j0:=fun j hj=>by
   have h1:=inj_dot (supp x m) y (fun i=>A i j) m (supp x m).length hRm
   rw [hyj j hj] at h1
   have e:ag A x m j=ag A x m j0:=Int.le_antisymm ((tight_iff.1 hj).2 j0 hj0n) (hj0m j (tight_iff.1 hj).1)
   rw [← e]
   unfold ag
   rw [hd,dotN_lin,h1]
  have hd0 : ∀ i,i<m→x i=0→d i=0:=fun i hi h0=>by
   rw [hd]
   show tot x m*inj (supp x m) y (supp x m).length i+(- sg)*x i=0
   rw [inj_out fun s hs he=>(supp_iff.1 (getD_mem hs)).2 (by rw [he]; exact h0),h0]
   simp
  by_cases hex : ∃ i,i<m∧d i ≠ 0
  ·exact .inl (move d _ hd0 hdt hex hda)
  ·right
   have hz : ∀ i,i<m→d i=0:=fun i hi=>Classical.byContradiction fun h=>hex ⟨i,hi,h⟩
   refine ⟨fun s hs => ?_,?_⟩
   ·have h1:=hz _ (hRm s hs)
    rw [hd] at h1
    replace h1:tot x m*inj (supp x m) y (supp x m).length ((supp x m).getD s 0)+(- sg)*x ((supp x m).getD s 0)=0:=h1
    rw [inj_in (supp_nodup x m) hs (Nat.le_refl _)] at h1
    grind
   ·have h1:=hda j0 hj0
    have h2:ag A d m j0=0:=by
     unfold ag
     rw [dotN_comm,dotN_same (s:=fun _=>0) hz]
     exact dotN_zero _ m
    rw [h2] at h1
    grind
 rcases rank (fun j s=>if s<(supp x m).length then A ((supp x m).getD s 0) j else -1) (tight A x m n) (tight_nodup A x m n) (supp x m).length (by omega) with ⟨G,S,hG,hGl,hS,hSN,hdet⟩ | ⟨y,w,l,k,hl,hk,y1,y2,w1,w2,hsol⟩
 ·refine told_of_at A m n i0 x hm hx hi0 hp0 G S hG hGl hS hSN ?_
  have e:formsM (lossM A (supp x m) G) (supp x m).length=G.map fun j s=>if s<(supp x m).length then A ((supp x m).getD s 0) j else -1:=by
   unfold formsM
   refine List.ext_getElem (by simp [hGl]) fun i h1 h2 => ?_
   have h3:i<G.length:=by simpa using h2
   rw [List.getElem_map,List.getElem_map,List.getElem_range]
   funext s
   simp [formM,lossM,List.getD_eq_getElem?_getD,List.getElem?_eq_getElem h3]
  rw [e]
  exact hdet
 ·rcases line y (fun j hj=>(hsol j hj).1) with h | ⟨a1,a2⟩
  ·exact h
  rcases line w (fun j hj=>(hsol j hj).2) with h | ⟨b1,b2⟩
  ·exact h
  exfalso
  obtain ⟨X,hX⟩ : ∃ X:Nat→Int,X=fun s=>if s<(supp x m).length then x ((supp x m).getD s 0) else ag A x m j0:=⟨_,rfl⟩
  have ya : ∀ s,s<(supp x m).length+1→tot x m*y s=dotN y (fun _=>1) (supp x m).length*X s:=fun s hs=>by
   rw [hX]
   show _=_*(if s<(supp x m).length then x ((supp x m).getD s 0) else ag A x m j0)
   by_cases h:s<(supp x m).length
   ·rw [if_pos h]; exact a1 s h
   ·rw [if_neg h,show s=(supp x m).length by omega]; exact a2
  have wa : ∀ s,s<(supp x m).length+1→tot x m*w s=dotN w (fun _=>1) (supp x m).length*X s:=fun s hs=>by
   rw [hX]
   show _=_*(if s<(supp x m).length then x ((supp x m).getD s 0) else ag A x m j0)
   by_cases h:s<(supp x m).length
   ·rw [if_pos h]; exact b1 s h
   ·rw [if_neg h,show s=(supp x m).length by omega]; exact b2
  have c1:=ya l hl
  have c2:=ya k hk
  have c3:=wa k hk
  rw [y2,Int.mul_zero] at c2
  have c4:X k=0:=by
   rcases Int.mul_eq_zero.1 c2.symm with h | h
   ·rw [h,Int.zero_mul] at c1
    rcases Int.mul_eq_zero.1 c1 with h | h
    ·omega
    ·exact absurd h y1
   ·exact h
  rw [c4,Int.mul_zero] at c3
  rcases Int.mul_eq_zero.1 c3 with h | h
  ·omega
  ·exact absurd h w1
theorem used_iff {f:Nat→Row3} {m n i:Nat} (hO:Okay m n f):i ∈ usedC (lossA f) m n↔i<m ∧ ∃ x,Surely (lossA f) m n x (valOf (lossA f) m n).1 (valOf (lossA f) m n).2∧0<x i:=by
 refine ⟨used_mem,fun ⟨hi,x,hx,hp⟩ => ?_⟩
 obtain ⟨hs, -,q,hq⟩:=valOf_is hO
 obtain ⟨R,G,e,c1,c2,c3,c4,c5,c6,c7,c8,c9⟩:=told_at (lossA f) m n i hO.m4 hO.n1 hi _ x (Nat.le_refl _) hx.1 hp fun j0 hj0 y hy hyt v' s' hs' hv=>by
  have h1:=weak2 hs' hs ⟨hy,hyt,hv⟩ hq
  have h2:=hx.2.2 j0 (tight_iff.1 hj0).1
  have h3:=Int.mul_le_mul_of_nonneg_right h1 (Int.le_of_lt hx.2.1)
  have h4:=Int.mul_le_mul_of_nonneg_left h2 (Int.le_of_lt hs')
  obtain ⟨V,hV⟩ : ∃ V,(valOf (lossA f) m n).1=V:=⟨_,rfl⟩
  obtain ⟨S,hS⟩ : ∃ S,(valOf (lossA f) m n).2=S:=⟨_,rfl⟩
  rw [hV,hS] at h3
  rw [hV,hS] at h4
  rw [hS] at hs
  refine Int.le_of_mul_le_mul_left (a:=S) ?_ hs
  grind
 have hc:Choice (lossA f) m n R G e:=⟨c1,c2,c3,c4,c5,c6,c7⟩
 have hsu:Surely (lossA f) m n (planC (lossA f) R G e) (valOf (lossA f) m n).1 (valOf (lossA f) m n).2:=⟨hc.plan.1,hc.plan.2,c9 _ _ hs hx.2.2⟩
 unfold usedC
 simp only [List.mem_filter,decide_eq_true_eq,List.mem_range]
 exact ⟨hi,R,G,e,hc,c8,hsu⟩
structure Turn (m:Nat) (r b:Nat→Nat):Prop where
 lt : ∀ i,i<m→r i<m
 back : ∀ i,i<m→b i<m∧r (b i)=i
 forth : ∀ i,i<m→b (r i)=i
theorem turn_sum {m:Nat} {r b:Nat→Nat} (h:Turn m r b) (x f:Nat→Int):dotN x f m=dotN (fun s=>x (r s)) (fun s=>f (r s)) m:=by
 have hl:((List.range m).map r).length=m:=by simp
 have hg : ∀ s,s<m→((List.range m).map r).getD s 0=r s:=fun s hs=>by simp [List.getD_eq_getElem?_getD,hs]
 have hn:((List.range m).map r).Nodup:=by
  rw [List.Nodup,List.pairwise_map]
  refine List.Pairwise.imp_of_mem ?_ List.nodup_range
  intro a c ha hc hac e
  have h1:=h.forth a (List.mem_range.1 ha)
  have h2:=h.forth c (List.mem_range.1 hc)
  rw [e,h2] at h1
  exact hac h1.symm
 rw [dot_list (x:=x) (f:=f) hn (fun i hi=>by
  obtain ⟨a,ha,rfl⟩:=List.mem_map.1 hi
  exact h.lt a (List.mem_range.1 ha)) fun i hi hno=>absurd (List.mem_map.2 ⟨b i,List.mem_range.2 (h.back i hi).1,(h.back i hi).2⟩) hno,hl]
 exact dotN_at (fun s hs=>by rw [hg s hs]) fun s hs=>by rw [hg s hs]
theorem turn_ag {A B:Nat→Nat→Int} {m n:Nat} {r b c:Nat→Nat} (hr:Turn m r b) (hB : ∀ i,i<m → ∀ j,j<n→B (r i) (c j)=A i j) {x y:Nat→Int} (e : ∀ i,i<m→y (r i)=x i):tot y m=tot x m ∧ ∀ j,j<n→ag B y m (c j)=ag A x m j:=by
 refine ⟨?_,fun j hj => ?_⟩
 ·unfold tot
  rw [turn_sum hr]
  exact dotN_at e fun _ _=>rfl
 ·unfold ag
  rw [turn_sum hr]
  exact dotN_at e fun i hi=>hB i hi j hj
section
variable {A B:Nat→Nat→Int} {m n:Nat} {r b c d:Nat→Nat} (hr:Turn m r b) (hc:Turn n c d) (hB : ∀ i,i<m → ∀ j,j<n→B (r i) (c j)=A i j)
include hr hc hB
theorem turn_sure {x y:Nat→Int} {v s:Int} (e : ∀ i,i<m→y (r i)=x i):Surely A m n x v s↔Surely B m n y v s:=by
 obtain ⟨h1,h2⟩:=turn_ag hr hB e
 constructor
 ·rintro ⟨a1,a2,a3⟩
  refine ⟨fun i hi => ?_,by rw [h1]; exact a2,fun j hj => ?_⟩
  ·obtain ⟨k1,k2⟩:=hr.back i hi
   have:=e _ k1
   rw [k2] at this
   rw [this]
   exact a1 _ k1
  ·obtain ⟨k1,k2⟩:=hc.back j hj
   have:=a3 _ k1
   rw [← h2 _ k1,k2] at this
   rw [h1]
   exact this
 ·rintro ⟨a1,a2,a3⟩
  refine ⟨fun i hi=>by rw [← e i hi]; exact a1 _ (hr.lt i hi),by rw [← h1]; exact a2,fun j hj => ?_⟩
  rw [← h1, ← h2 j hj]
  exact a3 _ (hc.lt j hj)
end
theorem turn_flip {A B:Nat→Nat→Int} {m n:Nat} {r c:Nat→Nat} (hB : ∀ i,i<m → ∀ j,j<n→B (r i) (c j)=A i j) : ∀ j,j<n → ∀ i,i<m→flip B (c j) (r i)=flip A j i:=fun j hj i hi=>by
 unfold flip
 rw [hB i hi j hj]
theorem turn_val {A B:Nat→Nat→Int} {m n:Nat} {r b c d:Nat→Nat} (hr:Turn m r b) (hc:Turn n c d) (hB : ∀ i,i<m → ∀ j,j<n→B (r i) (c j)=A i j) {v s:Int} (h:ValIs A m n v s):ValIs B m n v s:=by
 obtain ⟨hs,⟨x,hx⟩,q,hq⟩:=h
 refine ⟨hs,⟨fun i=>x (b i),(turn_sure hr hc hB (y:=fun i=>x (b i)) fun i hi=>by rw [hr.forth i hi]).1 hx⟩,fun j=>q (d j),?_⟩
 rw [← surely_flip] at hq ⊢
 exact (turn_sure hc hr (turn_flip hB) (y:=fun j=>q (d j)) fun j hj=>by rw [hc.forth j hj]).1 hq
theorem turn_used {f g:Nat→Row3} {m n:Nat} {r b c d:Nat→Nat} (hO:Okay m n f) (hG:Okay m n g) (hr:Turn m r b) (hc:Turn n c d) (hB : ∀ i,i<m → ∀ j,j<n→lossA g (r i) (c j)=lossA f i j) (i:Nat) (hi:i<m):r i ∈ usedC (lossA g) m n↔i ∈ usedC (lossA f) m n:=by
 have hv:valOf (lossA g) m n=valOf (lossA f) m n:=(val_same (valOf_is hO) (turn_val hr hc hB (valOf_is hO))).symm
 rw [used_iff hO,used_iff hG,hv]
 constructor
 ·rintro ⟨-,y,hy,hp⟩
  exact ⟨hi,fun i=>y (r i),(turn_sure hr hc hB (x:=fun i=>y (r i)) fun _ _=>rfl).2 hy,hp⟩
 ·rintro ⟨-,x,hx,hp⟩
  exact ⟨hr.lt i hi,fun i=>x (b i),(turn_sure hr hc hB (y:=fun i=>x (b i)) fun i hi=>by rw [hr.forth i hi]).1 hx,by show 0<x (b (r i)); rw [hr.forth i hi]; exact hp⟩
theorem rot_turn {m k:Nat} (hk:k<m):Turn m (fun i=>(i+k) % m) (fun i=>(i+(m-k)) % m):=by
 have hm:0<m:=by omega
 refine ⟨fun i _=>Nat.mod_lt _ hm,fun i hi=>⟨Nat.mod_lt _ hm,?_⟩,fun i hi => ?_⟩
 ·show ((i+(m-k)) % m+k) % m=i
  rw [Nat.mod_add_mod,show i+(m-k)+k=i+m by omega,Nat.add_mod_right,Nat.mod_eq_of_lt hi]
 ·show ((i+k) % m+(m-k)) % m=i
  rw [Nat.mod_add_mod,show i+k+(m-k)=i+m by omega,Nat.add_mod_right,Nat.mod_eq_of_lt hi]
end Go.Proofs.Ytkbbhihndigmeaa

namespace Go.Proofs.Ytkbbhihndigmeaa
open Go Go.RowKit Go.Shelf
theorem or_all:((List.range 16).all fun b=>(List.range 4).all fun q=>(List.range 16).any fun c=>(Go.bits BinOp.or IntKind.i64 (b:Int) (wrap64 (2 ^ q))==(c:Int)) && (List.range 4).all fun r=>bitB c r==(bitB b r || r==q))=true:=by decide +kernel
theorem or_bit {b q:Nat} (hb:b<16) (hq:q<4) : ∃ c:Nat,c<16∧Go.bits BinOp.or IntKind.i64 (b:Int) (wrap64 (2 ^ q))=(c:Int) ∧ ∀ r,r<4→bitB c r=(bitB b r || r==q):=by
 have h:=List.all_eq_true.1 (List.all_eq_true.1 or_all b (List.mem_range.2 hb)) q (List.mem_range.2 hq)
 obtain ⟨c,hc,h2⟩:=List.any_eq_true.1 h
 rw [Bool.and_eq_true,beq_iff_eq,List.all_eq_true] at h2
 exact ⟨c,List.mem_range.1 hc,h2.1,fun r hr=>by simpa using h2.2 r (List.mem_range.2 hr)⟩
theorem bit_zero : ∀ r,r<4→bitB 0 r=false:=by decide +kernel
set_option maxRecDepth 100000 in
set_option maxHeartbeats 8000000 in
theorem moved_c (x:List Nat) (p:Option Addr) (cap k n:Nat) (w:World) (hL:Lst w x p cap) (hx:Rising n x) (hk:k<n) (hn:n≤4) :
 Calls Try.prog 55 #[.slice p x.length cap, .int .i64 k, .int .i64 n] w fun e w'=>(∃ q c b,(∀ r,r<4→bitB b r=x.any fun l=>(l+k) % n==r)∧e = .returned (.slice q (bitsL b n).length c)∧Lst w' (bitsL b n) q c)∧Below w.heap.size w w':=by
 have hlen:=rising_len hx
 obtain ⟨N,hN⟩ : ∃ N,x.length=N:=⟨_,rfl⟩
 have HC:=Lib.hid (fun (j:Nat) (hj:j<N)=>show ∃ xb xo,p=some ⟨xb,xo,none⟩∧xb<w.heap.size∧w.cell? ⟨xb,xo+j,none⟩=some (.int .i64 ((x.getD j 0:Nat):Int)) from by
  obtain ⟨xb,xo,h1,h2,h3⟩:=Cells.at hL.cells j (by omega)
  exact ⟨xb,xo,h1,h2,h3 j (by omega)⟩)
 have HR:=Lib.hid hx
 have HN:=Lib.hid hN
 rw [hN] at hlen ⊢
 have hn0 : ¬ n=0:=by omega
 have hn1 : ¬ (n:Int)=0:=by omega
 clear hL hx hN
 go_enter Try.func55,Try.ntmps55
 go_wp2_with fail
 go_loop [7,8] (fun t i=> ∃ j b:Nat,j≤N∧b<16∧i = .int .i64 j∧t = .int .i64 b ∧ ∀ r,r<4→bitB b r=(x.take j).any fun l=>(l+k) % n==r) (fun _ i=>N-(intOf i).toNat)
 case atStart=>exact ⟨0,0,Nat.zero_le _,by decide,rfl,rfl,fun r hr=>by rw [bit_zero r hr]; rfl⟩
 case round=>
  obtain ⟨j,b,hj,hb,rfl,rfl,hbits⟩:=hrel
  have HBI:=Lib.hid hbits
  clear hbits
  by_cases hlt:j<N
  ·obtain ⟨xb,xo,rfl,hz,hc⟩:=HC.out j hlt
   have hl:=rising_get HR.out (show j<x.length by rw [HN.out]; exact hlt)
   obtain ⟨l,hle⟩ : ∃ l,x.getD j 0=l:=⟨_,rfl⟩
   rw [hle] at hc hl
   obtain ⟨q,hq⟩ : ∃ q,(l+k) % n=q:=⟨_,rfl⟩
   have hqn:q<n:=by rw [← hq]; exact Nat.mod_lt _ (by omega)
   obtain ⟨c,hc16,hor,hcb⟩:=or_bit hb (show q<4 by omega)
   have t2:((l:Int)+(k:Int)) % (n:Int)=(q:Int):=by rw [← hq]; exact (Int.natCast_emod (l+k) n).symm
   have t3:decide ((l:Int)<(n:Int))=true:=decide_eq_true (by omega)
   have t4:decide (l<n)=true:=decide_eq_true hl
   have HQ:=Lib.hid hq
   have HLE:=Lib.hid hle
   have HCB:=Lib.hid hcb
   clear hq hle hcb
   go_wp2_with fail
   refine ⟨⟨j+1,c,by omega,hc16,by go_num,rfl,fun r hr => ?_⟩,by simp [intOf]; omega⟩
   have hj2:j<x.length:=by rw [HN.out]; exact hlt
   have hxe:x[j]=l:=by have:=HLE.out; rwa [List.getD_eq_getElem?_getD,List.getElem?_eq_getElem hj2] at this
   rw [List.take_add_one,List.getElem?_eq_getElem hj2,List.any_append,HCB.out r hr,HBI.out r hr]
   simp only [Option.toList,List.any_cons,List.any_nil,Bool.or_false]
   rw [hxe,HQ.out]
   congr 1
   exact BEq.comm
  ·obtain rfl:N=j:=by omega
   go_wp2_with fail
   refine (rListed_c b n w hn).mono ?_
   rintro e w1 ⟨⟨q,c,rfl,hl⟩,hb1⟩
   go_wp2_with fail
   go_ret
   refine ⟨⟨q,c,b,fun r hr => ?_,rfl,hl⟩,hb1⟩
   rw [HBI.out r hr, ← HN.out,List.take_length]
end Go.Proofs.Ytkbbhihndigmeaa

namespace Go.Proofs.Ytkbbhihndigmeaa
open Go Go.RowKit Go.Shelf Go.Maps
def LstN (B:Nat) (w:World) (x:List Nat) (p:Option Addr) (c:Nat):Prop:=Lst w x p c ∧ ∀ b off,p=some ⟨b,off,none⟩→B≤b
theorem LstN.below {B:Nat} {w w':World} {x:List Nat} {p:Option Addr} {c:Nat} (h:LstN B w x p c) (hb:Below w.heap.size w w'):LstN B w' x p c:=⟨h.1.below hb,h.2⟩
theorem LstN.mono {B B':Nat} {w:World} {x:List Nat} {p:Option Addr} {c:Nat} (h:LstN B w x p c) (hB:B'≤B):LstN B' w x p c:=⟨h.1,fun b off e=>Nat.le_trans hB (h.2 b off e)⟩
set_option maxRecDepth 100000 in
set_option maxHeartbeats 8000000 in
theorem usedF_c (a:Option Addr) (m n cap:Nat) (f:Nat→Row3) (w:World) (hf:Tab w a m f) (hO:Okay m n f) :
 Calls Try.prog 76 #[tabV a m cap] w fun e w'=> ∃ ss,(∀ p,p ∈ ss↔Bst f m n p) ∧ ∃ x c,e = .returned (.slice x (usedK (sumV (valP f m n) ss) 4).length c)∧LstN w.heap.size w' (usedK (sumV (valP f m n) ss) 4) x c∧Below w.heap.size w w':=by
 obtain ⟨W,hW⟩ : ∃ W,(w.alloc (.cells #[.slice a m cap] 73)).alloc (.cells #[.int .i64 0, .int .i64 0, .int .i64 0, .int .i64 0] 77)=W:=⟨_,rfl⟩
 have hB:Below w.heap.size w W:=by rw [← hW]; exact Below.alloc1 (Below.alloc1 (Below.refl _ _) _ (Nat.le_refl _)) _ (Nat.le_refl _)
 have hD:RowIs W w.heap.size #[.slice a m cap] 73:=by rw [← hW]; exact RowIs.alloc (heap_new_at _ _ _ rfl) _
 have hM:RowIs W (w.heap.size+1) (planRow fun _=>0) 77:=by rw [← hW]; exact heap_new_at _ _ _ (by simp)
 have d0:W.cell? ⟨w.heap.size,0,none⟩=some (.slice a m cap):=hD.cell 0
 have dz:=hD.lt
 have HBp:=Lib.hid (bestPlans_c a m n cap f W (hf.below hB) hO)
 have HB:=Lib.hid hB
 have HM:=Lib.hid hM
 have HV:=Lib.hid (fun (x:K9) (i:Nat) (hi:i<4)=>valP_bd4 (n:=n) hO x i hi)
 obtain ⟨val,hval⟩ : ∃ val,valP f m n=val:=⟨_,rfl⟩
 rw [hval] at HV HBp ⊢
 clear hB hD hM hf hO hval
 go_enter Try.func76,Try.ntmps76
 go_wp2_with fail
 refine HBp.out.mono ?_
 rintro e w1 ⟨b,N,rfl,hP,hN,hb1⟩
 have hM1:=HM.out.below hb1
 have hbW:W.heap.size≤w1.heap.size:=hb1.size
 obtain ⟨Dm,hown,s1,s2,s3⟩:=hP
 have S1:=Lib.hid s1
 have S2:=Lib.hid s2
 have S3:=Lib.hid s3
 have hsz:=hown.size_le
 have hbl:=hown.lt
 have HM1:=Lib.hid hM1
 have HB1:=Lib.hid (HB.out.trans (hb1.mono HB.out.size))
 clear s1 s2 s3 hM1 hb1
 go_wp2_with (first
  | (at_range; refine wpList_range_own _ rfl _ 109 rfl 112 77 keyedC Try.underlying109 heldR b N _ rfl hown ?_; intro w0 hrg0 hg0 hs0)
  | fail)
 try go_frame
 have hw0b:Below w1.heap.size w1 w0:=⟨hg0.os,hg0.tape,hg0.output,hg0.size,fun k hk=>hg0.block k hk (by simp)⟩
 have HM0:=Lib.hid (HM1.out.below hw0b)
 have HB0:=Lib.hid (HB1.out.trans (hw0b.mono HB1.out.size))
 have hne:w.heap.size+1 ≠ b:=by
  rintro rfl
  obtain ⟨es,clock,hb,_⟩:=hown
  rw [HM1.out] at hb
  cases hb
 have hR1:w.heap.size+1<w1.heap.size:=HM1.out.lt
 go_loopw [14] (fun _ wr=> ∃ (left:Lit→Bool) (cnt:Nat) (ss:List K9),wr.ranges Try.prog 112 heldR b w1.heap.size N Dm left cnt∧ss.length+cnt≤N∧Come (Bst f m n) left ss∧RowIs wr (w.heap.size+1) (planRow (sumV val ss)) 77∧Below w.heap.size w wr)
  (fun _ wr=>wr.rangeLeft b w1.heap.size)
 case atStart=>
  exact ⟨_,_,[],hrg0,by simpa using hsz,⟨fun p hp=>by simp at hp,fun p hp=> .inr ((S2.out p (S1.out p hp)).2 hp),fun p hp h=>(S2.out p hp).1 h⟩,HM0.out,HB0.out⟩
 case round=>
  obtain ⟨left,cnt,ss,hrg,hcs,hC,hMr,hBr⟩:=hrel
  go_wp2_with (first
   | (at_next; refine wpList_next_ranges _ rfl _ rfl 112 keyedC heldR k9V (id:Value→Value) (fun key kl hk=>by obtain ⟨p,hp,_⟩:=keyOf_inv hk; exact ⟨p,hp⟩) (fun v y hy=>⟨v,rfl⟩) b w1.heap.size N _ _ _ rfl hrg ?_ ?_)
   | fail)
  ·intro hc0 hl0
   have hss : ∀ p,p ∈ ss↔Bst f m n p:=fun p=>⟨hC.1 p,fun hp=>by
    rcases hC.2.1 p hp with h | h
    ·exact h
    ·rw [hl0] at h; cases h⟩
   obtain ⟨T,hT⟩ : ∃ T,sumV val ss=T:=⟨_,rfl⟩
   rw [hT] at hMr
   have HSS:=Lib.hid (show ∃ ss,(∀ p,p ∈ ss↔Bst f m n p)∧sumV val ss=T from ⟨ss,hss,hT⟩)
   obtain ⟨⟨p0,p1,p2,p3⟩,pz⟩:=row4 hMr
   have HBr:=Lib.hid hBr
   clear hss hC hrg hcs hMr hBr hT
   go_wp2
   have hbw:w.heap.size≤wr.heap.size:=HBr.out.size
   go_loopw [8,31] (fun c i wi=> ∃ k:Nat,k≤4∧i = .int .i64 k∧Own wi wr.heap.size (usedK T k) c∧Below wr.heap.size wr wi) (fun _ i _=>4-(intOf i).toNat)
   case atStart=>exact ⟨0,Nat.zero_le _,rfl,own_nil _ _,Below.refl _ _⟩
   case round=>
    obtain ⟨k,hk,rfl,hown,hbb⟩:=hrel
    by_cases hlt:k<4
    ·have t1:(k:Int)<4:=by omega
     have t2:decide ((k:Int)<4)=true:=decide_eq_true (by omega)
     have hix:=index_plan T k hlt
     have hkl:=usedK_len T k
     by_cases he:0<T k
     ·have t3:decide (T k > 0)=true:=decide_eq_true he
      have t4:decide (0<T k)=true:=decide_eq_true he
      have hyes:=usedK_yes he
      obtain ⟨X,hX⟩ : ∃ X,wr.alloc (.cells #[.int .i64 (k:Int)] 3)=X:=⟨_,rfl⟩
      have hXb:Below wr.heap.size wr X:=by rw [← hX]; exact Below.alloc1 (Below.refl _ _) _ (Nat.le_refl _)
      have hXr:RowIs X wr.heap.size #[.int .i64 (k:Int)] 3:=by rw [← hX]; exact heap_new_at _ _ _ rfl
      have hXo:=hown.below hXb
      obtain ⟨v',A',hrun,hown',hgr,hbA⟩:=hXo.append wr.heap.size k hXr (Nat.le_trans hbb.size hXb.size) (by omega)
      have Hown':=Lib.hid hown'
      have Hbb:=Lib.hid ((hbb.trans (hXb.mono hbb.size)).trans hbA)
      have Hyes:=Lib.hid hyes
      clear hXb hXr hXo hown hown' hgr hbA hbb he hyes
      go_wp2_with (first
       | (at_builtin; refine wpList_append_run rfl _ _ 42 rfl rfl rfl hrun ?_)
       | fail)
      go_roundw
      case rel=>exact ⟨k+1,by omega,by go_num,by rw [Hyes.out]; exact Hown'.out,Hbb.out⟩
      case measure=>simp [intOf]; omega
     ·have t3:decide (T k > 0)=false:=decide_eq_false he
      have t4:decide (0<T k)=false:=decide_eq_false he
      have hno:=usedK_no he
      have Hown:=Lib.hid hown
      have Hbb:=Lib.hid hbb
      have Hno:=Lib.hid hno
      clear hown hbb he hno
      go_wp2_with fail
      go_roundw
      case rel=>exact ⟨k+1,by omega,by go_num,by rw [Hno.out]; exact Hown.out,Hbb.out⟩
      case measure=>simp [intOf]; omega
    ·obtain rfl:k=4:=by omega
     obtain ⟨q,qc,rfl,hL,hbase⟩:=hown.lst
     have HL:=Lib.hid (show LstN w.heap.size wr _ q qc from ⟨hL,fun b off e=>Nat.le_trans hbw (hbase b off e)⟩)
     have Hbb:=Lib.hid hbb
     have t2:decide ((4:Int)<4)=false:=by decide
     clear hL hbb hown hbase
     go_wp2_with fail
     go_ret
     obtain ⟨ss,h1,h2⟩:=HSS.out
     exact ⟨ss,h1,q,qc,by rw [h2]; rfl,by rw [h2]; exact HL.out,HBr.out.trans (Hbb.out.mono hbw)⟩
  ·intro x c kl yd yp w2 cnt1 hkey hlk hv hat hrg1 hlt hg1 hs1 hen
   obtain ⟨q,hq,hok,rfl⟩:=keyOf_inv hkey
   obtain rfl:=K9.ext' hq
   have hSx:Bst f m n x:=hC.2.2 x hok hlk
   obtain rfl:c=planV (val x):=by
    have e1:=S3.out x hSx
    rw [hat] at e1
    simp [heldR] at hv
    rw [← hv.1] at e1
    simpa using e1
   obtain ⟨V,hV⟩ : ∃ V,w2.alloc (.cells (planRow (val x)) 77)=V:=⟨_,rfl⟩
   have hVb:Below w2.heap.size w2 V:=by rw [← hV]; exact Below.alloc1 (Below.refl _ _) _ (Nat.le_refl _)
   have hrV:V.ranges Try.prog 112 heldR b w1.heap.size N Dm (fun z=>left z && !z.sameKey (keyL x)) cnt1:=by rw [← hV]; exact hrg1.alloc _
   have hM2:RowIs w2 (w.heap.size+1) (planRow (sumV val ss)) 77:=(hg1.block _ hMr.lt (fun h=>by have:=Option.some.inj h; omega)).trans hMr
   have hMV:=hM2.below hVb
   have hBV:Below w.heap.size w V:=(hBr.grown hg1 hBr.size (fun k e=>by cases e; omega)).trans (hVb.mono (by have:=hBr.size; omega))
   have v5:RowIs V w2.heap.size (planRow (val x)) 77:=by rw [← hV]; exact heap_new_at _ _ _ rfl
   obtain ⟨⟨p0,p1,p2,p3⟩,pz⟩:=row4 v5
   have HC:=Lib.hid hC
   have HrV:=Lib.hid hrV
   have HMV:=Lib.hid hMV
   have HBV:=Lib.hid hBV
   have Hlt:=Lib.hid (show cnt1<wr.rangeLeft b w1.heap.size by rw [hrg.left_eq]; exact hlt)
   have Hlk:=Lib.hid hlk
   have Hok:=Lib.hid hok
   have Hcs:=Lib.hid (show (ss ++ [x]).length+cnt1≤N by simp; omega)
   have hbd : ∀ i,i<4→0≤sumV val ss i∧sumV val ss i≤240000000000000:=fun i hi=>by
    have:=sumV_bd (val:=val) (i:=i) (fun x=>HV.out x i hi) ss
    omega
   have Hbd:=Lib.hid hbd
   clear hq hg1 hat hrg hlt hrg1 hkey hv hrg0 hg0 hown hs1 hs0 hlk hC hrV hMV hBV v5 hok hSx hVb hM2 hMr hBr hcs hbd
   go_wp2_with fail
   go_loopw [19] (fun i wi=> ∃ k:Nat,k≤4∧i = .int .i64 k∧RowIs wi (w.heap.size+1) (rowA 4 (midV val ss x k)) 77∧V.grownBy wi (some (w.heap.size+1))) (fun i _=>4-(intOf i).toNat)
   case atStart=>exact ⟨0,Nat.zero_le _,rfl,by rw [← plan_rowA]; exact HMV.out,grown_refl _ _⟩
   case round=>
    obtain ⟨k,hk,rfl,hr,hg⟩:=hrel
    by_cases hlt:k<4
    ·have c1:wr.cell? ⟨w.heap.size+1,k,none⟩=some (.int .i64 (sumV val ss k)):=(hr.cell k).trans ((rowA_get 4 _ k hlt).trans (by unfold midV; rw [if_neg (Nat.lt_irrefl _)]))
     have f1:=hr.frozen k
     have z1:=hr.lt
     have bd1:=Hbd.out k hlt
     have bd2:=HV.out x k hlt
     have hw1:IntKind.i64.wrap (sumV val ss k+val x k)=sumV val ss k+val x k:=IntWalk.i64_in _ (by omega)
     have t1:(k:Int)<4:=by omega
     have t2:decide ((k:Int)<4)=true:=decide_eq_true (by omega)
     have hix:=index_plan (val x) k hlt
     have hset:=rowA_set 4 (midV val ss x k) (midV val ss x (k+1)) k (sumV val ss k+val x k) (by unfold midV; rw [if_pos (by omega)]) (fun j _ hj=>by unfold midV; by_cases h:j<k; { rw [if_pos h,if_pos (by omega)] }; { rw [if_neg h,if_neg (by omega)] })
     have Hr:=Lib.hid hr
     have Hg:=Lib.hid hg
     have Hset:=Lib.hid hset
     clear hr hg hset bd1 bd2
     go_wp2_with fail
     go_roundw
     case rel=>exact ⟨k+1,by omega,by go_num,by rw [← Hset.out]; exact (Hr.out.set k _),grown_set Hg.out k _⟩
     case measure=>simp [intOf]; omega
    ·obtain rfl:k=4:=by omega
     have hrow:RowIs wr (w.heap.size+1) (planRow (sumV val (ss ++ [x]))) 77:=by
      rw [plan_rowA]
      rw [show rowA 4 (sumV val (ss ++ [x]))=rowA 4 (midV val ss x 4) from rowA_same fun i hi=>by unfold midV; rw [if_pos hi,sumV_add]]
      exact hr
     have hrg2:=HrV.out.kept hg (fun h=>hne (Option.some.inj h).symm) (fun h=>by have:=Option.some.inj h; omega)
     have Hrow:=Lib.hid hrow
     have Hrg2:=Lib.hid hrg2
     have HB2:=Lib.hid (HBV.out.grown hg HBV.out.size (fun k e=>by cases e; omega))
     have t2:decide ((4:Int)<4)=false:=by decide
     clear hr hg hrow hrg2
     go_wp2_with fail
     go_roundw
     case rel=>exact ⟨_,cnt1,ss ++ [x],Hrg2.out,Hcs.out,come_step (fun p h=>S1.out p h) HC.out Hok.out Hlk.out,Hrow.out,HB2.out⟩
     case measure=>rw [Hrg2.out.left_eq]; exact Hlt.out
theorem usedQF_c (a:Option Addr) (m n cap:Nat) (f:Nat→Row3) (w:World) (hf:Tab w a m f) (hO:Okay m n f) :
 Calls Try.prog 76 #[tabV a m cap] w fun e w'=>(∃ x c,e = .returned (.slice x (usedQ f m n).length c)∧LstN w.heap.size w' (usedQ f m n) x c)∧Below w.heap.size w w':=by
 refine (usedF_c a m n cap f w hf hO).mono ?_
 rintro e w' ⟨ss,h,x,c,rfl,h1,h2⟩
 rw [usedQ_eq hO h] at h1 ⊢
 exact ⟨⟨x,c,rfl,h1⟩,h2⟩
set_option maxRecDepth 100000 in
set_option maxHeartbeats 8000000 in
theorem UsedF_c (a:Option Addr) (m cap:Nat) (f:Nat→Row3) (w:World) (hf:Tab w a m f) (hm:m≤1048576) (hr : ∀ i,i<m→(f i).n≤1048576) :
 Calls Try.prog 36 #[tabV a m cap] w fun e w'=>((tableE m f ≠ 0∧e = .returned (.tuple #[.slice none 0 0, .slice none 0 0, .int .i64 (tableE m f)]))∨(tableE m f=0 ∧ ∃ f',Shop f f' m (f 0).n ∧ ∃ x c y d,e = .returned (.tuple #[.slice x (usedQ f m (f 0).n).length c, .slice y (usedQ f' (f 0).n m).length d, .int .i64 0])∧LstN w.heap.size w' (usedQ f m (f 0).n) x c∧LstN w.heap.size w' (usedQ f' (f 0).n m) y d))∧Below w.heap.size w w':=by
 obtain ⟨W,hW⟩ : ∃ W,w.alloc (.cells #[.slice a m cap] 24)=W:=⟨_,rfl⟩
 have hB:Below w.heap.size w W:=by rw [← hW]; exact Below.alloc1 (Below.refl _ _) _ (Nat.le_refl _)
 have hR:RowIs W w.heap.size #[.slice a m cap] 24:=by rw [← hW]; exact heap_new_at _ _ _ rfl
 have r0:W.cell? ⟨w.heap.size,0,none⟩=some (.slice a m cap):=RowIs.cell hR 0
 have rz:w.heap.size<W.heap.size:=hR.lt
 have HF:=Lib.hid (fun (x:World) (h:Below w.heap.size w x)=>hf.below h)
 have HB:=Lib.hid hB
 by_cases hE:tableE m f=0
 ·have hO:=okay_of hE
  have HD:=Lib.hid (newDesks_yes_c a m (f 0).n cap f W (hf.below hB) hO)
  obtain ⟨n,hn⟩ : ∃ n,(f 0).n=n:=⟨_,rfl⟩
  rw [hn] at hO HD ⊢
  have HO:=Lib.hid hO
  have HE:=Lib.hid hE
  clear hf hB hR hE hn hr hm hO
  go_enter Try.func36,Try.ntmps36
  go_wp2_with fail
  refine HD.out.mono ?_
  rintro e w1 ⟨⟨L,f',rfl,hT',g1,g2⟩,hb1⟩
  clear hW HD r0 rz
  obtain ⟨X,hX⟩ : ∃ X,(w1.alloc (.cells #[.slice a m cap] 73)).alloc (.cells #[.slice (some ⟨L,0,none⟩) n n] 73)=X:=⟨_,rfl⟩
  have hXb:Below w1.heap.size w1 X:=by rw [← hX]; exact Below.alloc1 (Below.alloc1 (Below.refl _ _) _ (Nat.le_refl _)) _ (Nat.le_refl _)
  have hX1:RowIs X w1.heap.size #[.slice a m cap] 73:=by rw [← hX]; exact RowIs.alloc (heap_new_at _ _ _ rfl) _
  have hX2:RowIs X (w1.heap.size+1) #[.slice (some ⟨L,0,none⟩) n n] 73:=by rw [← hX]; exact heap_new_at _ _ _ (by simp)
  have hBX:Below w.heap.size w X:=bup (bup HB.out hb1) hXb
  have x0:X.cell? ⟨w1.heap.size,0,none⟩=some (.slice a m cap):=RowIs.cell hX1 0
  have xz:=hX1.lt
  have x2:X.cell? ⟨w1.heap.size+1,0,none⟩=some (.slice (some ⟨L,0,none⟩) n n):=RowIs.cell hX2 0
  have xz2:=hX2.lt
  have HTX:=Lib.hid (hT'.below hXb)
  have HO':=Lib.hid (okay_turn HO.out g1 g2)
  have HG:=Lib.hid (show Shop f f' m n from ⟨g1,g2⟩)
  have HBX:=Lib.hid hBX
  have HFX:=Lib.hid (HF.out X hBX)
  clear hX1 hX2 hBX hXb hb1 hT' g1 g2 HF HB
  have hFC : ∀ y,Below X.heap.size X y→Below X.heap.size X y∧y.cell? ⟨w1.heap.size,0,none⟩=some (.slice a m cap)∧y.cell? ⟨w1.heap.size+1,0,none⟩=some (.slice (some ⟨L,0,none⟩) n n):=fun y hy=>⟨hy,(hy.cell (p:=⟨w1.heap.size,0,none⟩) xz).trans x0,(hy.cell (p:=⟨w1.heap.size+1,0,none⟩) xz2).trans x2⟩
  go_wp2_with fail
  refine RC.wp_region_runF (C:=fun y=>Below X.heap.size X y∧y.cell? ⟨w1.heap.size,0,none⟩=some (.slice a m cap)∧y.cell? ⟨w1.heap.size+1,0,none⟩=some (.slice (some ⟨L,0,none⟩) n n)) (fun y=>Below X.heap.size X y) (by kernel_rfl) (stable_below X) (Below.refl _ _) ?_
  change RC.Run _ _ _ _ _ 7 _ _ _
  obtain ⟨U,hU⟩ : ∃ U,usedQ f m n=U:=⟨_,rfl⟩
  obtain ⟨V,hV⟩ : ∃ V,usedQ f' n m=V:=⟨_,rfl⟩
  have HU:=Lib.hid hU
  have HV:=Lib.hid hV
  clear hU hV
  refine RC.run_take (i:=0) (tabV a m cap) rfl (by kernel_rfl) (by kernel_rfl) (by kernel_rfl) rfl hFC (fun y hy=>by obtain ⟨-,q0,q1⟩:=hy; go_simp) ?_
  simp only [puts]
  refine RC.run_take (i:=2) (tabV (some ⟨L,0,none⟩) n n) rfl (by kernel_rfl) (by kernel_rfl) (by kernel_rfl) rfl hFC (fun y hy=>by obtain ⟨-,q0,q1⟩:=hy; go_simp) ?_
  simp only [puts]
  refine RC.run_only (i:=1) (by kernel_rfl) (RC.at_call (fun v y=>(Below X.heap.size X y) ∧ ∃ x c,v = .slice x U.length c∧LstN w.heap.size y U x c) rfl rfl (fun v y y1 h hb=>⟨h.1.trans (hb.mono h.1.size),h.2.imp fun x h=>h.imp fun c h=>⟨h.1,h.2.below hb⟩⟩) (fun v y h=>hFC y h.1) (fun y hy=>⟨76, #[tabV a m cap],(Go.Conc.run_call_body (fn:=Try.f76) rfl Try.func76 (by kernel_rfl) (by kernel_rfl)).trans (by simp [Act.eval]),?_⟩) ?_)
  ·have hc:=usedQF_c a m n cap f y (HFX.out.below hy) HO.out
   rw [HU.out] at hc
   refine hc.mono ?_
   rintro e y1 ⟨⟨x,c,rfl,h1⟩,h2⟩
   exact ⟨_,rfl,hy.trans (h2.mono hy.size),x,c,rfl,h1.mono (Nat.le_trans HBX.out.size hy.size)⟩
  rintro v ⟨_,_,x1,c1,rfl,_⟩
  refine RC.run_mono _ _ _ (fun y=>Below X.heap.size X y∧LstN w.heap.size y U x1 c1) _ ?_ ?_
  ·rintro y ⟨h1,x,c,e,h2⟩
   simp only [Value.slice.injEq,true_and] at e
   obtain ⟨rfl,rfl⟩:=e
   exact ⟨h1,h2⟩
  simp only [puts]
  refine RC.run_only (i:=3) (by kernel_rfl) (RC.at_call (fun v y=>(Below X.heap.size X y∧LstN w.heap.size y U x1 c1) ∧ ∃ x c,v = .slice x V.length c∧LstN w.heap.size y V x c) rfl rfl (fun v y y1 h hb=>⟨⟨h.1.1.trans (hb.mono h.1.1.size),h.1.2.below hb⟩,h.2.imp fun x h=>h.imp fun c h=>⟨h.1,h.2.below hb⟩⟩) (fun v y h=>hFC y h.1.1) (fun y hy=>⟨76, #[tabV (some ⟨L,0,none⟩) n n],(Go.Conc.run_call_body (fn:=Try.f76) rfl Try.func76 (by kernel_rfl) (by kernel_rfl)).trans (by simp [Act.eval]),?_⟩) ?_)
  ·have hc:=usedQF_c (some ⟨L,0,none⟩) n m n f' y (HTX.out.below hy.1) HO'.out
   rw [HV.out] at hc
   refine hc.mono ?_
   rintro e y1 ⟨⟨x,c,rfl,h1⟩,h2⟩
   exact ⟨_,rfl,⟨hy.1.trans (h2.mono hy.1.size),hy.2.below h2⟩,x,c,rfl,h1.mono (Nat.le_trans HBX.out.size hy.1.size)⟩
  rintro v ⟨_,_,x2,c2,rfl,_⟩
  refine RC.run_mono _ _ _ (fun y=>Below X.heap.size X y∧LstN w.heap.size y U x1 c1∧LstN w.heap.size y V x2 c2) _ ?_ ?_
  ·rintro y ⟨⟨h1,h3⟩,x,c,e,h2⟩
   simp only [Value.slice.injEq,true_and] at e
   obtain ⟨rfl,rfl⟩:=e
   exact ⟨h1,h3,h2⟩
  simp only [puts]
  refine RC.run_take (i:=4) (.slice x1 U.length c1) rfl (by kernel_rfl) (by kernel_rfl) (by kernel_rfl) rfl (fun y h=>hFC y h.1) (fun y hy=>by go_simp) ?_
  simp only [puts]
  refine RC.run_take (i:=5) (.slice x2 V.length c2) rfl (by kernel_rfl) (by kernel_rfl) (by kernel_rfl) rfl (fun y h=>hFC y h.1) (fun y hy=>by go_simp) ?_
  simp only [puts]
  refine RC.run_take (i:=6) (.int .i64 0) rfl (by kernel_rfl) (by kernel_rfl) (by kernel_rfl) rfl (fun y h=>hFC y h.1) (fun y hy=>by go_simp) ?_
  simp only [puts]
  refine ⟨by kernel_rfl,fun y hy => ?_⟩
  obtain ⟨h1,h2,h3⟩:=hy
  have H1:=Lib.hid h1
  have H2:=Lib.hid h2
  have H3:=Lib.hid h3
  clear h1 h2 h3
  go_wp2_with fail
  exact bodyPost_ret (v:= .tuple #[.slice x1 U.length c1, .slice x2 V.length c2, .int .i64 0]) (by simp [results,Try.results36,go_sem]) rfl ⟨.inr ⟨HE.out,f',HG.out,x1,c1,x2,c2,by rw [HU.out,HV.out],by rw [HU.out]; exact H2.out,by rw [HV.out]; exact H3.out⟩,HBX.out.trans (H1.out.mono HBX.out.size)⟩
 ·have HD:=Lib.hid (newDesks_no_c a m cap f W (hf.below hB) hm hr hE)
  have t0:(tableE m f != 0)=true:=by simpa using hE
  have HE:=Lib.hid hE
  obtain ⟨E,hE2⟩ : ∃ E,tableE m f=E:=⟨_,rfl⟩
  rw [hE2] at HD HE t0 ⊢
  clear hf hB hR hE hE2 hr hm
  go_enter Try.func36,Try.ntmps36
  go_wp2_with fail
  refine HD.out.mono ?_
  rintro e w1 ⟨rfl,hb1⟩
  clear hW HD r0
  have HBX:=Lib.hid (Below.alloc1 (Below.alloc1 (bup HB.out hb1) (.cells #[.slice none 0 0] 73) (Nat.le_refl _)) (.cells #[.slice none 0 0] 73) (Nat.le_refl _))
  clear hb1
  go_wp2_with fail
  exact bodyPost_ret (v:= .tuple #[.slice none 0 0, .slice none 0 0, .int .i64 E]) (by simp [results,Try.results36,go_sem]) rfl ⟨.inl ⟨HE.out,rfl⟩,HBX.out⟩
theorem UsedF_v (a:Option Addr) (m cap:Nat) (f:Nat→Row3) (w:World) (hf:Tab w a m f) (hm:m≤1048576) (hr : ∀ i,i<m→(f i).n≤1048576) :
 Calls Try.prog 36 #[tabV a m cap] w fun e w'=>((tableE m f ≠ 0∧e = .returned (.tuple #[.slice none 0 0, .slice none 0 0, .int .i64 (tableE m f)]))∨(tableE m f=0 ∧ ∃ x c y d,e = .returned (.tuple #[.slice x (usedC (lossA f) m (f 0).n).length c, .slice y (usedC (flip (lossA f)) (f 0).n m).length d, .int .i64 0])∧LstN w.heap.size w' (usedC (lossA f) m (f 0).n) x c∧LstN w.heap.size w' (usedC (flip (lossA f)) (f 0).n m) y d))∧Below w.heap.size w w':=by
 refine (UsedF_c a m cap f w hf hm hr).mono ?_
 rintro e w' ⟨⟨h,rfl⟩ | ⟨h,f',hS,x,c,y,d,rfl,h1,h2⟩,hb⟩
 ·exact ⟨.inl ⟨h,rfl⟩,hb⟩
 ·have e1:=used_same (okay_of h)
  have e2:=used_same (okay_turn (okay_of h) hS.1 hS.2)
  rw [loss_turn hS.2] at e2
  rw [e1] at h1 ⊢
  rw [e2] at h2 ⊢
  exact ⟨.inr ⟨h,x,c,y,d,rfl,h1,h2⟩,hb⟩
end Go.Proofs.Ytkbbhihndigmeaa
