/- Plain mathematics: what is left of a table has its value, nothing of it can be left out, and a pure answer of it is one of the whole. -/
import Derived.Test.YtkbbhihndigmeaaQmoaa
import Derived.Shelf.Abstract
import Derived.Test.YtkbbhihndigmeaaBasad
import Derived.Test.YtkbbhihndigmeaaBasan
namespace Go.Proofs.Ytkbbhihndigmeaa
open Go Go.RowKit Go.Shelf
theorem drop_lst (i m:Nat) (a:Nat) (ha:a<m-1) (hi:i<m):((List.range m).eraseIdx i).getD a 0=skip i a:=by
 rw [List.getD_eq_getElem?_getD,getElem_skip]
 have:=skip_lt (c:=i) ha
 rw [List.getElem?_range (by omega)]
 rfl
theorem val_drop {B:Nat→Nat→Int} {m n:Nat} {v s:Int} {i o:Nat} (h:ValIs B m n v s) (hi:i<m) (ho:o<m) (hne:o ≠ i) (hb : ∀ j,j<n→B i j≤B o j):ValIs (fun a b=>B (skip i a) b) (m-1) n v s:=by
 obtain ⟨hs,⟨x,hx⟩,q,hq⟩:=h
 obtain ⟨y,hy,hy0⟩:=hx.drop hs hi ho hne hb
 have hl:((List.range m).eraseIdx i).length=m-1:=by rw [List.length_eraseIdx,if_pos (by simpa using hi),List.length_range]
 have hn:((List.range m).eraseIdx i).Nodup:=List.nodup_range.sublist (List.eraseIdx_sublist _ _)
 have:=rows_same hs hy hq hn (fun k hk=>List.mem_range.1 ((List.eraseIdx_sublist _ _).mem hk)) (fun k hk hno=>by
  refine Classical.byContradiction fun h0=>hno ?_
  have hki:k ≠ i:=fun e=>h0 (by rw [e]; exact hy0)
  rw [List.mem_eraseIdx_iff_getElem?]
  exact ⟨k,hki,by rw [List.getElem?_range hk]⟩)
 rw [hl] at this
 exact this.at fun a ha b _=>by rw [drop_lst i m a ha hi]
theorem erase_getD (R:List Nat) (i a:Nat):(R.eraseIdx i).getD a 0=R.getD (skip i a) 0:=by rw [List.getD_eq_getElem?_getD,List.getD_eq_getElem?_getD,getElem_skip]
def PureIn (A:Nat→Nat→Int) (R C:List Nat) (p q:Nat):Prop:=p ∈ R∧q ∈ C∧(∀ c ∈ C,A p q≤A p c) ∧ ∀ r ∈ R,A r q≤A p q
theorem sub_flip (A:Nat→Nat→Int) (R C:List Nat):flip (sub2 A R C)=sub2 (flip A) C R:=rfl
theorem need_row {f:Nat→Row3} {R C:List Nat} {i:Nat} (h:needO f C R=some i):i<R.length∧2≤R.length ∧ ∃ s,s<R.length∧s ≠ i ∧ ∀ j ∈ C,lossA f (R.getD i 0) j≤lossA f (R.getD s 0) j:=by
 obtain ⟨h1,h2,o,ho,hb⟩:=need_two h
 obtain ⟨s,hs,rfl⟩:=mem_getD ho
 unfold betterB at hb
 rw [Bool.and_eq_true,List.all_eq_true] at hb
 refine ⟨h1,h2,s,hs,fun e => ?_,fun j hj => ?_⟩
 ·subst e
  have:=hb.2
  unfold gapI at this
  simp at this
 ·have:=hb.1 j hj
  simp only [decide_eq_true_eq] at this
  unfold gapI at this
  show (f _).g j≤(f _).g j
  omega
theorem row_left {f:Nat→Row3} {R C:List Nat} {i:Nat} {v s:Int} (h:needO f C R=some i) (hv:ValIs (sub2 (lossA f) R C) R.length C.length v s) :
 ValIs (sub2 (lossA f) (R.eraseIdx i) C) (R.eraseIdx i).length C.length v s ∧ ∀ p q,PureIn (lossA f) (R.eraseIdx i) C p q→PureIn (lossA f) R C p q:=by
 obtain ⟨h1,h2,o,ho,hne,hb⟩:=need_row h
 have hl:(R.eraseIdx i).length=R.length-1:=by rw [List.length_eraseIdx,if_pos h1]
 refine ⟨?_,fun p q hp => ?_⟩
 ·rw [hl]
  exact (val_drop hv h1 ho hne fun j hj=>hb _ (getD_mem hj)).at fun a _ b _=>by unfold sub2; rw [erase_getD]
 ·obtain ⟨k1,k2,k3,k4⟩:=hp
  have hsub:=(List.eraseIdx_sublist R i)
  refine ⟨hsub.mem k1,k2,k3,fun r hr => ?_⟩
  by_cases hri:r ∈ R.eraseIdx i
  ·exact k4 r hri
  ·have e:r=R.getD i 0:=by
     refine Classical.byContradiction fun hno=>hri ?_
     rw [List.mem_eraseIdx_iff_getElem?]
     obtain ⟨t,ht,rfl⟩:=mem_getD hr
     exact ⟨t,fun e=>hno (by rw [e]),by rw [List.getD_eq_getElem?_getD,List.getElem?_eq_getElem ht]; rfl⟩
   subst e
   refine Int.le_trans (hb q k2) (k4 _ ?_)
   rw [List.mem_eraseIdx_iff_getElem?]
   exact ⟨o,hne,by rw [List.getD_eq_getElem?_getD,List.getElem?_eq_getElem ho]; rfl⟩
theorem pure_flip {A:Nat→Nat→Int} {R C:List Nat} {p q:Nat} (h:PureIn (flip A) C R q p):PureIn A R C p q:=by
 obtain ⟨h1,h2,h3,h4⟩:=h
 refine ⟨h2,h1,fun c hc => ?_,fun r hr => ?_⟩
 ·have : -A p c ≤ -A p q:=h4 c hc
  omega
 ·have : -A p q ≤ -A r q:=h3 r hr
  omega
theorem flip_pure {A:Nat→Nat→Int} {R C:List Nat} {p q:Nat} (h:PureIn A R C p q):PureIn (flip A) C R q p:=pure_flip (A:=flip A) (by rw [flip_flip]; exact h)
theorem col_left {f f':Nat→Row3} {R C:List Nat} {i:Nat} {v s:Int} (hf:lossA f'=flip (lossA f)) (h:needO f' R C=some i) (hv:ValIs (sub2 (lossA f) R C) R.length C.length v s) :
 ValIs (sub2 (lossA f) R (C.eraseIdx i)) R.length (C.eraseIdx i).length v s ∧ ∀ p q,PureIn (lossA f) R (C.eraseIdx i) p q→PureIn (lossA f) R C p q:=by
 have h2:=hv.flip
 rw [sub_flip, ← hf] at h2
 obtain ⟨h3,h4⟩:=row_left h h2
 rw [hf] at h3 h4
 rw [← sub_flip] at h3
 have h5:=h3.unflip
 rw [Int.neg_neg] at h5
 exact ⟨h5,fun p q hp=>pure_flip (h4 q p (flip_pure hp))⟩
structure LeftIs (f f':Nat→Row3) (R C R' C':List Nat) (v s:Int):Prop where
 sub1:R'.Sublist R
 sub2:C'.Sublist C
 pos1:0<R'.length
 pos2:0<C'.length
 no1:needO f C' R'=none
 no2:needO f' R' C'=none
 val:ValIs (Go.Proofs.Ytkbbhihndigmeaa.sub2 (lossA f) R' C') R'.length C'.length v s
 pure : ∀ p q,PureIn (lossA f) R' C' p q→PureIn (lossA f) R C p q
theorem left_is {f f':Nat→Row3} (hf:lossA f'=flip (lossA f)) {v s:Int} : ∀ k R C,R.length+C.length≤k→0<R.length→0<C.length→ValIs (sub2 (lossA f) R C) R.length C.length v s→LeftIs f f' R C (leftF f f' k R C).1 (leftF f f' k R C).2 v s
 | 0,_,_,h,h0,_,_=>by omega
 | k+1,R,C,h,h0,h1,hv=>by
   rw [leftF]
   cases e1:needO f C R with
   | some i=>
     dsimp only
     obtain ⟨k1,k2, -⟩:=need_row e1
     obtain ⟨l1,l2⟩:=row_left e1 hv
     have hl:(R.eraseIdx i).length=R.length-1:=by rw [List.length_eraseIdx,if_pos k1]
     have:=left_is hf k (R.eraseIdx i) C (by omega) (by omega) h1 l1
     exact ⟨this.sub1.trans (List.eraseIdx_sublist _ _),this.sub2,this.pos1,this.pos2,this.no1,this.no2,this.val,fun p q hp=>l2 p q (this.pure p q hp)⟩
   | none=>
     dsimp only
     cases e2:needO f' R C with
     | some i=>
       dsimp only
       obtain ⟨k1,k2, -⟩:=need_row e2
       obtain ⟨l1,l2⟩:=col_left hf e2 hv
       have hl:(C.eraseIdx i).length=C.length-1:=by rw [List.length_eraseIdx,if_pos k1]
       have:=left_is hf k R (C.eraseIdx i) (by omega) h0 (by omega) l1
       exact ⟨this.sub1,this.sub2.trans (List.eraseIdx_sublist _ _),this.pos1,this.pos2,this.no1,this.no2,this.val,fun p q hp=>l2 p q (this.pure p q hp)⟩
     | none=>exact ⟨List.Sublist.refl _,List.Sublist.refl _,h0,h1,e1,e2,hv,fun _ _ h=>h⟩
theorem range_getD {n i:Nat} (h:i<n):(List.range n).getD i 0=i:=by rw [List.getD_eq_getElem?_getD,List.getElem?_range h]; rfl
theorem turn_loss (f:Nat→Row3) (m:Nat):lossA (fun j=>turnF f m j)=flip (lossA f):=loss_turn fun _=>rfl
theorem leftR_is {f:Nat→Row3} {m n:Nat} (hO:Okay m n f):LeftIs f (fun j=>turnF f m j) (List.range m) (List.range n) (leftR f m n).1 (leftR f m n).2 (valOf (lossA f) m n).1 (valOf (lossA f) m n).2:=by
 have hm:=hO.m1
 have hn:=hO.n1
 refine left_is (turn_loss f m) _ _ _ (by simp) (by rw [List.length_range]; omega) (by rw [List.length_range]; omega) ?_
 rw [List.length_range,List.length_range]
 exact (valOf_is hO).at fun i hi j hj=>by unfold sub2; rw [range_getD hi,range_getD hj]
theorem sub_rising {n:Nat} {x:List Nat} (h:x.Sublist (List.range n)):Rising n x:=⟨List.Pairwise.sublist h List.pairwise_lt_range,fun _ hi=>List.mem_range.1 (h.mem hi)⟩
theorem left_done {f g:Nat→Row3} {m n:Nat} (hO:Okay m n f) (hg : ∀ i j,(g i).g j=lossA f ((leftR f m n).1.getD i 0) ((leftR f m n).2.getD j 0)) :
 spareO (lossA g) (leftR f m n).1.length (leftR f m n).2.length=none∧spareO (flip (lossA g)) (leftR f m n).2.length (leftR f m n).1.length=none ∧
 leftR g (leftR f m n).1.length (leftR f m n).2.length=(List.range (leftR f m n).1.length,List.range (leftR f m n).2.length):=by
 have h:=leftR_is hO
 obtain ⟨R,hR⟩ : ∃ R,(leftR f m n).1=R:=⟨_,rfl⟩
 obtain ⟨C,hC⟩ : ∃ C,(leftR f m n).2=C:=⟨_,rfl⟩
 rw [hR,hC] at h ⊢
 replace hg : ∀ i j,(g i).g j=lossA f (R.getD i 0) (C.getD j 0):=fun i j=>by rw [hg,hR,hC]
 have a1:spareO (lossA g) R.length C.length=needO f C R:=spare_need (sub_rising h.sub1).1 fun i _ j _=>hg i j
 have a2:spareO (flip (lossA g)) C.length R.length=needO (fun j=>turnF f m j) R C:=spare_need (sub_rising h.sub2).1 fun i _ j _=>by
  show -(g j).g i = -(f _).g _
  rw [hg]
 rw [h.no1] at a1
 rw [h.no2] at a2
 have b1:needO g (List.range C.length) (List.range R.length)=none:=by
  have:=spare_need (f:=g) (A:=lossA g) (R:=List.range R.length) (C:=List.range C.length) List.pairwise_lt_range fun i hi j hj=>by
   rw [List.length_range] at hi hj
   rw [range_getD hi,range_getD hj]
  rw [List.length_range,List.length_range] at this
  rw [← this,a1]
 have b2:needO (fun j=>turnF g R.length j) (List.range R.length) (List.range C.length)=none:=by
  have:=spare_need (f:=fun j=>turnF g R.length j) (A:=flip (lossA g)) (R:=List.range C.length) (C:=List.range R.length) List.pairwise_lt_range fun i hi j hj=>by
   rw [List.length_range] at hi hj
   rw [range_getD hi,range_getD hj]
   rfl
  rw [List.length_range,List.length_range] at this
  rw [← this,a2]
 exact ⟨a1,a2,left_end b1 b2 _⟩
theorem left_pure {f g:Nat→Row3} {m n i k:Nat} (hO:Okay m n f) (hg : ∀ i j,(g i).g j=lossA f ((leftR f m n).1.getD i 0) ((leftR f m n).2.getD j 0)) (hi:i<(leftR f m n).1.length) (hk:k<(leftR f m n).2.length)
 (h:isPureB g (leftR f m n).1.length (leftR f m n).2.length i k=true):isPureB f m n ((leftR f m n).1.getD i 0) ((leftR f m n).2.getD k 0)=true:=by
 have hL:=leftR_is hO
 obtain ⟨R,hR⟩ : ∃ R,(leftR f m n).1=R:=⟨_,rfl⟩
 obtain ⟨C,hC⟩ : ∃ C,(leftR f m n).2=C:=⟨_,rfl⟩
 rw [hR] at hi
 rw [hC] at hk
 rw [hR,hC] at hL h ⊢
 have hg' : ∀ i j,(g i).g j=lossA f (R.getD i 0) (C.getD j 0):=fun i j=>by rw [hg,hR,hC]
 clear hg
 unfold isPureB at h
 rw [Bool.and_eq_true,decide_eq_true_eq,decide_eq_true_eq] at h
 obtain ⟨-, -,h3,h4⟩:=hL.pure (R.getD i 0) (C.getD k 0) ⟨getD_mem hi,getD_mem hk,fun c hc=>by
  obtain ⟨t,ht,rfl⟩:=mem_getD hc
  have:=h.2 t ht
  rwa [hg',hg'] at this,fun r hr=>by
  obtain ⟨t,ht,rfl⟩:=mem_getD hr
  have:=h.1 t ht
  rwa [hg',hg'] at this⟩
 unfold isPureB
 rw [Bool.and_eq_true,decide_eq_true_eq,decide_eq_true_eq]
 exact ⟨fun r hr=>h4 r (List.mem_range.2 hr),fun c hc=>h3 c (List.mem_range.2 hc)⟩
end Go.Proofs.Ytkbbhihndigmeaa

namespace Go.Proofs.Ytkbbhihndigmeaa
open Go Go.RowKit Go.Shelf
theorem rising_get {n:Nat} {x:List Nat} (h:Rising n x) {i:Nat} (hi:i<x.length):x.getD i 0<n:=by
 rw [List.getD_eq_getElem?_getD,List.getElem?_eq_getElem hi]
 exact h.2 _ (List.getElem_mem hi)
theorem rising_lt {n:Nat} {x:List Nat} (h:Rising n x) {i j:Nat} (hi:i<j) (hj:j<x.length):x.getD i 0<x.getD j 0:=by
 rw [List.getD_eq_getElem?_getD,List.getD_eq_getElem?_getD,List.getElem?_eq_getElem hj,List.getElem?_eq_getElem (show i<x.length by omega)]
 exact List.pairwise_iff_getElem.1 h.1 i j (by omega) hj hi
theorem rising_filter (n:Nat) (p:Nat→Bool):Rising n ((List.range n).filter p):=
 ⟨List.Pairwise.sublist List.filter_sublist List.pairwise_lt_range,fun _ hi=>List.mem_range.1 (List.mem_filter.1 hi).1⟩
set_option maxRecDepth 100000 in
set_option maxHeartbeats 8000000 in
theorem isList_c (x:List Nat) (p:Option Addr) (cap b:Nat) (w:World) (hL:Lst w x p cap) (hx:Rising b x) (hb:b≤1048576) :
 Calls Try.prog 47 #[.slice p x.length cap, .int .i64 b] w fun e w'=>e = .returned (.bool true)∧Below w.heap.size w w':=by
 have hlen:=rising_len hx
 by_cases h0:x.length=0
 ·rw [h0]
  clear hL hx hlen
  go_enter Try.func47,Try.ntmps47
  go_wp2_with fail
  go_loopw [5] (fun i wr=>i = .int .i64 0∧Below w.heap.size w wr) (fun _ _=>0)
  case atStart=>exact ⟨rfl,Below.refl _ _⟩
  case round=>
   obtain ⟨rfl,hbl⟩:=hrel
   go_wp2_with fail
   go_ret
   exact ⟨rfl,hbl⟩
 obtain ⟨xb,xo,rfl,hc⟩:=lstC hL (by omega)
 have hz : ∀ y,Below w.heap.size w y→xb<y.heap.size:=fun y hy=>by
  obtain ⟨b2,o2,e2,hz2, -⟩:=Cells.at (Lst.below hL hy).cells 0 (by omega)
  injection e2 with he
  injection he with h1 h2 _
  omega
 have HZ:=Lib.hid hz
 have HC:=Lib.hid hc
 have HR:=Lib.hid hx
 obtain ⟨n,hn⟩ : ∃ n,x.length=n:=⟨_,rfl⟩
 have HN:=Lib.hid hn
 rw [hn] at hlen ⊢
 obtain ⟨d,hd⟩ : ∃ d:Int,(b:Int)=d:=⟨_,rfl⟩
 rw [hd]
 have HBI:=Lib.hid hd
 clear hL hx hc hz hn h0 hd
 go_enter Try.func47,Try.ntmps47
 go_wp2_with fail
 go_loopw [5] (fun i wr=> ∃ k:Nat,k≤n∧i = .int .i64 k∧Below w.heap.size w wr) (fun i _=>n-(intOf i).toNat)
 case atStart=>exact ⟨0,Nat.zero_le _,rfl,Below.refl _ _⟩
 case round=>
  obtain ⟨k,hk,rfl,hbl⟩:=hrel
  have hs:=HZ.out wr hbl
  by_cases hlt:k<n
  ·have hk':k<x.length:=by rw [HN.out]; exact hlt
   have c0:=HC.out wr hbl k hk'
   have g0:=rising_get HR.out hk'
   obtain ⟨u,hu⟩ : ∃ u:Int,((x.getD k 0:Nat):Int)=u:=⟨_,rfl⟩
   rw [hu] at c0
   have t2:decide (d≤u)=false:=decide_eq_false (by have:=HBI.out; omega)
   have t3:decide (u<0)=false:=decide_eq_false (by omega)
   have HU:=Lib.hid hu
   have HB:=Lib.hid hbl
   clear hu hbl g0
   by_cases hk0:k=0
   ·subst hk0
    rw [Nat.add_zero] at c0
    have t9:decide ((0:Int)<0)=false:=rfl
    have hlc:=fun (x:Later wr)=>later_cell x
    go_wp2_with fail
    refine wp_region_later (by kernel_rfl) (by kernel_rfl) ?_
    repeat (go_big_quiet_step (fail))
    refine wpQuiet_nil ?_
    clear hlc
    rintro ⟨w1,hb1⟩
    go_wp2_with fail
    go_roundw
    case rel=>exact ⟨1,by omega,by go_num,bup HB.out hb1⟩
    case measure=>simp [intOf]; omega
   ·have hk1:k-1<x.length:=by omega
    have c1:=HC.out wr HB.out (k-1) hk1
    have l1:=rising_lt HR.out (show k-1<k by omega) hk'
    obtain ⟨v,hv⟩ : ∃ v:Int,((x.getD (k-1) 0:Nat):Int)=v:=⟨_,rfl⟩
    rw [hv] at c1
    have t4:v<u:=by have:=HU.out; omega
    have t5:decide (u≤v)=false:=decide_eq_false (by omega)
    obtain ⟨q,rfl⟩ : ∃ q,k=q+1:=⟨k-1,by omega⟩
    rw [Nat.add_sub_cancel] at c1
    have t6:IntKind.i64.wrap ((q:Int)+1-1)=(q:Int):=by rw [Int.add_sub_cancel]; exact IntWalk.i64_in _ (by omega)
    have t7:decide ((0:Int)<(q:Int)+1)=true:=decide_eq_true (by omega)
    have t8:decide ((q:Int)+1<(n:Int))=true:=decide_eq_true (by omega)
    clear hv hk1 hk0 l1
    have hlc:=fun (x:Later wr)=>later_cell x
    go_wp2_with fail
    refine wp_region_later (by kernel_rfl) (by kernel_rfl) ?_
    repeat (go_big_quiet_step (fail))
    refine wpQuiet_nil ?_
    clear hlc
    rintro ⟨w1,hb1⟩
    go_wp2_with fail
    go_roundw
    case rel=>exact ⟨q+2,by omega,by go_num,bup HB.out hb1⟩
    case measure=>simp [intOf]; omega
  ·obtain rfl:k=n:=by omega
   go_wp2_with fail
   go_ret
   exact ⟨rfl,hbl⟩
set_option maxRecDepth 100000 in
set_option maxHeartbeats 8000000 in
theorem has_c (x:List Nat) (p:Option Addr) (cap d:Nat) (w:World) (hL:Lst w x p cap) (hx:d ∈ x) (hl:x.length≤1048576) :
 Calls Try.prog 48 #[.slice p x.length cap, .int .i64 d] w fun e w'=>e = .returned (.bool true)∧w=w':=by
 obtain ⟨i,hi,he⟩:=List.getElem_of_mem hx
 obtain ⟨xb,xo,rfl,hz,hc⟩:=Cells.at hL.cells 0 (by omega)
 obtain ⟨n,hn⟩ : ∃ n,x.length=n:=⟨_,rfl⟩
 rw [hn] at hc hl hi ⊢
 have hd:x.getD i 0=d:=by rw [List.getD_eq_getElem?_getD,List.getElem?_eq_getElem (by omega)]; exact he
 have HC:=Lib.hid hc
 have HD:=Lib.hid hd
 clear hL hx hc he hn hd
 go_enter Try.func48,Try.ntmps48
 go_wp2_with fail
 go_loop [5] (fun j=> ∃ k:Nat,k≤i∧j = .int .i64 k) (fun j=>i+1-(intOf j).toNat)
 case atStart=>exact ⟨0,Nat.zero_le _,rfl⟩
 case round=>
  obtain ⟨k,hk,rfl⟩:=hrel
  have c0:=HC.out k (by omega)
  have hlt:k<n:=by omega
  obtain ⟨u,hu⟩ : ∃ u,x.getD k 0=u:=⟨_,rfl⟩
  rw [hu] at c0
  have HU:=Lib.hid hu
  clear hu
  by_cases hud:(u:Int)=(d:Int)
  ·have hub:((u:Int)==(d:Int))=true:=by simpa using hud
   go_wp2_with fail
   go_ret
   exact ⟨rfl,rfl⟩
  ·have hub:((u:Int)==(d:Int))=false:=by simpa using hud
   have hki:k ≠ i:=fun e=>by subst e; rw [HD.out] at HU; exact hud (by rw [HU.out])
   go_wp2_with fail
   exact ⟨⟨k+1,by omega,by go_num⟩,by simp [intOf]; omega⟩
end Go.Proofs.Ytkbbhihndigmeaa

namespace Go.Proofs.Ytkbbhihndigmeaa
open Go Go.RowKit Go.Shelf
theorem used_mem {A:Nat→Nat→Int} {m n i:Nat} (h:i ∈ usedC A m n):i<m ∧ ∃ x,Surely A m n x (valOf A m n).1 (valOf A m n).2∧0<x i:=by
 unfold usedC at h
 simp only [List.mem_filter,decide_eq_true_eq,List.mem_range] at h
 obtain ⟨h1,R,G,s, -,h2,h3⟩:=h
 exact ⟨h1,_,h3,h2⟩
theorem used_rising (A:Nat→Nat→Int) (m n:Nat):Rising m (usedC A m n):=rising_filter _ _
theorem best_some {A:Nat→Nat→Int} {m n:Nat} {x:Nat→Int} (h:BestR A m n x):0<(usedC A m n).length:=by
 refine Classical.byContradiction fun hn => ?_
 have h0:usedC A m n=[]:=List.length_eq_zero_iff.1 (by omega)
 have hz:sumI x m=0:=by
  have : ∀ k,k≤m→sumI x k=0:=fun k=>by
   induction k with
   | zero=>exact fun _=>rfl
   | succ k ih=>
     intro hk
     rw [sumI,ih (by omega)]
     have h1:=(h.few k (by omega)).1
     by_cases h2:0<x k
     ·have:=h.used k (by omega) h2
      rw [h0] at this
      cases this
     ·omega
  exact this m (Nat.le_refl _)
 have:=h.sure.2.1
 rw [tot_sum,hz] at this
 exact Int.lt_irrefl _ this
theorem used_ans {f:Nat→Row3} {m n:Nat} {q:Nat→Int} (hO:Okay m n f) (hq:BestR (flip (lossA f)) n m q) {i:Nat} (h:i ∈ usedC (lossA f) m n):i ∈ ansL f m n q:=by
 obtain ⟨hi,x,hx,hp⟩:=used_mem h
 have hb:=best_bounds hO hq
 have hs:=(valOf_is hO).1
 have h1:=slack hs hx hb hi hp
 unfold ansL leastL
 rw [List.mem_filter,decide_eq_true_eq]
 refine ⟨List.mem_range.2 hi,?_⟩
 rw [least_iff hi]
 intro k hk
 have h2:=hb.2.2 k hk
 rw [ag_flip,ag_flip]
 have h3:(valOf (lossA f) m n).2*dotN q (fun j=>lossA f k j) n≤(valOf (lossA f) m n).2*dotN q (fun j=>lossA f i j) n:=by omega
 have:=Int.le_of_mul_le_mul_left h3 hs
 omega
theorem used_rows {f:Nat→Row3} {m n:Nat} {x q:Nat→Int} (hO:Okay m n f) (hx:BestR (lossA f) m n x) (hq:BestR (flip (lossA f)) n m q) :
 ValIs (sub2 (lossA f) (usedC (lossA f) m n) (List.range n)) (usedC (lossA f) m n).length (List.range n).length (valOf (lossA f) m n).1 (valOf (lossA f) m n).2:=by
 have hr:=used_rising (lossA f) m n
 rw [List.length_range]
 exact (rows_same (valOf_is hO).1 hx.sure (best_bounds hO hq) (List.Pairwise.imp (fun h=>Nat.ne_of_lt h) hr.1) hr.2 fun i hi hno=>by
  have h1:=(hx.few i hi).1
  refine Classical.byContradiction fun h2=>hno (hx.used i hi (by omega))).at fun i _ j hj=>by unfold sub2; rw [range_getD hj]
theorem used_cols {f:Nat→Row3} {m n:Nat} {x q:Nat→Int} (hO:Okay m n f) (hx:BestR (lossA f) m n x) (hq:BestR (flip (lossA f)) n m q) :
 ValIs (sub2 (lossA f) (List.range m) (usedC (flip (lossA f)) n m)) (List.range m).length (usedC (flip (lossA f)) n m).length (valOf (lossA f) m n).1 (valOf (lossA f) m n).2:=by
 have hr:=used_rising (flip (lossA f)) n m
 rw [List.length_range]
 exact (cols_same (valOf_is hO).1 hx.sure (best_bounds hO hq) (List.Pairwise.imp (fun h=>Nat.ne_of_lt h) hr.1) hr.2 fun i hi hno=>by
  have h1:=(hq.few i hi).1
  refine Classical.byContradiction fun h2=>hno (hq.used i hi (by omega))).at fun i hi j _=>by unfold sub2; rw [range_getD hi]
theorem pow_wrap : ∀ n,n≤4→IntKind.i64.wrap ((2:Int) ^ n)=2 ^ n∧IntKind.i64.wrap ((2:Int) ^ n-1)=((2 ^ n-1:Nat):Int)
 | 0,_=>by decide +kernel
 | 1,_=>by decide +kernel
 | 2,_=>by decide +kernel
 | 3,_=>by decide +kernel
 | 4,_=>by decide +kernel
 | _+5,h=>by omega
theorem part_okay {f g:Nat→Row3} {m n:Nat} {R C:List Nat} (hO:Okay m n f) (hR:Rising m R) (hC:Rising n C) (h1:0<R.length) (h2:0<C.length) (hl : ∀ j,(g j).n=C.length) (hg : ∀ i,(g i).g=fun j=>lossA f (R.getD i 0) (C.getD j 0)):Okay R.length C.length g:=by
 have h3:=rising_len hR
 have h4:=rising_len hC
 have h5:=hO.m4
 have h6:=hO.n4
 exact ⟨h1,by omega,h2,by omega,fun i _=>hl i,fun i hi j hj=>by rw [hg]; exact hO.num _ (hR.2 _ (getD_mem hi)) _ (hC.2 _ (getD_mem hj))⟩
theorem part_val {f g:Nat→Row3} {R C:List Nat} {v s:Int} (hg : ∀ i,(g i).g=fun j=>lossA f (R.getD i 0) (C.getD j 0)) (h:ValIs (sub2 (lossA f) R C) R.length C.length v s) (h1:ratN v s=v) (h2:ratD v s=s):valOf (lossA g) R.length C.length=(v,s):=by
 rw [val_of (h.at (B:=lossA g) fun i _ j _=>by show _=(g i).g j; rw [hg]; rfl),h1,h2]
end Go.Proofs.Ytkbbhihndigmeaa

namespace Go.Proofs.Ytkbbhihndigmeaa
open Go Go.RowKit Go.Shelf
section
variable {P:Program} {ts e:TypeId} {i0:TypeInfo} {z:Value} {bytes:Nat} (ht:P.underlying ts=some (.slice e)) (hi:P.info? e=some i0) (hz:i0.zero=some z) (hs:i0.size=1) (hby:i0.bytes=bytes) (hzs:z.cells.size=1) (hb24:bytes≤100)
include ht hi hz hs hby hzs hb24
theorem own_appL {ty:TypeId} {A:World} {B n cap:Nat} {xs news:List Value} {v:Value} {ad:Addr} (h:OwnV e A B xs v) (hl:news.length=n) (hnews : ∀ j w,news[j]? = some w→A.cell? (ad.add j)=some w) (h1 : ∀ u ∈ news,u.oneCell'=true) (hB:B≤A.heap.size) (hx:xs.length≤1048576) (hn:n≤1048576) :
 ∃ v' A',(Builtin.append_ #[ts,ts] ty #[v, .slice (some ad) n cap]).run P A = .ok v' A'∧OwnV e A' B (xs ++ news) v'∧Below B A A':=by
 obtain ⟨v',A',hrun,r1,r2, -,r3⟩:=run_append_own_at (P:=P) (w:=A) B ts ty e i0 z 1 bytes ht hi hz hs hby hzs (by omega) v xs.length xs h ad n cap news (by omega) hnews h1 (by unfold maxLen; omega) (by
  have:(xs.length+n)*bytes≤2097152*100:=Nat.mul_le_mul (by omega) hb24
  omega) hB
 refine ⟨v',A',hrun,?_,⟨r2.os,r2.tape,r2.output,r2.size,fun k hk=>r2.block k (by omega) ?_⟩⟩
 ·unfold OwnV
  rw [List.length_append,hl]
  exact r1
 ·intro he
  have:=(h.lt he.symm).1
  omega
end
theorem app64L {A:World} {B n cap:Nat} {xs news:List Value} {v:Value} {ad:Addr} (h:OwnV 2 A B xs v) (hl:news.length=n) (hnews : ∀ j w,news[j]? = some w→A.cell? (ad.add j)=some w) (h1 : ∀ u ∈ news,u.oneCell'=true) (hB:B≤A.heap.size) (hx:xs.length≤1048576) (hn:n≤1048576) :
 ∃ v' A',(Builtin.append_ #[25,25] 25 #[v, .slice (some ad) n cap]).run Try.prog A = .ok v' A'∧OwnV 2 A' B (xs ++ news) v'∧Below B A A':=by
 obtain ⟨i0,hi,h2,h3,h4⟩:=info_one info64
 exact own_appL Try.underlying25 hi h2 h3 h4 rfl (by omega) h hl hnews h1 hB hx hn
theorem Own.toV {A:World} {B:Nat} {x:List Nat} {v:Value} (h:Own A B x v):OwnV 3 A B (natL x) v:=by
 unfold OwnV
 rw [show (natL x).length=x.length by simp [natL]]
 exact h
theorem OwnV.toN {A:World} {B:Nat} {x:List Nat} {v:Value} (h:OwnV 3 A B (natL x) v):Own A B x v:=by
 unfold OwnV at h
 rw [show (natL x).length=x.length by simp [natL]] at h
 exact h
def moreG (A:Nat→Nat→Int) (i k:Nat) (q:Int) (a c:Nat):Int:=if a=i∧c=k then min 100 (A a c+q) else A a c
theorem more_bd {f:Nat→Row3} {m n i k:Nat} {q:Int} (hO:Okay m n f) (hq:0≤q) (a c:Nat) (ha:a<m) (hc:c<n):lossA f a c≤moreG (lossA f) i k q a c ∧ -100≤moreG (lossA f) i k q a c∧moreG (lossA f) i k q a c≤100:=by
 have h : -100≤lossA f a c∧lossA f a c≤100:=hO.num a ha c hc
 unfold moreG
 split <;> omega
theorem more_row {A:Nat→Nat→Int} {i k n:Nat} {q:Int} {a:Nat} (h:a ≠ i):numL (moreG A i k q a) n=numL (A a) n:=numL_same fun _ _=>if_neg fun e=>h e.1
theorem more_set {A:Nat→Nat→Int} {i k n:Nat} {q:Int} (hk:k<n):(numL (A i) n).set k (.int .i64 (min 100 (A i k+q)))=numL (moreG A i k q i) n:=by
 refine List.ext_getElem? fun c => ?_
 rw [List.getElem?_set]
 by_cases hc:c<n
 ·rw [numL_get _ _ _ hc,numL_get _ _ _ hc,numL_len]
  unfold moreG
  by_cases e:k=c
  ·subst e
   simp [hk]
  ·rw [if_neg e,if_neg fun h=>e h.2.symm]
 ·rw [List.getElem?_eq_none (by rw [numL_len]; omega),List.getElem?_eq_none (by rw [numL_len]; omega),if_neg (by omega)]
def butL (i n:Nat):List Nat:=(List.range n).filter fun a=>decide (a ≠ i)
theorem but_same {i n:Nat} (h:n=i):butL i (n+1)=butL i n:=by simp [butL,List.range_succ,h]
theorem but_more {i n:Nat} (h:n ≠ i):butL i (n+1)=butL i n ++ [n]:=by simp [butL,List.range_succ,h]
theorem but_rising (i n:Nat):Rising n (butL i n):=rising_filter _ _
theorem but_some {i n:Nat} (h:1<n):0<(butL i n).length:=by
 refine Classical.byContradiction fun hn => ?_
 have h0:butL i n=[]:=List.length_eq_zero_iff.1 (by omega)
 have:(if i=0 then 1 else 0) ∈ butL i n:=by
  unfold butL
  rw [List.mem_filter,List.mem_range,decide_eq_true_eq]
  split <;> omega
 rw [h0] at this
 cases this
theorem rising_nodup {n:Nat} {x:List Nat} (h:Rising n x):x.Nodup:=List.Pairwise.imp (fun h=>Nat.ne_of_lt h) h.1
theorem val_fit {f:Nat→Row3} {m n:Nat} (hO:Okay m n f):1≤(valOf (lossA f) m n).2∧(valOf (lossA f) m n).2≤96000000 ∧ -100*(valOf (lossA f) m n).2≤(valOf (lossA f) m n).1∧(valOf (lossA f) m n).1≤100*(valOf (lossA f) m n).2 ∧
 ratN (valOf (lossA f) m n).1 (valOf (lossA f) m n).2=(valOf (lossA f) m n).1∧ratD (valOf (lossA f) m n).1 (valOf (lossA f) m n).2=(valOf (lossA f) m n).2:=by
 obtain ⟨v,s,h,R,G,e,hc,hs⟩:=val_exists (lossA f) hO.m1 hO.m4 hO.n1 hO.n4
 have hf:=planC_few hO hc (p:=planC (lossA f) R G e) fun _ _=>rfl
 have hp:=hf.pos
 have he:=rat_eqn v h.1
 have h2:=hs.le (v':=ratN v s) h.1 (ratD_pos v h.1) (by omega)
 have hv:=val_of h
 have h3:=(sure_val hO (fun i hi=>(hf.part i hi).1) hp).2 (by rw [hv]; exact h2)
 have e1:ratN (sureN f m n (planC (lossA f) R G e)) (sumI (planC (lossA f) R G e) m)=(valOf (lossA f) m n).1:=congrArg Prod.fst h3
 have e2:ratD (sureN f m n (planC (lossA f) R G e)) (sumI (planC (lossA f) R G e) m)=(valOf (lossA f) m n).2:=congrArg Prod.snd h3
 have hsm:=sure_small hO (fun i hi=>(hf.part i hi).1) hp
 rw [e1,e2] at hsm
 have hb:=sum_upto (x:=planC (lossA f) R G e) (m:=m) (b:=24000000) fun i hi=>(hf.part i hi).2
 have h4:=hO.m4
 have:(24000000:Int)*(m:Int)≤96000000:=by omega
 exact ⟨hsm.1,by omega,hsm.2.2⟩
theorem sub_val {f:Nat→Row3} {m n:Nat} {R C:List Nat} (hO:Okay m n f) (hR:Rising m R) (hC:Rising n C) (h1:0<R.length) (h2:0<C.length) : ∃ v s,ValIs (sub2 (lossA f) R C) R.length C.length v s∧1≤s∧s≤96000000 ∧ -100*s≤v∧v≤100*s∧ratN v s=v∧ratD v s=s:=by
 have hG:Okay R.length C.length (fun i=>⟨none,C.length,0,fun j=>lossA f (R.getD i 0) (C.getD j 0)⟩):=part_okay hO hR hC h1 h2 (fun _=>rfl) fun _=>rfl
 exact ⟨_,_,valOf_is hG,val_fit hG⟩
theorem rows_lt {f:Nat→Row3} {m n:Nat} {R:List Nat} {v s:Int} (hO:Okay m n f) (hR:Rising m R) (h:ValIs (sub2 (lossA f) R (List.range n)) R.length (List.range n).length v s):ltB (valOf (lossA f) m n).1 (valOf (lossA f) m n).2 v s=false:=by
 rw [List.length_range] at h
 have:=rows_less (rising_nodup hR) hR.2 (valOf_is hO) (h.at (B:=fun i j=>lossA f (R.getD i 0) j) fun i _ j hj=>by unfold sub2; rw [range_getD hj])
 exact decide_eq_false (by omega)
theorem cols_lt {f:Nat→Row3} {m n:Nat} {C:List Nat} {v s:Int} (hO:Okay m n f) (hC:Rising n C) (h:ValIs (sub2 (lossA f) (List.range m) C) (List.range m).length C.length v s):ltB v s (valOf (lossA f) m n).1 (valOf (lossA f) m n).2=false:=by
 rw [List.length_range] at h
 have:=cols_more (rising_nodup hC) hC.2 (valOf_is hO) (h.at (B:=fun i j=>lossA f i (C.getD j 0)) fun i hi j _=>by unfold sub2; rw [range_getD hi])
 exact decide_eq_false (by omega)
theorem more_lt {f g:Nat→Row3} {m n i k:Nat} {q:Int} (hO:Okay m n f) (hG:Okay m n g) (hq:0≤q) (hg : ∀ a c,(g a).g c=moreG (lossA f) i k q a c):ltB (valOf (lossA g) m n).1 (valOf (lossA g) m n).2 (valOf (lossA f) m n).1 (valOf (lossA f) m n).2=false:=by
 have:=losses_more (B:=lossA g) (fun a ha c hc=>by show _≤(g a).g c; rw [hg]; exact (more_bd hO hq a c ha hc).1) (valOf_is hO) (valOf_is hG)
 exact decide_eq_false (by omega)
end Go.Proofs.Ytkbbhihndigmeaa
