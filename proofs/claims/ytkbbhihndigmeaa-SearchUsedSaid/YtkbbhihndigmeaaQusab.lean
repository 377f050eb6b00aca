/- The helpers of layer 3's laws: isList and has answer true where they should. -/
import Derived.Shelf.Abstract
import Derived.Test.YtkbbhihndigmeaaQusaa
import Derived.Shelf.RegionOpen
import Derived.Conc.Own4
import Derived.Test.YtkbbhihndigmeaaBasac
import Derived.Test.YtkbbhihndigmeaaBasba
namespace Go.Proofs.Ytkbbhihndigmeaa
open Go Go.RowKit Go.Shelf
theorem rising_get {n:Nat} {x:List Nat} (h:Rising n x) {i:Nat} (hi:i<x.length):x.getD i 0<n:=by
 rw [List.getD_eq_getElem?_getD,List.getElem?_eq_getElem hi]
 exact h.2 _ (List.getElem_mem hi)
theorem rising_lt {n:Nat} {x:List Nat} (h:Rising n x) {i j:Nat} (hi:i<j) (hj:j<x.length):x.getD i 0<x.getD j 0:=by
 rw [List.getD_eq_getElem?_getD,List.getD_eq_getElem?_getD,List.getElem?_eq_getElem hj,List.getElem?_eq_getElem (show i<x.length by omega)]
 exact List.pairwise_iff_getElem.1 h.1 i j (by omega) hj hi
theorem rising_filter (n:Nat) (p:Nat→Bool):Rising n ((List.range n).filter p):=
 ⟨List.Pairwise.sublist List.filter_sublist List.pairwise_lt_range,fun _ hi=>List.mem_range.1 (List.mem_filter.1 hi).1⟩
set_option maxRecDepth 100000 in
set_option maxHeartbeats 8000000 in
theorem isList_c (x:List Nat) (p:Option Addr) (cap b:Nat) (w:World) (hL:Lst w x p cap) (hx:Rising b x) (hb:b≤1048576) :
 Calls Try.prog 47 #[.slice p x.length cap, .int .i64 b] w fun e w'=>e = .returned (.bool true)∧Below w.heap.size w w':=by
 have hlen:=rising_len hx
 by_cases h0:x.length=0
 ·rw [h0]
  clear hL hx hlen
  go_enter Try.func47,Try.ntmps47
  go_wp2_with fail
  go_loopw [5] (fun i wr=>i = .int .i64 0∧Below w.heap.size w wr) (fun _ _=>0)
  case atStart=>exact ⟨rfl,Below.refl _ _⟩
  case round=>
   obtain ⟨rfl,hbl⟩:=hrel
   go_wp2_with fail
   go_ret
   exact ⟨rfl,hbl⟩
 obtain ⟨xb,xo,rfl,hc⟩:=lstC hL (by omega)
 have hz : ∀ y,Below w.heap.size w y→xb<y.heap.size:=fun y hy=>by
  obtain ⟨b2,o2,e2,hz2, -⟩:=Cells.at (Lst.below hL hy).cells 0 (by omega)
  injection e2 with he
  injection he with h1 h2 _
  omega
 have HZ:=Lib.hid hz
 have HC:=Lib.hid hc
 have HR:=Lib.hid hx
 obtain ⟨n,hn⟩ : ∃ n,x.length=n:=⟨_,rfl⟩
 have HN:=Lib.hid hn
 rw [hn] at hlen ⊢
 obtain ⟨d,hd⟩ : ∃ d:Int,(b:Int)=d:=⟨_,rfl⟩
 rw [hd]
 have HBI:=Lib.hid hd
 clear hL hx hc hz hn h0 hd
 go_enter Try.func47,Try.ntmps47
 go_wp2_with fail
 go_loopw [5] (fun i wr=> ∃ k:Nat,k≤n∧i = .int .i64 k∧Below w.heap.size w wr) (fun i _=>n-(intOf i).toNat)
 case atStart=>exact ⟨0,Nat.zero_le _,rfl,Below.refl _ _⟩
 case round=>
  obtain ⟨k,hk,rfl,hbl⟩:=hrel
  have hs:=HZ.out wr hbl
  by_cases hlt:k<n
  ·have hk':k<x.length:=by rw [HN.out]; exact hlt
   have c0:=HC.out wr hbl k hk'
   have g0:=rising_get HR.out hk'
   obtain ⟨u,hu⟩ : ∃ u:Int,((x.getD k 0:Nat):Int)=u:=⟨_,rfl⟩
   rw [hu] at c0
   have t2:decide (d≤u)=false:=decide_eq_false (by have:=HBI.out; omega)
   have t3:decide (u<0)=false:=decide_eq_false (by omega)
   have HU:=Lib.hid hu
   have HB:=Lib.hid hbl
   clear hu hbl g0
   by_cases hk0:k=0
   ·subst hk0
    rw [Nat.add_zero] at c0
    have t9:decide ((0:Int)<0)=false:=rfl
    have hlc:=fun (x:Later wr)=>later_cell x
    go_wp2_with fail
    refine wp_region_later (by kernel_rfl) (by kernel_rfl) ?_
    repeat (go_big_quiet_step (fail))
    refine wpQuiet_nil ?_
    clear hlc
    rintro ⟨w1,hb1⟩
    go_wp2_with fail
    go_roundw
    case rel=>exact ⟨1,by omega,by go_num,bup HB.out hb1⟩
    case measure=>simp [intOf]; omega
   ·have hk1:k-1<x.length:=by omega
    have c1:=HC.out wr HB.out (k-1) hk1
    have l1:=rising_lt HR.out (show k-1<k by omega) hk'
    obtain ⟨v,hv⟩ : ∃ v:Int,((x.getD (k-1) 0:Nat):Int)=v:=⟨_,rfl⟩
    rw [hv] at c1
    have t4:v<u:=by have:=HU.out; omega
    have t5:decide (u≤v)=false:=decide_eq_false (by omega)
    obtain ⟨q,rfl⟩ : ∃ q,k=q+1:=⟨k-1,by omega⟩
    rw [Nat.add_sub_cancel] at c1
    have t6:IntKind.i64.wrap ((q:Int)+1-1)=(q:Int):=by rw [Int.add_sub_cancel]; exact IntWalk.i64_in _ (by omega)
    have t7:decide ((0:Int)<(q:Int)+1)=true:=decide_eq_true (by omega)
    have t8:decide ((q:Int)+1<(n:Int))=true:=decide_eq_true (by omega)
    clear hv hk1 hk0 l1
    have hlc:=fun (x:Later wr)=>later_cell x
    go_wp2_with fail
    refine wp_region_later (by kernel_rfl) (by kernel_rfl) ?_
    repeat (go_big_quiet_step (fail))
    refine wpQuiet_nil ?_
    clear hlc
    rintro ⟨w1,hb1⟩
    go_wp2_with fail
    go_roundw
    case rel=>exact ⟨q+2,by omega,by go_num,bup HB.out hb1⟩
    case measure=>simp [intOf]; omega
  ·obtain rfl:k=n:=by omega
   go_wp2_with fail
   go_ret
   exact ⟨rfl,hbl⟩
set_option maxRecDepth 100000 in
set_option maxHeartbeats 8000000 in
theorem has_c (x:List Nat) (p:Option Addr) (cap d:Nat) (w:World) (hL:Lst w x p cap) (hx:d ∈ x) (hl:x.length≤1048576) :
 Calls Try.prog 48 #[.slice p x.length cap, .int .i64 d] w fun e w'=>e = .returned (.bool true)∧w=w':=by
 obtain ⟨i,hi,he⟩:=List.getElem_of_mem hx
 obtain ⟨xb,xo,rfl,hz,hc⟩:=Cells.at hL.cells 0 (by omega)
 obtain ⟨n,hn⟩ : ∃ n,x.length=n:=⟨_,rfl⟩
 rw [hn] at hc hl hi ⊢
 have hd:x.getD i 0=d:=by rw [List.getD_eq_getElem?_getD,List.getElem?_eq_getElem (by omega)]; exact he
 have HC:=Lib.hid hc
 have HD:=Lib.hid hd
 clear hL hx hc he hn hd
 go_enter Try.func48,Try.ntmps48
 go_wp2_with fail
 go_loop [5] (fun j=> ∃ k:Nat,k≤i∧j = .int .i64 k) (fun j=>i+1-(intOf j).toNat)
 case atStart=>exact ⟨0,Nat.zero_le _,rfl⟩
 case round=>
  obtain ⟨k,hk,rfl⟩:=hrel
  have c0:=HC.out k (by omega)
  have hlt:k<n:=by omega
  obtain ⟨u,hu⟩ : ∃ u,x.getD k 0=u:=⟨_,rfl⟩
  rw [hu] at c0
  have HU:=Lib.hid hu
  clear hu
  by_cases hud:(u:Int)=(d:Int)
  ·have hub:((u:Int)==(d:Int))=true:=by simpa using hud
   go_wp2_with fail
   go_ret
   exact ⟨rfl,rfl⟩
  ·have hub:((u:Int)==(d:Int))=false:=by simpa using hud
   have hki:k ≠ i:=fun e=>by subst e; rw [HD.out] at HU; exact hud (by rw [HU.out])
   go_wp2_with fail
   exact ⟨⟨k+1,by omega,by go_num⟩,by simp [intOf]; omega⟩
end Go.Proofs.Ytkbbhihndigmeaa

namespace Go.Proofs.Ytkbbhihndigmeaa
open Go Go.RowKit Go.Shelf
theorem used_mem {A:Nat→Nat→Int} {m n i:Nat} (h:i ∈ usedC A m n):i<m ∧ ∃ x,Surely A m n x (valOf A m n).1 (valOf A m n).2∧0<x i:=by
 unfold usedC at h
 simp only [List.mem_filter,decide_eq_true_eq,List.mem_range] at h
 obtain ⟨h1,R,G,s, -,h2,h3⟩:=h
 exact ⟨h1,_,h3,h2⟩
theorem used_rising (A:Nat→Nat→Int) (m n:Nat):Rising m (usedC A m n):=rising_filter _ _
theorem best_some {A:Nat→Nat→Int} {m n:Nat} {x:Nat→Int} (h:BestR A m n x):0<(usedC A m n).length:=by
 refine Classical.byContradiction fun hn => ?_
 have h0:usedC A m n=[]:=List.length_eq_zero_iff.1 (by omega)
 have hz:sumI x m=0:=by
  have : ∀ k,k≤m→sumI x k=0:=fun k=>by
   induction k with
   | zero=>exact fun _=>rfl
   | succ k ih=>
     intro hk
     rw [sumI,ih (by omega)]
     have h1:=(h.few k (by omega)).1
     by_cases h2:0<x k
     ·have:=h.used k (by omega) h2
      rw [h0] at this
      cases this
     ·omega
  exact this m (Nat.le_refl _)
 have:=h.sure.2.1
 rw [tot_sum,hz] at this
 exact Int.lt_irrefl _ this
theorem used_ans {f:Nat→Row3} {m n:Nat} {q:Nat→Int} (hO:Okay m n f) (hq:BestR (flip (lossA f)) n m q) {i:Nat} (h:i ∈ usedC (lossA f) m n):i ∈ ansL f m n q:=by
 obtain ⟨hi,x,hx,hp⟩:=used_mem h
 have hb:=best_bounds hO hq
 have hs:=(valOf_is hO).1
 have h1:=slack hs hx hb hi hp
 unfold ansL leastL
 rw [List.mem_filter,decide_eq_true_eq]
 refine ⟨List.mem_range.2 hi,?_⟩
 rw [least_iff hi]
 intro k hk
 have h2:=hb.2.2 k hk
 rw [ag_flip,ag_flip]
 have h3:(valOf (lossA f) m n).2*dotN q (fun j=>lossA f k j) n≤(valOf (lossA f) m n).2*dotN q (fun j=>lossA f i j) n:=by omega
 have:=Int.le_of_mul_le_mul_left h3 hs
 omega
theorem used_rows {f:Nat→Row3} {m n:Nat} {x q:Nat→Int} (hO:Okay m n f) (hx:BestR (lossA f) m n x) (hq:BestR (flip (lossA f)) n m q) :
 ValIs (sub2 (lossA f) (usedC (lossA f) m n) (List.range n)) (usedC (lossA f) m n).length (List.range n).length (valOf (lossA f) m n).1 (valOf (lossA f) m n).2:=by
 have hr:=used_rising (lossA f) m n
 rw [List.length_range]
 exact (rows_same (valOf_is hO).1 hx.sure (best_bounds hO hq) (List.Pairwise.imp (fun h=>Nat.ne_of_lt h) hr.1) hr.2 fun i hi hno=>by
  have h1:=(hx.few i hi).1
  refine Classical.byContradiction fun h2=>hno (hx.used i hi (by omega))).at fun i _ j hj=>by unfold sub2; rw [range_getD hj]
theorem used_cols {f:Nat→Row3} {m n:Nat} {x q:Nat→Int} (hO:Okay m n f) (hx:BestR (lossA f) m n x) (hq:BestR (flip (lossA f)) n m q) :
 ValIs (sub2 (lossA f) (List.range m) (usedC (flip (lossA f)) n m)) (List.range m).length (usedC (flip (lossA f)) n m).length (valOf (lossA f) m n).1 (valOf (lossA f) m n).2:=by
 have hr:=used_rising (flip (lossA f)) n m
 rw [List.length_range]
 exact (cols_same (valOf_is hO).1 hx.sure (best_bounds hO hq) (List.Pairwise.imp (fun h=>Nat.ne_of_lt h) hr.1) hr.2 fun i hi hno=>by
  have h1:=(hq.few i hi).1
  refine Classical.byContradiction fun h2=>hno (hq.used i hi (by omega))).at fun i hi j _=>by unfold sub2; rw [range_getD hi]
theorem pow_wrap : ∀ n,n≤4→IntKind.i64.wrap ((2:Int) ^ n)=2 ^ n∧IntKind.i64.wrap ((2:Int) ^ n-1)=((2 ^ n-1:Nat):Int)
 | 0,_=>by decide +kernel
 | 1,_=>by decide +kernel
 | 2,_=>by decide +kernel
 | 3,_=>by decide +kernel
 | 4,_=>by decide +kernel
 | _+5,h=>by omega
theorem part_okay {f g:Nat→Row3} {m n:Nat} {R C:List Nat} (hO:Okay m n f) (hR:Rising m R) (hC:Rising n C) (h1:0<R.length) (h2:0<C.length) (hl : ∀ j,(g j).n=C.length) (hg : ∀ i,(g i).g=fun j=>lossA f (R.getD i 0) (C.getD j 0)):Okay R.length C.length g:=by
 have h3:=rising_len hR
 have h4:=rising_len hC
 have h5:=hO.m4
 have h6:=hO.n4
 exact ⟨h1,by omega,h2,by omega,fun i _=>hl i,fun i hi j hj=>by rw [hg]; exact hO.num _ (hR.2 _ (getD_mem hi)) _ (hC.2 _ (getD_mem hj))⟩
theorem part_val {f g:Nat→Row3} {R C:List Nat} {v s:Int} (hg : ∀ i,(g i).g=fun j=>lossA f (R.getD i 0) (C.getD j 0)) (h:ValIs (sub2 (lossA f) R C) R.length C.length v s) (h1:ratN v s=v) (h2:ratD v s=s):valOf (lossA g) R.length C.length=(v,s):=by
 rw [val_of (h.at (B:=lossA g) fun i _ j _=>by show _=(g i).g j; rw [hg]; rfl),h1,h2]
end Go.Proofs.Ytkbbhihndigmeaa

namespace Go.Proofs.Ytkbbhihndigmeaa
open Go Go.RowKit Go.Shelf
theorem cutV {p:Prop} (H:Nat→World→Prop) {Q2:Nat→Nat→Nat→Option Addr→Nat→Option Addr→Nat→World→Prop} (main:(∀ b r k p1 q1 p2 q2 y,H b y→Q2 b r k p1 q1 p2 q2 y)→p) (fin : ∀ b r k p1 q1 p2 q2 y,H b y→Q2 b r k p1 q1 p2 q2 y):p:=main fin
set_option maxRecDepth 100000 in
set_option maxHeartbeats 16000000 in
theorem law_used_c (a:Option Addr) (m cap:Nat) (f:Nat→Row3) (w:World) (hf:Tab w a m f) :
 Calls Try.prog 9 #[tabV a m cap] w fun e w'=>e = .returned (.bool true)∧Below w.heap.size w w':=by
 obtain ⟨W,hW⟩ : ∃ W,w.alloc (.cells #[.slice a m cap] 24)=W:=⟨_,rfl⟩
 have hB:Below w.heap.size w W:=by rw [← hW]; exact Below.alloc1 (Below.refl _ _) _ (Nat.le_refl _)
 have R1:=Lib.hid (show RowIs W w.heap.size #[.slice a m cap] 24 by rw [← hW]; exact heap_new_at _ _ _ rfl)
 have H1:=Lib.hid (hf.below hB)
 have B1:=Lib.hid hB
 clear hf hB
 cases hT:fineB m f with
 | false=>
   have HF:=Lib.hid hT
   clear hT
   go_enter Try.func9,Try.ntmps9
   have cc1:W.cell? ⟨w.heap.size,0,none⟩=some (.slice a m cap):=RowIs.cell R1.out 0
   have zz2:w.heap.size<W.heap.size:=RowIs.lt R1.out
   go_wp2_with fail
   clear cc1 zz2 hW
   refine (fine_c a m cap f _ H1.out).mono ?_
   rintro e w3 ⟨rfl,hbq⟩
   replace R1:=Lib.hid (RowIs.below R1.out hbq)
   replace H1:=Lib.hid (H1.out.below hbq)
   replace B1:=Lib.hid (bup B1.out hbq)
   clear hbq
   rw [HF.out]
   have cc4:w3.cell? ⟨w.heap.size,0,none⟩=some (.slice a m cap):=RowIs.cell R1.out 0
   have zz5:w.heap.size<w3.heap.size:=RowIs.lt R1.out
   go_wp2_with fail
   clear cc4 zz5
   refine (works_c _).mono ?_
   rintro e w6 ⟨rfl,hbq⟩
   go_wp2_with fail
   go_ret
   exact ⟨rfl,bup B1.out hbq⟩
 | true=>
   have HF:=Lib.hid hT
   have hE:tableE m f=0:=of_decide_eq_true hT
   have hO:=okay_of hE
   obtain ⟨n,hn⟩ : ∃ n,(f 0).n=n:=⟨_,rfl⟩
   rw [hn] at hO
   have hm4:=hO.m4
   have hm1:=hO.m1
   have hn4:=hO.n4
   have hn1:=hO.n1
   have hm2:m≤1048576:=by omega
   have hr2 : ∀ i,i<m→(f i).n≤1048576:=fun i hi=>by rw [hO.len i hi]; omega
   have KO:=Lib.hid hO
   have RR:=Lib.hid hr2
   have HN:=Lib.hid hn
   have KE:=Lib.hid hE
   obtain ⟨tb,ofs,ha0,htb, -⟩:=Tab.at H1.out 0 (by omega)
   subst ha0
   obtain ⟨v1,hv1⟩ : ∃ v1,(valOf (lossA f) m n).1=v1:=⟨_,rfl⟩
   obtain ⟨v2,hv2⟩ : ∃ v2,(valOf (lossA f) m n).2=v2:=⟨_,rfl⟩
   have V1:=Lib.hid hv1
   have V2:=Lib.hid hv2
   clear hE hT hO hr2 hn hv1 hv2
   obtain ⟨LA,hLA⟩ : ∃ LA,usedC (lossA f) m n=LA:=⟨_,rfl⟩
   obtain ⟨LB,hLB⟩ : ∃ LB,usedC (flip (lossA f)) n m=LB:=⟨_,rfl⟩
   have hsa:=used_rising (lossA f) m n
   have hsb:=used_rising (flip (lossA f)) n m
   rw [hLA] at hsa
   rw [hLB] at hsb
   have hqa:=rising_len hsa
   have hqb:=rising_len hsb
   have SA:=Lib.hid hsa
   have SB:=Lib.hid hsb
   have EA:=Lib.hid hLA
   have EB:=Lib.hid hLB
   have hmz : ¬ m=0:=by omega
   clear hsa hsb hLA hLB
   go_enter Try.func9,Try.ntmps9
   have cc7:W.cell? ⟨w.heap.size,0,none⟩=some (.slice (some ⟨tb,ofs,none⟩) m cap):=RowIs.cell R1.out 0
   have zz8:w.heap.size<W.heap.size:=RowIs.lt R1.out
   go_wp2_with fail
   clear cc7 zz8 hW
   refine (fine_c (some ⟨tb,ofs,none⟩) m cap f _ H1.out).mono ?_
   rintro e w9 ⟨rfl,hbq⟩
   replace R1:=Lib.hid (RowIs.below R1.out hbq)
   replace H1:=Lib.hid (H1.out.below hbq)
   replace B1:=Lib.hid (bup B1.out hbq)
   clear hbq
   rw [HF.out]
   have cc10:w9.cell? ⟨w.heap.size,0,none⟩=some (.slice (some ⟨tb,ofs,none⟩) m cap):=RowIs.cell R1.out 0
   have zz11:w.heap.size<w9.heap.size:=RowIs.lt R1.out
   go_wp2_with fail
   clear cc10 zz11
   refine (value_c (some ⟨tb,ofs,none⟩) m n cap f _ H1.out KO.out).mono ?_
   rintro e w12 ⟨hres,hbq⟩
   obtain ⟨gr,xr,gk,xk,hbr,hbc,rfl,hrr,hrk⟩:=hres
   rw [V1.out,V2.out]
   replace R1:=Lib.hid (RowIs.below R1.out hbq)
   replace H1:=Lib.hid (H1.out.below hbq)
   replace B1:=Lib.hid (bup B1.out hbq)
   clear hbq
   have BR1:=Lib.hid hbr
   have BC1:=Lib.hid hbc
   have Ggr:=Lib.hid hrr
   have Ggk:=Lib.hid hrk
   clear hbr hbc hrr hrk
   obtain ⟨Y13,hY13⟩ : ∃ Y13,w12.alloc (.cells #[.int .i64 v1, .int .i64 v2] 30)=Y13:=⟨_,rfl⟩
   have hb14:Below w12.heap.size w12 Y13:=by rw [← hY13]; exact Below.alloc1 (Below.refl _ _) _ (Nat.le_refl _)
   have hr15:RowIs Y13 w12.heap.size #[.int .i64 v1, .int .i64 v2] 30:=by rw [← hY13]; exact heap_new_at _ _ _ rfl
   replace R1:=Lib.hid (RowIs.below R1.out hb14)
   replace H1:=Lib.hid (H1.out.below hb14)
   replace Ggr:=Lib.hid (RowIs.below Ggr.out hb14)
   replace Ggk:=Lib.hid (RowIs.below Ggk.out hb14)
   replace B1:=Lib.hid (bup B1.out hb14)
   have QV:=Lib.hid hr15
   clear hb14 hr15
   have cc16:Y13.cell? ⟨w.heap.size,0,none⟩=some (.slice (some ⟨tb,ofs,none⟩) m cap):=RowIs.cell R1.out 0
   have zz17:w.heap.size<Y13.heap.size:=RowIs.lt R1.out
   have hsm:=val_small KO.out BR1.out
   rw [V1.out,V2.out] at hsm
   have VS:=Lib.hid hsm
   clear hsm
   have hpa:=best_some BR1.out
   have hpb:=best_some BC1.out
   rw [EA.out] at hpa
   rw [EB.out] at hpb
   go_wp2_with fail
   clear hY13 cc16 zz17
   refine (Used_v (some ⟨tb,ofs,none⟩) m cap f _ H1.out hm2 RR.out).mono ?_
   rintro e w18 ⟨hres,hbq⟩
   obtain ⟨xa,ca,xb,cb,rfl,hla,hlb⟩:=hres.elim (fun h=>absurd KE.out h.1) (fun h=>h.2)
   rw [HN.out,EA.out] at hla
   rw [HN.out,EB.out] at hlb
   rw [HN.out,EA.out,EB.out]
   replace R1:=Lib.hid (RowIs.below R1.out hbq)
   replace H1:=Lib.hid (H1.out.below hbq)
   replace Ggr:=Lib.hid (RowIs.below Ggr.out hbq)
   replace Ggk:=Lib.hid (RowIs.below Ggk.out hbq)
   replace QV:=Lib.hid (RowIs.below QV.out hbq)
   replace B1:=Lib.hid (bup B1.out hbq)
   clear hbq hres
   have HA:=Lib.hid hla
   have HB:=Lib.hid hlb
   clear hla hlb
   have cc19:w18.cell? ⟨w.heap.size,0,none⟩=some (.slice (some ⟨tb,ofs,none⟩) m cap):=RowIs.cell R1.out 0
   have zz20:w.heap.size<w18.heap.size:=RowIs.lt R1.out
   obtain ⟨LN,hLN⟩ : ∃ LN,ansL f m n xk=LN:=⟨_,rfl⟩
   have hsl:Rising m LN:=by rw [← hLN]; exact rising_filter _ _
   have hql:=rising_len hsl
   have SL:=Lib.hid hsl
   have hsub : ∀ i,i ∈ LA→i ∈ LN:=fun i hi=>by rw [← hLN]; exact used_ans KO.out BC1.out (by rw [EA.out]; exact hi)
   have SUB:=Lib.hid hsub
   have EN:=Lib.hid hLN
   have hk0:0<sumI xk n:=by rw [← tot_sum]; exact BC1.out.sure.2.1
   obtain ⟨b1,b2,hbd, -, -⟩:=bound_is KO.out (q:=xk) (fun i hi=>by have:=BC1.out.few i hi; omega) hk0
   have hbe:(boundR m f n xk).2.2=0:=by rw [hbd.eq]
   have BE:=Lib.hid hbe
   clear hLN hsl hsub hk0 hbd hbe
   go_wp2_with fail
   clear cc19 zz20
   refine (Answers_v (some ⟨tb,ofs,none⟩) m cap f (some ⟨gk,0,none⟩) n n xk _ H1.out hm2 RR.out (rowA_ints Ggk.out) (by omega)).mono ?_
   rintro e w21 ⟨hres,hbq⟩
   obtain ⟨xl,cl,rfl,hll⟩:=hres.elim (fun h=>absurd BE.out h.1) (fun h=>h.2)
   rw [HN.out,EN.out] at hll
   rw [HN.out,EN.out]
   replace R1:=Lib.hid (RowIs.below R1.out hbq)
   replace H1:=Lib.hid (H1.out.below hbq)
   replace Ggr:=Lib.hid (RowIs.below Ggr.out hbq)
   replace Ggk:=Lib.hid (RowIs.below Ggk.out hbq)
   replace QV:=Lib.hid (RowIs.below QV.out hbq)
   replace HA:=Lib.hid (HA.out.below hbq)
   replace HB:=Lib.hid (HB.out.below hbq)
   replace B1:=Lib.hid (bup B1.out hbq)
   clear hbq hres
   have HL:=Lib.hid hll
   clear hll
   have cc22:w21.cell? ⟨w.heap.size,0,none⟩=some (.slice (some ⟨tb,ofs,none⟩) m cap):=RowIs.cell R1.out 0
   have zz23:w.heap.size<w21.heap.size:=RowIs.lt R1.out
   obtain ⟨rw24,rz25⟩:w21.cell? ⟨tb,ofs,none⟩=some (.slice (f 0).a n (f 0).cap)∧tb<w21.heap.size:=by
    obtain ⟨b2,o2,e2,hz2,hc2⟩:=Tab.at H1.out 0 (by omega)
    obtain ⟨rfl,rfl⟩:b2=tb∧o2=ofs:=by injection e2 with he; injection he with h1 h2 _; exact ⟨h1.symm,h2.symm⟩
    have:=hc2 0 (by omega)
    rw [Nat.add_zero,HN.out] at this
    exact ⟨this,hz2⟩
   have t1:decide ((LA.length:Int)<1)=false:=decide_eq_false (by omega)
   have t2:decide ((LB.length:Int)<1)=false:=decide_eq_false (by omega)
   have t3 : ¬ LA.length<1:=by omega
   have t4 : ¬ LB.length<1:=by omega
   go_wp2_with fail
   clear cc22 zz23 rw24 rz25
   refine (isList_c LA xa ca m _ HA.out SA.out hm2).mono ?_
   rintro e w26 ⟨rfl,hbq⟩
   replace R1:=Lib.hid (RowIs.below R1.out hbq)
   replace H1:=Lib.hid (H1.out.below hbq)
   replace Ggr:=Lib.hid (RowIs.below Ggr.out hbq)
   replace Ggk:=Lib.hid (RowIs.below Ggk.out hbq)
   replace QV:=Lib.hid (RowIs.below QV.out hbq)
   replace HA:=Lib.hid (HA.out.below hbq)
   replace HB:=Lib.hid (HB.out.below hbq)
   replace HL:=Lib.hid (HL.out.below hbq)
   replace B1:=Lib.hid (bup B1.out hbq)
   clear hbq
   have cc27:w26.cell? ⟨w.heap.size,0,none⟩=some (.slice (some ⟨tb,ofs,none⟩) m cap):=RowIs.cell R1.out 0
   have zz28:w.heap.size<w26.heap.size:=RowIs.lt R1.out
   obtain ⟨rw29,rz30⟩:w26.cell? ⟨tb,ofs,none⟩=some (.slice (f 0).a n (f 0).cap)∧tb<w26.heap.size:=by
    obtain ⟨b2,o2,e2,hz2,hc2⟩:=Tab.at H1.out 0 (by omega)
    obtain ⟨rfl,rfl⟩:b2=tb∧o2=ofs:=by injection e2 with he; injection he with h1 h2 _; exact ⟨h1.symm,h2.symm⟩
    have:=hc2 0 (by omega)
    rw [Nat.add_zero,HN.out] at this
    exact ⟨this,hz2⟩
   go_wp2_with fail
   clear cc27 zz28 rw29 rz30
   refine (isList_c LB xb cb n _ HB.out SB.out (by omega)).mono ?_
   rintro e w31 ⟨rfl,hbq⟩
   replace R1:=Lib.hid (RowIs.below R1.out hbq)
   replace H1:=Lib.hid (H1.out.below hbq)
   replace Ggr:=Lib.hid (RowIs.below Ggr.out hbq)
   replace Ggk:=Lib.hid (RowIs.below Ggk.out hbq)
   replace QV:=Lib.hid (RowIs.below QV.out hbq)
   replace HA:=Lib.hid (HA.out.below hbq)
   replace HB:=Lib.hid (HB.out.below hbq)
   replace HL:=Lib.hid (HL.out.below hbq)
   replace B1:=Lib.hid (bup B1.out hbq)
   clear hbq
   have cc32:w31.cell? ⟨w.heap.size,0,none⟩=some (.slice (some ⟨tb,ofs,none⟩) m cap):=RowIs.cell R1.out 0
   have zz33:w.heap.size<w31.heap.size:=RowIs.lt R1.out
   go_wp2_with fail
   clear cc32 zz33
   refine (isList_c LN xl cl m _ HL.out SL.out hm2).mono ?_
   rintro e w34 ⟨rfl,hbq⟩
   replace R1:=Lib.hid (RowIs.below R1.out hbq)
   replace H1:=Lib.hid (H1.out.below hbq)
   replace Ggr:=Lib.hid (RowIs.below Ggr.out hbq)
   replace Ggk:=Lib.hid (RowIs.below Ggk.out hbq)
   replace QV:=Lib.hid (RowIs.below QV.out hbq)
   replace HA:=Lib.hid (HA.out.below hbq)
   replace HB:=Lib.hid (HB.out.below hbq)
   replace HL:=Lib.hid (HL.out.below hbq)
   replace B1:=Lib.hid (bup B1.out hbq)
   clear hbq
   have cc35:w34.cell? ⟨w.heap.size,0,none⟩=some (.slice (some ⟨tb,ofs,none⟩) m cap):=RowIs.cell R1.out 0
   have zz36:w.heap.size<w34.heap.size:=RowIs.lt R1.out
   go_wp2_with fail
   go_loop [12] (fun i=> ∃ j:Nat,j≤LA.length∧i = .int .i64 j) (fun i=>LA.length-(intOf i).toNat)
   case atStart=>exact ⟨0,Nat.zero_le _,rfl⟩
   case round=>
    obtain ⟨j,hj,rfl⟩:=hrel
    by_cases hlt:j<LA.length
    ·skip
     obtain ⟨ab,ao,hab,haz,hac⟩:=Cells.at HA.out.cells j hlt
     subst hab
     have ac:=hac j hlt
     dsimp only at ac
     have hmem:=SUB.out _ (getD_mem hlt)
     obtain ⟨d,hd⟩ : ∃ d,LA.getD j 0=d:=⟨_,rfl⟩
     rw [hd] at ac hmem
     have HM:=Lib.hid hmem
     clear hac hd hmem
     go_wp2_with fail
     refine (has_c LN xl cl d _ HL.out HM.out (by omega)).mono ?_
     rintro e _ ⟨rfl,rfl⟩
     go_wp2_with fail
     exact ⟨⟨j+1,by omega,by go_num⟩,by simp [intOf]; omega⟩
    ·obtain rfl:LA.length=j:=by omega
     go_wp2_with fail
     go_loop [13] (fun i=> ∃ j:Nat,j≤m∧i = .int .i64 j) (fun i=>m-(intOf i).toNat)
     case atStart=>exact ⟨0,Nat.zero_le _,rfl⟩
     case round=>
      obtain ⟨j,hj,rfl⟩:=hrel
      by_cases hlt:j<m
      ·skip
       have gc:=RowIs.cell Ggr.out j
       rw [rowA_get m _ j hlt] at gc
       have gz:=RowIs.lt Ggr.out
       obtain ⟨u,hu⟩ : ∃ u,xr j=u:=⟨_,rfl⟩
       rw [hu] at gc
       by_cases hu0:0<u
       ·skip
        have hmem:j ∈ LA:=by rw [← EA.out]; exact BR1.out.used j hlt (by rw [hu]; exact hu0)
        have HM:=Lib.hid hmem
        have ud:decide (0<u)=true:=decide_eq_true hu0
        clear hmem hu
        go_wp2_with fail
        refine (has_c LA xa ca j _ HA.out HM.out (by omega)).mono ?_
        rintro e _ ⟨rfl,rfl⟩
        go_wp2_with fail
        exact ⟨⟨j+1,by omega,by go_num⟩,by simp [intOf]; omega⟩
       ·have ud:decide (0<u)=false:=decide_eq_false hu0
        clear hu
        go_wp2_with fail
        exact ⟨⟨j+1,by omega,by go_num⟩,by simp [intOf]; omega⟩
      ·obtain rfl:m=j:=by omega
       go_wp2_with fail
       go_loop [14] (fun i=> ∃ j:Nat,j≤n∧i = .int .i64 j) (fun i=>n-(intOf i).toNat)
       case atStart=>exact ⟨0,Nat.zero_le _,rfl⟩
       case round=>
        obtain ⟨j,hj,rfl⟩:=hrel
        by_cases hlt:j<n
        ·skip
         have gc:=RowIs.cell Ggk.out j
         rw [rowA_get n _ j hlt] at gc
         have gz:=RowIs.lt Ggk.out
         obtain ⟨u,hu⟩ : ∃ u,xk j=u:=⟨_,rfl⟩
         rw [hu] at gc
         by_cases hu0:0<u
         ·skip
          have hmem:j ∈ LB:=by rw [← EB.out]; exact BC1.out.used j hlt (by rw [hu]; exact hu0)
          have HM:=Lib.hid hmem
          have ud:decide (0<u)=true:=decide_eq_true hu0
          clear hmem hu
          go_wp2_with fail
          refine (has_c LB xb cb j _ HB.out HM.out (by omega)).mono ?_
          rintro e _ ⟨rfl,rfl⟩
          go_wp2_with fail
          exact ⟨⟨j+1,by omega,by go_num⟩,by simp [intOf]; omega⟩
         ·have ud:decide (0<u)=false:=decide_eq_false hu0
          clear hu
          go_wp2_with fail
          exact ⟨⟨j+1,by omega,by go_num⟩,by simp [intOf]; omega⟩
        ·obtain rfl:n=j:=by omega
         have hT0 : ∀ y,Below w34.heap.size w34 y→y.cell? ⟨tb,ofs,none⟩=some (.slice (f 0).a n (f 0).cap)∧tb<y.heap.size:=fun y hy=>by
          obtain ⟨b2,o2,e2,hz2,hc2⟩:=Tab.at (H1.out.below hy) 0 (by omega)
          obtain ⟨rfl,rfl⟩:b2=tb∧o2=ofs:=by injection e2 with he; injection he with h1 h2 _; exact ⟨h1.symm,h2.symm⟩
          have:=hc2 0 (by omega)
          rw [Nat.add_zero,HN.out] at this
          exact ⟨this,hz2⟩
         have HT0:=Lib.hid hT0
         clear hT0
         have SN:=Lib.hid (sub_rising (List.Sublist.refl (List.range n)))
         have SM:=Lib.hid (sub_rising (List.Sublist.refl (List.range m)))
         have hvA:=used_rows KO.out BR1.out BC1.out
         have hvB:=used_cols KO.out BR1.out BC1.out
         rw [EA.out,V1.out,V2.out] at hvA
         rw [EB.out,V1.out,V2.out] at hvB
         have VA:=Lib.hid hvA
         have VB:=Lib.hid hvB
         clear hvA hvB
         obtain ⟨pn1,pn2⟩:=pow_wrap n hn4
         obtain ⟨pm1,pm2⟩:=pow_wrap m hm4
         go_wp2_with fail
         clear cc35 zz36
         apply cutV (fun b y=>Below w34.heap.size w34 y∧RowIs y b #[.int .i64 v1, .int .i64 v2] 30)
         case main=>
          intro fin
          refine RC.wp_region_runF (C:=fun y=>Below w34.heap.size w34 y) (fun y=>Below w34.heap.size w34 y∧True) (by kernel_rfl) (fun _ _ h hb=>⟨h.1.trans (hb.mono h.1.size),trivial⟩) ⟨Below.refl _ _,trivial⟩ ?_
          change RC.Run _ _ _ _ _ 27 _ _ _
          refine RC.run_take (i:=0) (tabV (some ⟨tb,ofs,none⟩) m cap) rfl (by kernel_rfl) (by kernel_rfl) (by kernel_rfl) rfl (fun y h=>h.1) (fun y hy=>by have k0:=R1.out.below hy; have q0:=RowIs.cell k0 0; have qz:=RowIs.lt k0; obtain ⟨q1,qz1⟩:=HT0.out y hy; go_simp) ?_
          simp only [puts]
          refine RC.run_take (i:=1) (.slice xa LA.length ca) rfl (by kernel_rfl) (by kernel_rfl) (by kernel_rfl) rfl (fun y h=>h.1) (fun y hy=>by have k0:=R1.out.below hy; have q0:=RowIs.cell k0 0; have qz:=RowIs.lt k0; obtain ⟨q1,qz1⟩:=HT0.out y hy; go_simp) ?_
          simp only [puts]
          refine RC.run_take (i:=2) (.pointer (some ⟨w.heap.size,0,none⟩)) rfl (by kernel_rfl) (by kernel_rfl) (by kernel_rfl) rfl (fun y h=>h.1) (fun y hy=>by have k0:=R1.out.below hy; have q0:=RowIs.cell k0 0; have qz:=RowIs.lt k0; obtain ⟨q1,qz1⟩:=HT0.out y hy; go_simp) ?_
          simp only [puts]
          refine RC.run_take (i:=3) (.slice (some ⟨tb,ofs,none⟩) m cap) rfl (by kernel_rfl) (by kernel_rfl) (by kernel_rfl) rfl (fun y h=>h.1) (fun y hy=>by have k0:=R1.out.below hy; have q0:=RowIs.cell k0 0; have qz:=RowIs.lt k0; obtain ⟨q1,qz1⟩:=HT0.out y hy; go_simp) ?_
          simp only [puts]
          refine RC.run_take (i:=4) (.pointer (some ⟨tb,ofs,none⟩)) rfl (by kernel_rfl) (by kernel_rfl) (by kernel_rfl) rfl (fun y h=>h.1) (fun y hy=>by have k0:=R1.out.below hy; have q0:=RowIs.cell k0 0; have qz:=RowIs.lt k0; obtain ⟨q1,qz1⟩:=HT0.out y hy; go_simp) ?_
          simp only [puts]
          refine RC.run_take (i:=5) (.slice (f 0).a n (f 0).cap) rfl (by kernel_rfl) (by kernel_rfl) (by kernel_rfl) rfl (fun y h=>h.1) (fun y hy=>by have k0:=R1.out.below hy; have q0:=RowIs.cell k0 0; have qz:=RowIs.lt k0; obtain ⟨q1,qz1⟩:=HT0.out y hy; go_simp) ?_
          simp only [puts]
          refine RC.run_take (i:=6) (.int .i64 n) rfl (by kernel_rfl) (by kernel_rfl) (by kernel_rfl) rfl (fun y h=>h.1) (fun y hy=>by have k0:=R1.out.below hy; have q0:=RowIs.cell k0 0; have qz:=RowIs.lt k0; obtain ⟨q1,qz1⟩:=HT0.out y hy; go_simp) ?_
          simp only [puts]
          refine RC.run_take (i:=7) (.int .i64 ((2:Int) ^ n)) rfl (by kernel_rfl) (by kernel_rfl) (by kernel_rfl) rfl (fun y h=>h.1) (fun y hy=>by have k0:=R1.out.below hy; have q0:=RowIs.cell k0 0; have qz:=RowIs.lt k0; obtain ⟨q1,qz1⟩:=HT0.out y hy; go_simp) ?_
          simp only [puts]
          refine RC.run_take (i:=8) (.int .i64 ((2 ^ n-1:Nat):Int)) rfl (by kernel_rfl) (by kernel_rfl) (by kernel_rfl) rfl (fun y h=>h.1) (fun y hy=>by have k0:=R1.out.below hy; have q0:=RowIs.cell k0 0; have qz:=RowIs.lt k0; obtain ⟨q1,qz1⟩:=HT0.out y hy; go_simp) ?_
          simp only [puts]
          refine RC.run_take (i:=9) (.pointer (some ⟨w.heap.size,0,none⟩)) rfl (by kernel_rfl) (by kernel_rfl) (by kernel_rfl) rfl (fun y h=>h.1) (fun y hy=>by have k0:=R1.out.below hy; have q0:=RowIs.cell k0 0; have qz:=RowIs.lt k0; obtain ⟨q1,qz1⟩:=HT0.out y hy; go_simp) ?_
          simp only [puts]
          refine RC.run_take (i:=10) (.slice (some ⟨tb,ofs,none⟩) m cap) rfl (by kernel_rfl) (by kernel_rfl) (by kernel_rfl) rfl (fun y h=>h.1) (fun y hy=>by have k0:=R1.out.below hy; have q0:=RowIs.cell k0 0; have qz:=RowIs.lt k0; obtain ⟨q1,qz1⟩:=HT0.out y hy; go_simp) ?_
          simp only [puts]
          refine RC.run_take (i:=11) (.pointer (some ⟨tb,ofs,none⟩)) rfl (by kernel_rfl) (by kernel_rfl) (by kernel_rfl) rfl (fun y h=>h.1) (fun y hy=>by have k0:=R1.out.below hy; have q0:=RowIs.cell k0 0; have qz:=RowIs.lt k0; obtain ⟨q1,qz1⟩:=HT0.out y hy; go_simp) ?_
          simp only [puts]
          refine RC.run_take (i:=12) (.slice (f 0).a n (f 0).cap) rfl (by kernel_rfl) (by kernel_rfl) (by kernel_rfl) rfl (fun y h=>h.1) (fun y hy=>by have k0:=R1.out.below hy; have q0:=RowIs.cell k0 0; have qz:=RowIs.lt k0; obtain ⟨q1,qz1⟩:=HT0.out y hy; go_simp) ?_
          simp only [puts]
          refine RC.run_take (i:=13) (.int .i64 n) rfl (by kernel_rfl) (by kernel_rfl) (by kernel_rfl) rfl (fun y h=>h.1) (fun y hy=>by have k0:=R1.out.below hy; have q0:=RowIs.cell k0 0; have qz:=RowIs.lt k0; obtain ⟨q1,qz1⟩:=HT0.out y hy; go_simp) ?_
          simp only [puts]
          refine RC.runY_float (x:=22) (c:=18) (tx:=15) (z:= .cells #[.int .i64 0, .int .i64 0] 30 (0,0)) (w0:=w34) (g:=8) rfl rfl rfl (fun a y=>by go_simp) (Region.noSelect_spec (by kernel_rfl)) (by kernel_rfl) (by kernel_rfl) (by decide) (fun y h=>h.size) 4 _ _ _ (by kernel_rfl) (fun y h=>h.1) ?_
          refine RC.runY_call (i:=14) (fun v y=> ∃ p1 q1,v=(.slice p1 (List.range n).length q1:Value)∧(Below w34.heap.size w34 y∧True)∧Lst y (List.range n) p1 q1) (by kernel_rfl) (by kernel_rfl) (by kernel_rfl) rfl rfl (fun v y y1 ⟨p1,q1,e,h,h2⟩ hb=>⟨p1,q1,e,⟨(h).1.trans (hb.mono (h).1.size),trivial⟩,Lst.below h2 hb⟩) (fun v y ⟨_,_,_,h,_⟩=>h.1) (fun y hy => ?_) ?_
          ·have hy1:=hy.1
           have hLS:=rListed_c (2 ^ n-1) n y (by omega)
           rw [bitsL_full (by omega)] at hLS
           refine ⟨_, #[.int .i64 ((2 ^ n-1:Nat):Int), .int .i64 n],(Go.Conc.run_call_body (fn:=Try.f50) rfl Try.func50 (by kernel_rfl) (by kernel_rfl)).trans (by simp [Act.eval]),(hLS).mono ?_⟩
           rintro e y1 ⟨⟨p1,q1,rfl,hfact⟩,hb⟩
           exact ⟨⟨_,rfl,p1,q1,rfl,⟨(hy).1.trans (hb.mono (hy).1.size),trivial⟩,hfact⟩,hb⟩
          rintro v ⟨_,p1,q1,rfl, -⟩
          simp only [puts]
          refine RC.runY_mono _ _ _ (fun y=>((Below w34.heap.size w34 y∧True)∧Lst y (List.range n) p1 q1)) _ (by
           rintro y ⟨p1',q1',e,h1,h2⟩
           injection e with e1 _ e2
           subst e1 e2
           exact ⟨h1,h2⟩) ?_
          refine RC.runY_call (i:=15) (fun v y=> ∃ p2 q2,v=(tabV p2 (LA).length q2:Value)∧((Below w34.heap.size w34 y∧True)∧Lst y (List.range n) p1 q1) ∧ ∃ g,Tab y p2 (LA).length g∧(∀ j,(g j).n=(List.range n).length) ∧ ∀ i,(g i).g=fun j=>lossA f ((LA).getD i 0) ((List.range n).getD j 0)) (by kernel_rfl) (by kernel_rfl) (by kernel_rfl) rfl rfl (fun v y y1 ⟨p2,q2,e,h,h2⟩ hb=>⟨p2,q2,e,⟨⟨(h.1).1.trans (hb.mono (h.1).1.size),trivial⟩,Lst.below (h).2 hb⟩,(let ⟨g,h1,h2⟩:=h2; ⟨g,Tab.below h1 hb,h2⟩)⟩) (fun v y ⟨_,_,_,h,_⟩=>h.1.1) (fun y hy => ?_) ?_
          ·have hy1:=hy.1.1
           refine ⟨_, #[tabV (some ⟨tb,ofs,none⟩) m cap, .slice xa (LA).length ca, .slice p1 (List.range n).length q1],(Go.Conc.run_call_body (fn:=Try.f49) rfl Try.func49 (by kernel_rfl) (by kernel_rfl)).trans (by simp [Act.eval]),(rPart_c (some ⟨tb,ofs,none⟩) m n cap f (LA) (List.range n) xa p1 ca q1 y (H1.out.below hy1) KO.out (HA.out.below hy1) (hy.2) SA.out.2 SN.out.2 (Nat.le_trans (rising_len SA.out) hm4) (Nat.le_trans (rising_len SN.out) hn4)).mono ?_⟩
           rintro e y1 ⟨⟨p2,q2,g,rfl, -, -,hT,hl,hg⟩,hb⟩
           have hfact:=(⟨g,hT,hl,hg⟩ : ∃ g,Tab y1 p2 (LA).length g∧(∀ j,(g j).n=(List.range n).length) ∧ ∀ i,(g i).g=fun j=>lossA f ((LA).getD i 0) ((List.range n).getD j 0))
           exact ⟨⟨_,rfl,p2,q2,rfl,⟨⟨(hy.1).1.trans (hb.mono (hy.1).1.size),trivial⟩,Lst.below (hy).2 hb⟩,hfact⟩,hb⟩
          rintro v ⟨_,p2,q2,rfl, -⟩
          simp only [puts]
          refine RC.runY_mono _ _ _ (fun y=>(((Below w34.heap.size w34 y∧True)∧Lst y (List.range n) p1 q1) ∧ ∃ g,Tab y p2 (LA).length g∧(∀ j,(g j).n=(List.range n).length) ∧ ∀ i,(g i).g=fun j=>lossA f ((LA).getD i 0) ((List.range n).getD j 0))) _ (by
           rintro y ⟨p2',q2',e,h1,h2⟩
           injection e with e
           injection e with e
           injection e with e _
           injection e with e1 _ e2
           subst e1 e2
           exact ⟨h1,h2⟩) ?_
          refine RC.runY_call (i:=16) (fun v y=> ∃ r3 k3,v=(.tuple #[.agg #[.int .i64 v1, .int .i64 v2], .slice (some ⟨r3,0,none⟩) (LA).length (LA).length, .slice (some ⟨k3,0,none⟩) (List.range n).length (List.range n).length, .bool true]:Value)∧(((Below w34.heap.size w34 y∧True)∧Lst y (List.range n) p1 q1) ∧ ∃ g,Tab y p2 (LA).length g∧(∀ j,(g j).n=(List.range n).length) ∧ ∀ i,(g i).g=fun j=>lossA f ((LA).getD i 0) ((List.range n).getD j 0))∧True) (by kernel_rfl) (by kernel_rfl) (by kernel_rfl) rfl rfl (fun v y y1 ⟨r3,k3,e,h,h2⟩ hb=>⟨r3,k3,e,⟨⟨⟨(h.1.1).1.trans (hb.mono (h.1.1).1.size),trivial⟩,Lst.below (h.1).2 hb⟩,(let ⟨g,h1,h2⟩:=(h).2; ⟨g,Tab.below h1 hb,h2⟩)⟩,trivial⟩) (fun v y ⟨_,_,_,h,_⟩=>h.1.1.1) (fun y hy => ?_) ?_
          ·have hy1:=hy.1.1.1
           obtain ⟨g,hT,hl,hg⟩:=hy.2
           have hok:=part_okay KO.out SA.out SN.out (by exact hpa) (by rw [List.length_range]; exact hn1) hl hg
           have hvl:=part_val hg (VA.out) VS.out.2.2.2.2.1 VS.out.2.2.2.2.2
           refine ⟨_, #[tabV p2 (LA).length q2],(Go.Conc.run_call_body (fn:=Try.f41) rfl Try.func41 (by kernel_rfl) (by kernel_rfl)).trans (by simp [Act.eval]),(value_c p2 (LA).length (List.range n).length q2 g y hT hok).mono ?_⟩
           rintro e y1 ⟨⟨r3,xr3,k3,xk3, -, -,rfl, -, -⟩,hb⟩
           rw [hvl]
           have hfact:=trivial
           exact ⟨⟨_,rfl,r3,k3,rfl,⟨⟨⟨(hy.1.1).1.trans (hb.mono (hy.1.1).1.size),trivial⟩,Lst.below (hy.1).2 hb⟩,(let ⟨g,h1,h2⟩:=(hy).2; ⟨g,Tab.below h1 hb,h2⟩)⟩,hfact⟩,hb⟩
          rintro v ⟨_,r3,k3,rfl, -⟩
          simp only [puts]
          refine RC.runY_mono _ _ _ (fun y=>((((Below w34.heap.size w34 y∧True)∧Lst y (List.range n) p1 q1) ∧ ∃ g,Tab y p2 (LA).length g∧(∀ j,(g j).n=(List.range n).length) ∧ ∀ i,(g i).g=fun j=>lossA f ((LA).getD i 0) ((List.range n).getD j 0))∧True)) _ (by
           rintro y ⟨r3',k3',e,h1,h2⟩
           simp only [Value.tuple.injEq,Array.mk.injEq,List.cons.injEq,Value.slice.injEq,Option.some.injEq,Addr.mk.injEq,true_and,and_true] at e
           obtain ⟨rfl,rfl⟩:=e
           exact ⟨h1,h2⟩) ?_
          refine RC.runY_quiet (i:=17) (.tuple #[.agg #[.int .i64 v1, .int .i64 v2], .slice (some ⟨r3,0,none⟩) (LA).length (LA).length, .slice (some ⟨k3,0,none⟩) (List.range n).length (List.range n).length, .bool true]) (by kernel_rfl) (by kernel_rfl) (by kernel_rfl) rfl (quiet_read rfl (fun y hy=>by go_simp)) ?_
          simp only [puts]
          refine ⟨?_,fun b hb0 => ?_⟩
          ·skip
           refine RC.run_take (i:=18) (.agg #[.int .i64 v1, .int .i64 v2]) rfl (by kernel_rfl) (by kernel_rfl) (by kernel_rfl) rfl (fun y h=>h.1.1.1.1) (fun y hy=>by go_simp) ?_
           simp only [puts]
           refine RC.run_take (i:=19) (.slice (some ⟨r3,0,none⟩) (LA).length (LA).length) rfl (by kernel_rfl) (by kernel_rfl) (by kernel_rfl) rfl (fun y h=>h.1.1.1.1) (fun y hy=>by go_simp) ?_
           simp only [puts]
           refine RC.run_take (i:=20) (.slice (some ⟨k3,0,none⟩) (List.range n).length (List.range n).length) rfl (by kernel_rfl) (by kernel_rfl) (by kernel_rfl) rfl (fun y h=>h.1.1.1.1) (fun y hy=>by go_simp) ?_
           simp only [puts]
           refine RC.run_take (i:=21) (.bool true) rfl (by kernel_rfl) (by kernel_rfl) (by kernel_rfl) rfl (fun y h=>h.1.1.1.1) (fun y hy=>by go_simp) ?_
           simp only [puts]
           refine RC.run_only (i:=22) (by kernel_rfl) (RC.at_make (w0:=w34) (t:=15) (z:= .cells #[.int .i64 0, .int .i64 0] 30 (0,0)) ptrTo (fun _=>False) ptrTo_inj rfl rfl rfl (fun y _=>by go_simp) (fun y h=>h.1.1.1.1.size) (fun _ _ _ h=>h.elim) ?_)
           intro b hb0 _
           simp only [puts]
           refine RC.run_store (i:=23) (fun y=>Below w34.heap.size w34 y∧RowIs y b #[.int .i64 v1, .int .i64 v2] 30) (by kernel_rfl) rfl rfl (fun y y1 h hb=>⟨h.1.trans (hb.mono h.1.size),h.2.below hb⟩) (fun y h=>h.1) (fun y hy => ?_) ?_
           ·obtain ⟨g0,g2⟩:=hy
            have g1:=g0.1.1.1.1
            have r4:RowIs y b #[.int .i64 0, .int .i64 0] 30:=g2
            have q0:=r4.cell 0
            have q1:=r4.cell 1
            have z0:=r4.frozen 0
            have z1:=r4.frozen 1
            have qz:=r4.lt
            simp at q0 q1
            exact ⟨(y.setCell ⟨b,0,none⟩ (.int .i64 v1)).setCell ⟨b,1,none⟩ (.int .i64 v2),by go_simp,(g1.setCell (p:=⟨b,0,none⟩) hb0 _).setCell (p:=⟨b,1,none⟩) hb0 _,(r4.set 0 _).set 1 _⟩
           simp only [puts]
           refine RC.run_take (i:=24) (.slice (some ⟨r3,0,none⟩) (LA).length (LA).length) rfl (by kernel_rfl) (by kernel_rfl) (by kernel_rfl) rfl (fun y h=>h.1) (fun y hy=>by go_simp) ?_
           simp only [puts]
           refine RC.run_take (i:=25) (.slice (some ⟨k3,0,none⟩) (List.range n).length (List.range n).length) rfl (by kernel_rfl) (by kernel_rfl) (by kernel_rfl) rfl (fun y h=>h.1) (fun y hy=>by go_simp) ?_
           simp only [puts]
           refine RC.run_take (i:=26) (.bool true) rfl (by kernel_rfl) (by kernel_rfl) (by kernel_rfl) rfl (fun y h=>h.1) (fun y hy=>by go_simp) ?_
           simp only [puts]
           exact ⟨by kernel_rfl,fun y hy=>fin b r3 k3 p1 q1 p2 q2 y hy⟩
          ·skip
           refine RC.run_take (i:=18) (.agg #[.int .i64 v1, .int .i64 v2]) rfl (by kernel_rfl) (by kernel_rfl) (by kernel_rfl) rfl (fun y h=>h.1.1.1.1.1) (fun y hy=>by go_simp) ?_
           simp only [puts]
           refine RC.run_take (i:=19) (.slice (some ⟨r3,0,none⟩) (LA).length (LA).length) rfl (by kernel_rfl) (by kernel_rfl) (by kernel_rfl) rfl (fun y h=>h.1.1.1.1.1) (fun y hy=>by go_simp) ?_
           simp only [puts]
           refine RC.run_take (i:=20) (.slice (some ⟨k3,0,none⟩) (List.range n).length (List.range n).length) rfl (by kernel_rfl) (by kernel_rfl) (by kernel_rfl) rfl (fun y h=>h.1.1.1.1.1) (fun y hy=>by go_simp) ?_
           simp only [puts]
           refine RC.run_take (i:=21) (.bool true) rfl (by kernel_rfl) (by kernel_rfl) (by kernel_rfl) rfl (fun y h=>h.1.1.1.1.1) (fun y hy=>by go_simp) ?_
           simp only [puts]
           refine RC.run_store (i:=23) (fun y=>Below w34.heap.size w34 y∧RowIs y b #[.int .i64 v1, .int .i64 v2] 30) (by kernel_rfl) rfl rfl (fun y y1 h hb=>⟨h.1.trans (hb.mono h.1.size),h.2.below hb⟩) (fun y h=>h.1) (fun y hy => ?_) ?_
           ·obtain ⟨g0,g2⟩:=hy
            have g1:=g0.1.1.1.1
            have r4:RowIs y b #[.int .i64 0, .int .i64 0] 30:=g2
            have q0:=r4.cell 0
            have q1:=r4.cell 1
            have z0:=r4.frozen 0
            have z1:=r4.frozen 1
            have qz:=r4.lt
            simp at q0 q1
            exact ⟨(y.setCell ⟨b,0,none⟩ (.int .i64 v1)).setCell ⟨b,1,none⟩ (.int .i64 v2),by go_simp,(g1.setCell (p:=⟨b,0,none⟩) hb0 _).setCell (p:=⟨b,1,none⟩) hb0 _,(r4.set 0 _).set 1 _⟩
           simp only [puts]
           refine RC.run_take (i:=24) (.slice (some ⟨r3,0,none⟩) (LA).length (LA).length) rfl (by kernel_rfl) (by kernel_rfl) (by kernel_rfl) rfl (fun y h=>h.1) (fun y hy=>by go_simp) ?_
           simp only [puts]
           refine RC.run_take (i:=25) (.slice (some ⟨k3,0,none⟩) (List.range n).length (List.range n).length) rfl (by kernel_rfl) (by kernel_rfl) (by kernel_rfl) rfl (fun y h=>h.1) (fun y hy=>by go_simp) ?_
           simp only [puts]
           refine RC.run_take (i:=26) (.bool true) rfl (by kernel_rfl) (by kernel_rfl) (by kernel_rfl) rfl (fun y h=>h.1) (fun y hy=>by go_simp) ?_
           simp only [puts]
           exact ⟨by kernel_rfl,fun y hy=>fin b r3 k3 p1 q1 p2 q2 y hy⟩
         case fin=>
          rintro b38 x39 x40 x41 x42 x43 x44 w37 ⟨hbq,hrow⟩
          replace R1:=Lib.hid (RowIs.below R1.out hbq)
          replace H1:=Lib.hid (H1.out.below hbq)
          replace Ggr:=Lib.hid (RowIs.below Ggr.out hbq)
          replace Ggk:=Lib.hid (RowIs.below Ggk.out hbq)
          replace QV:=Lib.hid (RowIs.below QV.out hbq)
          replace HA:=Lib.hid (HA.out.below hbq)
          replace HB:=Lib.hid (HB.out.below hbq)
          replace HL:=Lib.hid (HL.out.below hbq)
          replace B1:=Lib.hid (bup B1.out hbq)
          have QW:=Lib.hid hrow
          clear hbq hrow
          have cc45:w37.cell? ⟨w.heap.size,0,none⟩=some (.slice (some ⟨tb,ofs,none⟩) m cap):=RowIs.cell R1.out 0
          have zz46:w.heap.size<w37.heap.size:=RowIs.lt R1.out
          go_wp2_with fail
          clear cc45 zz46
          apply cutV (fun b y=>Below w37.heap.size w37 y∧RowIs y b #[.int .i64 v1, .int .i64 v2] 30)
          case main=>
           intro fin
           refine RC.wp_region_runF (C:=fun y=>Below w37.heap.size w37 y) (fun y=>Below w37.heap.size w37 y∧True) (by kernel_rfl) (fun _ _ h hb=>⟨h.1.trans (hb.mono h.1.size),trivial⟩) ⟨Below.refl _ _,trivial⟩ ?_
           change RC.Run _ _ _ _ _ 23 _ _ _
           refine RC.run_take (i:=0) (tabV (some ⟨tb,ofs,none⟩) m cap) rfl (by kernel_rfl) (by kernel_rfl) (by kernel_rfl) rfl (fun y h=>h.1) (fun y hy=>by have k0:=R1.out.below hy; have q0:=RowIs.cell k0 0; have qz:=RowIs.lt k0; go_simp) ?_
           simp only [puts]
           refine RC.run_take (i:=1) (.pointer (some ⟨w.heap.size,0,none⟩)) rfl (by kernel_rfl) (by kernel_rfl) (by kernel_rfl) rfl (fun y h=>h.1) (fun y hy=>by have k0:=R1.out.below hy; have q0:=RowIs.cell k0 0; have qz:=RowIs.lt k0; go_simp) ?_
           simp only [puts]
           refine RC.run_take (i:=2) (.slice (some ⟨tb,ofs,none⟩) m cap) rfl (by kernel_rfl) (by kernel_rfl) (by kernel_rfl) rfl (fun y h=>h.1) (fun y hy=>by have k0:=R1.out.below hy; have q0:=RowIs.cell k0 0; have qz:=RowIs.lt k0; go_simp) ?_
           simp only [puts]
           refine RC.run_take (i:=3) (.int .i64 m) rfl (by kernel_rfl) (by kernel_rfl) (by kernel_rfl) rfl (fun y h=>h.1) (fun y hy=>by have k0:=R1.out.below hy; have q0:=RowIs.cell k0 0; have qz:=RowIs.lt k0; go_simp) ?_
           simp only [puts]
           refine RC.run_take (i:=4) (.int .i64 ((2:Int) ^ m)) rfl (by kernel_rfl) (by kernel_rfl) (by kernel_rfl) rfl (fun y h=>h.1) (fun y hy=>by have k0:=R1.out.below hy; have q0:=RowIs.cell k0 0; have qz:=RowIs.lt k0; go_simp) ?_
           simp only [puts]
           refine RC.run_take (i:=5) (.int .i64 ((2 ^ m-1:Nat):Int)) rfl (by kernel_rfl) (by kernel_rfl) (by kernel_rfl) rfl (fun y h=>h.1) (fun y hy=>by have k0:=R1.out.below hy; have q0:=RowIs.cell k0 0; have qz:=RowIs.lt k0; go_simp) ?_
           simp only [puts]
           refine RC.run_take (i:=6) (.pointer (some ⟨w.heap.size,0,none⟩)) rfl (by kernel_rfl) (by kernel_rfl) (by kernel_rfl) rfl (fun y h=>h.1) (fun y hy=>by have k0:=R1.out.below hy; have q0:=RowIs.cell k0 0; have qz:=RowIs.lt k0; go_simp) ?_
           simp only [puts]
           refine RC.run_take (i:=7) (.slice (some ⟨tb,ofs,none⟩) m cap) rfl (by kernel_rfl) (by kernel_rfl) (by kernel_rfl) rfl (fun y h=>h.1) (fun y hy=>by have k0:=R1.out.below hy; have q0:=RowIs.cell k0 0; have qz:=RowIs.lt k0; go_simp) ?_
           simp only [puts]
           refine RC.run_take (i:=8) (.int .i64 m) rfl (by kernel_rfl) (by kernel_rfl) (by kernel_rfl) rfl (fun y h=>h.1) (fun y hy=>by have k0:=R1.out.below hy; have q0:=RowIs.cell k0 0; have qz:=RowIs.lt k0; go_simp) ?_
           simp only [puts]
           refine RC.run_take (i:=10) (.slice xb LB.length cb) rfl (by kernel_rfl) (by kernel_rfl) (by kernel_rfl) rfl (fun y h=>h.1) (fun y hy=>by have k0:=R1.out.below hy; have q0:=RowIs.cell k0 0; have qz:=RowIs.lt k0; go_simp) ?_
           simp only [puts]
           refine RC.runY_float (x:=18) (c:=14) (tx:=18) (z:= .cells #[.int .i64 0, .int .i64 0] 30 (0,0)) (w0:=w37) (g:=8) rfl rfl rfl (fun a y=>by go_simp) (Region.noSelect_spec (by kernel_rfl)) (by kernel_rfl) (by kernel_rfl) (by decide) (fun y h=>h.size) 4 _ _ _ (by kernel_rfl) (fun y h=>h.1) ?_
           refine RC.runY_call (i:=9) (fun v y=> ∃ p1 q1,v=(.slice p1 (List.range m).length q1:Value)∧(Below w37.heap.size w37 y∧True)∧Lst y (List.range m) p1 q1) (by kernel_rfl) (by kernel_rfl) (by kernel_rfl) rfl rfl (fun v y y1 ⟨p1,q1,e,h,h2⟩ hb=>⟨p1,q1,e,⟨(h).1.trans (hb.mono (h).1.size),trivial⟩,Lst.below h2 hb⟩) (fun v y ⟨_,_,_,h,_⟩=>h.1) (fun y hy => ?_) ?_
           ·have hy1:=hy.1
            have hLS:=rListed_c (2 ^ m-1) m y (by omega)
            rw [bitsL_full (by omega)] at hLS
            refine ⟨_, #[.int .i64 ((2 ^ m-1:Nat):Int), .int .i64 m],(Go.Conc.run_call_body (fn:=Try.f50) rfl Try.func50 (by kernel_rfl) (by kernel_rfl)).trans (by simp [Act.eval]),(hLS).mono ?_⟩
            rintro e y1 ⟨⟨p1,q1,rfl,hfact⟩,hb⟩
            exact ⟨⟨_,rfl,p1,q1,rfl,⟨(hy).1.trans (hb.mono (hy).1.size),trivial⟩,hfact⟩,hb⟩
           rintro v ⟨_,p1,q1,rfl, -⟩
           simp only [puts]
           refine RC.runY_mono _ _ _ (fun y=>((Below w37.heap.size w37 y∧True)∧Lst y (List.range m) p1 q1)) _ (by
            rintro y ⟨p1',q1',e,h1,h2⟩
            injection e with e1 _ e2
            subst e1 e2
            exact ⟨h1,h2⟩) ?_
           refine RC.runY_call (i:=11) (fun v y=> ∃ p2 q2,v=(tabV p2 (List.range m).length q2:Value)∧((Below w37.heap.size w37 y∧True)∧Lst y (List.range m) p1 q1) ∧ ∃ g,Tab y p2 (List.range m).length g∧(∀ j,(g j).n=(LB).length) ∧ ∀ i,(g i).g=fun j=>lossA f ((List.range m).getD i 0) ((LB).getD j 0)) (by kernel_rfl) (by kernel_rfl) (by kernel_rfl) rfl rfl (fun v y y1 ⟨p2,q2,e,h,h2⟩ hb=>⟨p2,q2,e,⟨⟨(h.1).1.trans (hb.mono (h.1).1.size),trivial⟩,Lst.below (h).2 hb⟩,(let ⟨g,h1,h2⟩:=h2; ⟨g,Tab.below h1 hb,h2⟩)⟩) (fun v y ⟨_,_,_,h,_⟩=>h.1.1) (fun y hy => ?_) ?_
           ·have hy1:=hy.1.1
            refine ⟨_, #[tabV (some ⟨tb,ofs,none⟩) m cap, .slice p1 (List.range m).length q1, .slice xb (LB).length cb],(Go.Conc.run_call_body (fn:=Try.f49) rfl Try.func49 (by kernel_rfl) (by kernel_rfl)).trans (by simp [Act.eval]),(rPart_c (some ⟨tb,ofs,none⟩) m n cap f (List.range m) (LB) p1 xb q1 cb y (H1.out.below hy1) KO.out (hy.2) (HB.out.below hy1) SM.out.2 SB.out.2 (Nat.le_trans (rising_len SM.out) hm4) (Nat.le_trans (rising_len SB.out) hn4)).mono ?_⟩
            rintro e y1 ⟨⟨p2,q2,g,rfl, -, -,hT,hl,hg⟩,hb⟩
            have hfact:=(⟨g,hT,hl,hg⟩ : ∃ g,Tab y1 p2 (List.range m).length g∧(∀ j,(g j).n=(LB).length) ∧ ∀ i,(g i).g=fun j=>lossA f ((List.range m).getD i 0) ((LB).getD j 0))
            exact ⟨⟨_,rfl,p2,q2,rfl,⟨⟨(hy.1).1.trans (hb.mono (hy.1).1.size),trivial⟩,Lst.below (hy).2 hb⟩,hfact⟩,hb⟩
           rintro v ⟨_,p2,q2,rfl, -⟩
           simp only [puts]
           refine RC.runY_mono _ _ _ (fun y=>(((Below w37.heap.size w37 y∧True)∧Lst y (List.range m) p1 q1) ∧ ∃ g,Tab y p2 (List.range m).length g∧(∀ j,(g j).n=(LB).length) ∧ ∀ i,(g i).g=fun j=>lossA f ((List.range m).getD i 0) ((LB).getD j 0))) _ (by
            rintro y ⟨p2',q2',e,h1,h2⟩
            injection e with e
            injection e with e
            injection e with e _
            injection e with e1 _ e2
            subst e1 e2
            exact ⟨h1,h2⟩) ?_
           refine RC.runY_call (i:=12) (fun v y=> ∃ r3 k3,v=(.tuple #[.agg #[.int .i64 v1, .int .i64 v2], .slice (some ⟨r3,0,none⟩) (List.range m).length (List.range m).length, .slice (some ⟨k3,0,none⟩) (LB).length (LB).length, .bool true]:Value)∧(((Below w37.heap.size w37 y∧True)∧Lst y (List.range m) p1 q1) ∧ ∃ g,Tab y p2 (List.range m).length g∧(∀ j,(g j).n=(LB).length) ∧ ∀ i,(g i).g=fun j=>lossA f ((List.range m).getD i 0) ((LB).getD j 0))∧True) (by kernel_rfl) (by kernel_rfl) (by kernel_rfl) rfl rfl (fun v y y1 ⟨r3,k3,e,h,h2⟩ hb=>⟨r3,k3,e,⟨⟨⟨(h.1.1).1.trans (hb.mono (h.1.1).1.size),trivial⟩,Lst.below (h.1).2 hb⟩,(let ⟨g,h1,h2⟩:=(h).2; ⟨g,Tab.below h1 hb,h2⟩)⟩,trivial⟩) (fun v y ⟨_,_,_,h,_⟩=>h.1.1.1) (fun y hy => ?_) ?_
           ·have hy1:=hy.1.1.1
            obtain ⟨g,hT,hl,hg⟩:=hy.2
            have hok:=part_okay KO.out SM.out SB.out (by rw [List.length_range]; exact hm1) (by exact hpb) hl hg
            have hvl:=part_val hg (VB.out) VS.out.2.2.2.2.1 VS.out.2.2.2.2.2
            refine ⟨_, #[tabV p2 (List.range m).length q2],(Go.Conc.run_call_body (fn:=Try.f41) rfl Try.func41 (by kernel_rfl) (by kernel_rfl)).trans (by simp [Act.eval]),(value_c p2 (List.range m).length (LB).length q2 g y hT hok).mono ?_⟩
            rintro e y1 ⟨⟨r3,xr3,k3,xk3, -, -,rfl, -, -⟩,hb⟩
            rw [hvl]
            have hfact:=trivial
            exact ⟨⟨_,rfl,r3,k3,rfl,⟨⟨⟨(hy.1.1).1.trans (hb.mono (hy.1.1).1.size),trivial⟩,Lst.below (hy.1).2 hb⟩,(let ⟨g,h1,h2⟩:=(hy).2; ⟨g,Tab.below h1 hb,h2⟩)⟩,hfact⟩,hb⟩
           rintro v ⟨_,r3,k3,rfl, -⟩
           simp only [puts]
           refine RC.runY_mono _ _ _ (fun y=>((((Below w37.heap.size w37 y∧True)∧Lst y (List.range m) p1 q1) ∧ ∃ g,Tab y p2 (List.range m).length g∧(∀ j,(g j).n=(LB).length) ∧ ∀ i,(g i).g=fun j=>lossA f ((List.range m).getD i 0) ((LB).getD j 0))∧True)) _ (by
            rintro y ⟨r3',k3',e,h1,h2⟩
            simp only [Value.tuple.injEq,Array.mk.injEq,List.cons.injEq,Value.slice.injEq,Option.some.injEq,Addr.mk.injEq,true_and,and_true] at e
            obtain ⟨rfl,rfl⟩:=e
            exact ⟨h1,h2⟩) ?_
           refine RC.runY_quiet (i:=13) (.tuple #[.agg #[.int .i64 v1, .int .i64 v2], .slice (some ⟨r3,0,none⟩) (List.range m).length (List.range m).length, .slice (some ⟨k3,0,none⟩) (LB).length (LB).length, .bool true]) (by kernel_rfl) (by kernel_rfl) (by kernel_rfl) rfl (quiet_read rfl (fun y hy=>by go_simp)) ?_
           simp only [puts]
           refine ⟨?_,fun b hb0 => ?_⟩
           ·skip
            refine RC.run_take (i:=14) (.agg #[.int .i64 v1, .int .i64 v2]) rfl (by kernel_rfl) (by kernel_rfl) (by kernel_rfl) rfl (fun y h=>h.1.1.1.1) (fun y hy=>by go_simp) ?_
            simp only [puts]
            refine RC.run_take (i:=15) (.slice (some ⟨r3,0,none⟩) (List.range m).length (List.range m).length) rfl (by kernel_rfl) (by kernel_rfl) (by kernel_rfl) rfl (fun y h=>h.1.1.1.1) (fun y hy=>by go_simp) ?_
            simp only [puts]
            refine RC.run_take (i:=16) (.slice (some ⟨k3,0,none⟩) (LB).length (LB).length) rfl (by kernel_rfl) (by kernel_rfl) (by kernel_rfl) rfl (fun y h=>h.1.1.1.1) (fun y hy=>by go_simp) ?_
            simp only [puts]
            refine RC.run_take (i:=17) (.bool true) rfl (by kernel_rfl) (by kernel_rfl) (by kernel_rfl) rfl (fun y h=>h.1.1.1.1) (fun y hy=>by go_simp) ?_
            simp only [puts]
            refine RC.run_only (i:=18) (by kernel_rfl) (RC.at_make (w0:=w37) (t:=18) (z:= .cells #[.int .i64 0, .int .i64 0] 30 (0,0)) ptrTo (fun _=>False) ptrTo_inj rfl rfl rfl (fun y _=>by go_simp) (fun y h=>h.1.1.1.1.size) (fun _ _ _ h=>h.elim) ?_)
            intro b hb0 _
            simp only [puts]
            refine RC.run_store (i:=19) (fun y=>Below w37.heap.size w37 y∧RowIs y b #[.int .i64 v1, .int .i64 v2] 30) (by kernel_rfl) rfl rfl (fun y y1 h hb=>⟨h.1.trans (hb.mono h.1.size),h.2.below hb⟩) (fun y h=>h.1) (fun y hy => ?_) ?_
            ·obtain ⟨g0,g2⟩:=hy
             have g1:=g0.1.1.1.1
             have r4:RowIs y b #[.int .i64 0, .int .i64 0] 30:=g2
             have q0:=r4.cell 0
             have q1:=r4.cell 1
             have z0:=r4.frozen 0
             have z1:=r4.frozen 1
             have qz:=r4.lt
             simp at q0 q1
             exact ⟨(y.setCell ⟨b,0,none⟩ (.int .i64 v1)).setCell ⟨b,1,none⟩ (.int .i64 v2),by go_simp,(g1.setCell (p:=⟨b,0,none⟩) hb0 _).setCell (p:=⟨b,1,none⟩) hb0 _,(r4.set 0 _).set 1 _⟩
            simp only [puts]
            refine RC.run_take (i:=20) (.slice (some ⟨r3,0,none⟩) (List.range m).length (List.range m).length) rfl (by kernel_rfl) (by kernel_rfl) (by kernel_rfl) rfl (fun y h=>h.1) (fun y hy=>by go_simp) ?_
            simp only [puts]
            refine RC.run_take (i:=21) (.slice (some ⟨k3,0,none⟩) (LB).length (LB).length) rfl (by kernel_rfl) (by kernel_rfl) (by kernel_rfl) rfl (fun y h=>h.1) (fun y hy=>by go_simp) ?_
            simp only [puts]
            refine RC.run_take (i:=22) (.bool true) rfl (by kernel_rfl) (by kernel_rfl) (by kernel_rfl) rfl (fun y h=>h.1) (fun y hy=>by go_simp) ?_
            simp only [puts]
            exact ⟨by kernel_rfl,fun y hy=>fin b r3 k3 p1 q1 p2 q2 y hy⟩
           ·skip
            refine RC.run_take (i:=14) (.agg #[.int .i64 v1, .int .i64 v2]) rfl (by kernel_rfl) (by kernel_rfl) (by kernel_rfl) rfl (fun y h=>h.1.1.1.1.1) (fun y hy=>by go_simp) ?_
            simp only [puts]
            refine RC.run_take (i:=15) (.slice (some ⟨r3,0,none⟩) (List.range m).length (List.range m).length) rfl (by kernel_rfl) (by kernel_rfl) (by kernel_rfl) rfl (fun y h=>h.1.1.1.1.1) (fun y hy=>by go_simp) ?_
            simp only [puts]
            refine RC.run_take (i:=16) (.slice (some ⟨k3,0,none⟩) (LB).length (LB).length) rfl (by kernel_rfl) (by kernel_rfl) (by kernel_rfl) rfl (fun y h=>h.1.1.1.1.1) (fun y hy=>by go_simp) ?_
            simp only [puts]
            refine RC.run_take (i:=17) (.bool true) rfl (by kernel_rfl) (by kernel_rfl) (by kernel_rfl) rfl (fun y h=>h.1.1.1.1.1) (fun y hy=>by go_simp) ?_
            simp only [puts]
            refine RC.run_store (i:=19) (fun y=>Below w37.heap.size w37 y∧RowIs y b #[.int .i64 v1, .int .i64 v2] 30) (by kernel_rfl) rfl rfl (fun y y1 h hb=>⟨h.1.trans (hb.mono h.1.size),h.2.below hb⟩) (fun y h=>h.1) (fun y hy => ?_) ?_
            ·obtain ⟨g0,g2⟩:=hy
             have g1:=g0.1.1.1.1
             have r4:RowIs y b #[.int .i64 0, .int .i64 0] 30:=g2
             have q0:=r4.cell 0
             have q1:=r4.cell 1
             have z0:=r4.frozen 0
             have z1:=r4.frozen 1
             have qz:=r4.lt
             simp at q0 q1
             exact ⟨(y.setCell ⟨b,0,none⟩ (.int .i64 v1)).setCell ⟨b,1,none⟩ (.int .i64 v2),by go_simp,(g1.setCell (p:=⟨b,0,none⟩) hb0 _).setCell (p:=⟨b,1,none⟩) hb0 _,(r4.set 0 _).set 1 _⟩
            simp only [puts]
            refine RC.run_take (i:=20) (.slice (some ⟨r3,0,none⟩) (List.range m).length (List.range m).length) rfl (by kernel_rfl) (by kernel_rfl) (by kernel_rfl) rfl (fun y h=>h.1) (fun y hy=>by go_simp) ?_
            simp only [puts]
            refine RC.run_take (i:=21) (.slice (some ⟨k3,0,none⟩) (LB).length (LB).length) rfl (by kernel_rfl) (by kernel_rfl) (by kernel_rfl) rfl (fun y h=>h.1) (fun y hy=>by go_simp) ?_
            simp only [puts]
            refine RC.run_take (i:=22) (.bool true) rfl (by kernel_rfl) (by kernel_rfl) (by kernel_rfl) rfl (fun y h=>h.1) (fun y hy=>by go_simp) ?_
            simp only [puts]
            exact ⟨by kernel_rfl,fun y hy=>fin b r3 k3 p1 q1 p2 q2 y hy⟩
          case fin=>
           rintro b48 x49 x50 x51 x52 x53 x54 w47 ⟨hbq,hrow⟩
           replace R1:=Lib.hid (RowIs.below R1.out hbq)
           replace H1:=Lib.hid (H1.out.below hbq)
           replace Ggr:=Lib.hid (RowIs.below Ggr.out hbq)
           replace Ggk:=Lib.hid (RowIs.below Ggk.out hbq)
           replace QV:=Lib.hid (RowIs.below QV.out hbq)
           replace HA:=Lib.hid (HA.out.below hbq)
           replace HB:=Lib.hid (HB.out.below hbq)
           replace HL:=Lib.hid (HL.out.below hbq)
           replace QW:=Lib.hid (RowIs.below QW.out hbq)
           replace B1:=Lib.hid (bup B1.out hbq)
           have QX:=Lib.hid hrow
           clear hbq hrow
           have cc55:w47.cell? ⟨w12.heap.size,0,none⟩=some (.int .i64 v1):=RowIs.cell QV.out 0
           have cc56:w47.cell? ⟨w12.heap.size,1,none⟩=some (.int .i64 v2):=RowIs.cell QV.out 1
           have zz57:w12.heap.size<w47.heap.size:=RowIs.lt QV.out
           have cc58:w47.cell? ⟨b38,0,none⟩=some (.int .i64 v1):=RowIs.cell QW.out 0
           have cc59:w47.cell? ⟨b38,1,none⟩=some (.int .i64 v2):=RowIs.cell QW.out 1
           have zz60:b38<w47.heap.size:=RowIs.lt QW.out
           have cc61:w47.cell? ⟨b48,0,none⟩=some (.int .i64 v1):=RowIs.cell QX.out 0
           have cc62:w47.cell? ⟨b48,1,none⟩=some (.int .i64 v2):=RowIs.cell QX.out 1
           have zz63:b48<w47.heap.size:=RowIs.lt QX.out
           have eq64 : ∀ x,(Op.equalIn 10000 30 (.agg #[.int .i64 v1, .int .i64 v2]) (.agg #[.int .i64 v1, .int .i64 v2])).run Try.prog x = .ok true x:=fun x=>(eqRat v1 v2 v1 v2 x).trans (by simp)
           go_wp2_with fail
           clear cc55 cc56 zz57 cc58 cc59 zz60 cc61 cc62 zz63 eq64
           refine (works_c _).mono ?_
           rintro e w65 ⟨rfl,hbq⟩
           go_wp2_with fail
           go_ret
           exact ⟨rfl,bup B1.out hbq⟩
end Go.Proofs.Ytkbbhihndigmeaa
