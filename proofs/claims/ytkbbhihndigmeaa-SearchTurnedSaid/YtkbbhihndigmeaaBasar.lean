/- Plain mathematics: the document's determinant, by numbers; the document's part of a row is the program's. -/
import Derived.Test.YtkbbhihndigmeaaProg
import Derived.Test.YtkbbhihndigmeaaBasae
import Derived.Test.YtkbbhihndigmeaaBasaf
import Derived.Test.YtkbbhihndigmeaaBasag
import Derived.Shelf.Abstract
import Derived.Shelf.RegionOpen
import Derived.Conc.Own4
import Derived.Test.YtkbbhihndigmeaaBasaa
import Derived.Test.YtkbbhihndigmeaaBasac
import Derived.Test.YtkbbhihndigmeaaBasap
import Derived.Test.YtkbbhihndigmeaaBasad
import Derived.Test.YtkbbhihndigmeaaBasai
import Derived.StillTail
import Derived.WalkKit
import Derived.Deep.Quiet
import Derived.LoopN
import Derived.Test.YtkbbhihndigmeaaBasaj
namespace Go.Proofs.Ytkbbhihndigmeaa
def skip (c j:Nat):Nat:=if j<c then j else j+1
theorem skip_lt {c j n:Nat} (h:j<n):skip c j<n+1:=by unfold skip; split <;> omega
theorem getElem_skip {α : Type} (l:List α) (c j:Nat):(l.eraseIdx c)[j]? = l[skip c j]? := by
 rw [List.getElem?_eraseIdx]
 unfold skip
 split <;> rfl
def detN:Nat→(Nat→Nat→Int)→Int
 | 0,_=>1
 | n+1,M=>altSum (fun c=>M 0 c*detN n (fun i j=>M (i+1) (skip c j))) (n+1)
theorem tabM_row (M:Nat→Nat→Int) (k a:Nat):(tabM M k)[a]? = if a<k then some ((List.range k).map fun b=>M a b) else none:=by
 unfold tabM
 rw [List.getElem?_map]
 by_cases h:a<k
 ·rw [List.getElem?_range h,if_pos h]; rfl
 ·rw [List.getElem?_eq_none (by simp; omega),if_neg h]; rfl
theorem tabM_len (M:Nat→Nat→Int) (k:Nat):(tabM M k).length=k:=by simp [tabM]
theorem detR_N : ∀ (n:Nat) (M:Nat→Nat→Int),detR (tabM M n) n=detN n M
 | 0,_=>by simp [detR,detN]
 | n+1,M=>by
   rw [detR,detN]
   refine altSum_same fun c hc => ?_
   rw [← detR_N n]
   have h1:(tabM M (n+1)).headD []=(List.range (n+1)).map fun b=>M 0 b:=by simp [tabM,List.range_succ_eq_map]
   have h2:((tabM M (n+1)).tail.map fun r=>r.eraseIdx c)=tabM (fun i j=>M (i+1) (skip c j)) n:=by
    apply List.ext_getElem?
    intro i
    rw [List.getElem?_map,List.getElem?_tail,tabM_row,tabM_row]
    by_cases hi:i<n
    ·rw [if_pos (by omega),if_pos hi,Option.map_some]
     congr 1
     apply List.ext_getElem?
     intro j
     rw [getElem_skip,List.getElem?_map,List.getElem?_map]
     by_cases hj:j<n
     ·rw [List.getElem?_range (skip_lt hj),List.getElem?_range hj]
      rfl
     ·rw [List.getElem?_eq_none (by simp; unfold skip; split <;> omega),List.getElem?_eq_none (by simp; omega)]
      rfl
    ·rw [if_neg (by omega),if_neg hi]
     rfl
   rw [h1,h2]
   congr 1
   rw [List.getD_eq_getElem?_getD,List.getElem?_map,List.getElem?_range hc]
   rfl
def dB:Nat→Int
 | 0=>1
 | k+1=>200*dB k*((k:Int)+1)
theorem dB_pos : ∀ k,0<dB k
 | 0=>by decide
 | k+1=>Int.mul_pos (Int.mul_pos (by decide) (dB_pos k)) (by omega)
theorem dB_3 {k:Nat} (h:k≤3):dB k≤48000000:=by
 have:k=0∨k=1∨k=2∨k=3:=by omega
 rcases this with rfl | rfl | rfl | rfl <;> decide
def Near (k:Nat) (M:Nat→Nat→Int):Prop:= ∀ i,i<k → ∀ j,j<k → -200≤M i j∧M i j≤200
theorem Near.minor {k c:Nat} {M:Nat→Nat→Int} (h:Near (k+1) M):Near k fun i j=>M (i+1) (skip c j):=fun i hi j hj=>h (i+1) (by omega) _ (skip_lt hj)
theorem detN_bd : ∀ (k:Nat) (M:Nat→Nat→Int),Near k M → -(dB k)≤detN k M∧detN k M≤dB k
 | 0,_,_=>by simp [detN,dB]
 | k+1,M,h=>by
   have h1 : ∀ c,c<k+1 → -(200*dB k)≤M 0 c*detN k (fun i j=>M (i+1) (skip c j))∧M 0 c*detN k (fun i j=>M (i+1) (skip c j))≤200*dB k:=fun c hc=>
    mul_ab (h 0 (by omega) c hc) (detN_bd k _ h.minor) (by decide)
   have:=altSum_bd (h:=fun c=>M 0 c*detN k (fun i j=>M (i+1) (skip c j))) h1 (k+1) (Nat.le_refl _)
   rw [detN,dB]
   rw [Int.natCast_add] at this
   exact this
theorem partP_R (M:Nat→Nat→Int) (k i:Nat) (hk:k≤4) (hi:i<k):partP (tabM M k) i k=partR (tabM M k) i k:=by
 obtain rfl | rfl | rfl | rfl:k=1∨k=2∨k=3∨k=4:=by omega
 ·obtain rfl:i=0:=by omega
  exact part1 _
 ·exact part2 _ _ _ _ i hi
 ·exact part3 _ _ _ _ _ _ _ _ _ i hi
 ·exact part4 _ _ _ _ _ _ _ _ _ _ _ _ _ _ _ _ i hi
def diffN (M:Nat→Nat→Int) (i a b:Nat):Int:=M (skip i a) (b+1)-M (skip i a) 0
theorem part_N (M:Nat→Nat→Int) (k i:Nat) (hk:k≤4) (hi:i<k):partP (tabM M k) i k=signI i*detN (k-1) (diffN M i):=by
 rw [partP_R M k i hk hi]
 unfold partR signI
 congr 1
 rw [← detR_N]
 congr 1
 apply List.ext_getElem?
 intro a
 rw [List.getElem?_map,getElem_skip,tabM_row,tabM_row]
 by_cases ha:a<k-1
 ·have hs:skip i a<k:=by have:=skip_lt (c:=i) ha; omega
  rw [if_pos hs,if_pos ha,Option.map_some]
  congr 1
  obtain ⟨n,rfl⟩ : ∃ n,k=n+1:=⟨k-1,by omega⟩
  rw [List.range_succ_eq_map,List.map_cons,diffL,List.map_map,List.map_map]
  rfl
 ·have hs : ¬ skip i a<k:=by unfold skip; split <;> omega
  rw [if_neg hs,if_neg ha]
  rfl
theorem parts_N (A:Nat→Nat→Int) (R G:List Nat) (i:Nat) (hk:R.length≤4) (hi:i<R.length):partsOf A R G i=signI i*detN (R.length-1) (diffN (lossM A R G) i):=part_N _ _ _ hk hi
end Go.Proofs.Ytkbbhihndigmeaa

namespace Go.Proofs.Ytkbbhihndigmeaa
open Go Go.RowKit Go.Shelf
theorem numL_skip (g:Nat→Int) (k c:Nat) (hc:c<k+1):numL g c ++ numL (fun b=>g (c+1+b)) (k-c)=numL (fun b=>g (skip c b)) k:=by
 apply List.ext_getElem?
 intro i
 rw [List.getElem?_append,numL_len]
 by_cases hi:i<k
 ·rw [numL_get _ k i hi]
  by_cases h:i<c
  ·rw [if_pos h,numL_get _ c i h]
   unfold skip
   rw [if_pos h]
  ·rw [if_neg h,numL_get _ _ _ (by omega)]
   unfold skip
   rw [if_neg h,show c+1+(i-c)=i+1 by omega]
 ·rw [List.getElem?_eq_none (by rw [numL_len]; omega:(numL (fun b=>g (skip c b)) k).length≤i)]
  by_cases h:i<c
  ·rw [if_pos h,numL_get _ c i h]
   omega
  ·rw [if_neg h,List.getElem?_eq_none (by rw [numL_len]; omega)]
theorem addr_plainS (b off n:Nat):(⟨b,off,none⟩:Addr).add n=⟨b,off+n,none⟩:=by
 unfold Addr.add
 split
 ·rename_i h
  rw [h]
  rfl
 ·rfl
set_option maxRecDepth 100000 in
set_option maxHeartbeats 16000000 in
theorem rDet_c : ∀ (k:Nat) (a:Option Addr) (cap:Nat) (F:Nat→Row3) (w:World),k≤3→Tab w a k F→k≤cap→(∀ i,i<k→(F i).n=k)→(∀ i,i<k→k≤(F i).cap∧(F i).cap≤9223372036854775807+k)→Near k (lossA F) →
 Calls Try.prog 109 #[.slice a k cap] w fun e w'=>e = .returned (.int .i64 (detN k (lossA F)))∧Below w.heap.size w w':=by
 intro k
 induction k with
 | zero=>
   intro a cap F w _ _ _ _ _ _
   have e:detN 0 (lossA F)=1:=rfl
   rw [e]
   go_enter Try.func109,Try.ntmps109
   go_wp2
   go_ret
   exact ⟨rfl,Below.refl _ _⟩
 | succ k ih=>
   intro a cap F w hk hf hcap hlen hcaps hN
   obtain ⟨b,off,rfl,hbs, -⟩:=Tab.at hf 0 (by omega)
   have HF:=Lib.hid hf
   have HL:=Lib.hid hlen
   have HC:=Lib.hid hcaps
   have HN:=Lib.hid hN
   have t0 : ¬ ((k:Int)+1=0):=by omega
   obtain ⟨T,hT⟩ : ∃ T:Nat→Int,(fun c=>lossA F 0 c*detN k (fun i j=>lossA F (i+1) (skip c j)))=T:=⟨_,rfl⟩
   have hdet:detN (k+1) (lossA F)=altSum T (k+1):=by rw [← hT]; rfl
   have hterm : ∀ c,c<k+1 → -(200*dB k)≤T c∧T c≤200*dB k:=fun c hc=>by
    rw [← hT]
    exact mul_ab (hN 0 (by omega) c hc) (detN_bd k _ hN.minor) (by decide)
   have hdk:dB k≤48000000:=dB_3 (by omega)
   have HT:=Lib.hid hterm
   have HTe:=Lib.hid hT
   have HA:=Lib.hid (fun j hj=>altSum_bd hterm j hj)
   have Hd:=Lib.hid hdk
   have Hp:=Lib.hid (dB_pos k)
   have HI:=Lib.hid ih
   rw [hdet]
   clear hf hlen hcaps hN hterm hdk ih hdet hT
   go_enter Try.func109,Try.ntmps109
   go_wp2_with fail
   go_loopw [3,4,5] (fun s g i wr=> ∃ j:Nat,j≤k+1∧i = .int .i64 j∧s = .int .i64 (altSum T j)∧g = .int .i64 (signI j)∧Below w.heap.size w wr) (fun _ _ i _=>k+1-(intOf i).toNat)
   case atStart=>exact ⟨0,Nat.zero_le _,rfl,rfl,rfl,Below.refl _ _⟩
   case round=>
    obtain ⟨c,hc,rfl,rfl,rfl,hb⟩:=hrel
    by_cases hlt:c<k+1
    ·have Hb:=Lib.hid hb
     clear hb
     obtain ⟨X,hX⟩ : ∃ X:World,X=wr:=⟨_,rfl⟩
     subst hX
     go_wp2_with fail
     go_loopw [6,7] (fun x i wr=> ∃ (j:Nat) (L:List Value) (v:Value),j≤k∧i = .int .i64 (j+1)∧x=v∧L.length=j∧OwnV 25 wr w.heap.size L v∧(∀ l,l<j→OwnV 2 wr w.heap.size (numL (fun q=>lossA F (l+1) (skip c q)) k) (L.getD l undef))∧Below w.heap.size w wr) (fun _ i _=>k+1-(intOf i).toNat)
     case atStart=>exact ⟨0,[],_,Nat.zero_le _,rfl,rfl,rfl,ownV_nil _ _ _,fun l hl=>absurd hl (Nat.not_lt_zero _),Hb.out⟩
     case round=>
      obtain ⟨j,L,v,hj,rfl,rfl,hL,hv,hrows,hbx⟩:=hrel
      have HL2:=Lib.hid hL
      have Hv:=Lib.hid hv
      have Hrows:=Lib.hid hrows
      have Hbx:=Lib.hid hbx
      clear hL hv hrows hbx
      by_cases hlj:j<k
      ·skip
       obtain ⟨b',off',he,hbs',hcc⟩:=Tab.at (HF.out.below Hbx.out) (j+1) (by omega)
       obtain ⟨rfl,rfl⟩:b'=b∧off'=off:=by injection he with he; injection he with h1 h2 _; exact ⟨h1.symm,h2.symm⟩
       have c1:=hcc (j+1) (by omega)
       rw [HL.out (j+1) (by omega)] at c1
       obtain ⟨rb,ro,hra,hrs,hrc⟩:=Cells.at ((HF.out.below Hbx.out).2 (j+1) (by omega)) 0 (by rw [HL.out (j+1) (by omega)]; omega)
       rw [HL.out (j+1) (by omega)] at hrc
       rw [hra] at c1
       have hrn:(F (j+1)).n=k+1:=HL.out (j+1) (by omega)
       obtain ⟨rcap,hrcap⟩ : ∃ rcap,(F (j+1)).cap=rcap:=⟨_,rfl⟩
       have hcp:=HC.out (j+1) (by omega)
       rw [hrcap] at c1 hcp
       obtain ⟨g,hg⟩ : ∃ g:Nat→Int,(F (j+1)).g=g:=⟨_,rfl⟩
       rw [hg] at hrc
       have hgl : ∀ q,lossA F (j+1) q=g q:=fun q=>by rw [← hg]
       obtain ⟨vp,vc,hvf, -, -, -, -,hvb⟩:=Hv.out.form
       rw [HL2.out] at hvf
       subst hvf
       have hcell : ∀ y,Below w.heap.size w y→y.cell? ⟨b',off'+(j+1),none⟩=some (.slice (some ⟨rb,ro,none⟩) (k+1) rcap):=fun y hy=>by
        obtain ⟨b2,off2,he2,hbs2,hcc2⟩:=Tab.at (HF.out.below hy) (j+1) (by omega)
        obtain ⟨rfl,rfl⟩:b2=b'∧off2=off':=by injection he2 with he; injection he with h1 h2 _; exact ⟨h1.symm,h2.symm⟩
        have:=hcc2 (j+1) (by omega)
        rw [hrn,hra,hrcap] at this
        exact this
       have hnum : ∀ y,Below w.heap.size w y → ∀ q,q<k+1→y.cell? ⟨rb,ro+q,none⟩=some (.int .i64 (g q)):=fun y hy q hq=>by
        obtain ⟨b2,o2,he2, -,hc2⟩:=Cells.at ((HF.out.below hy).2 (j+1) (by omega)) q (by rw [hrn]; exact hq)
        obtain ⟨rfl,rfl⟩:b2=rb∧o2=ro:=by rw [hra] at he2; injection he2 with he; injection he with h1 h2 _; exact ⟨h1.symm,h2.symm⟩
        have:=hc2 q (by rw [hrn]; exact hq)
        rw [hg] at this
        exact this
       have hFC : ∀ y,Below wr.heap.size wr y→Below w.heap.size w y:=fun y hy=>Hbx.out.trans (hy.mono Hbx.out.size)
       obtain ⟨ta,hta⟩ : ∃ ta:Option Addr,(if rcap=c+1 then (some ⟨rb,ro,none⟩:Option Addr) else some ⟨rb,ro+(c+1),none⟩)=ta:=⟨_,rfl⟩
       have hnews : ∀ y,Below w.heap.size w y → ∀ i u,(numL (fun q=>g (c+1+q)) (k-c))[i]? = some u → ∃ ad,ta=some ad∧y.cell? (ad.add i)=some u:=fun y hy i u hi=>by
        by_cases h:i<k-c
        ·rw [numL_get _ _ _ h] at hi
         obtain rfl:=Option.some.inj hi
         refine ⟨⟨rb,ro+(c+1),none⟩,by rw [← hta,if_neg (by omega)],?_⟩
         have:=hnum y hy (c+1+i) (by omega)
         rw [show (⟨rb,ro+(c+1),none⟩:Addr).add i=⟨rb,ro+(c+1+i),none⟩ by rw [addr_plainS]; congr 1; omega]
         exact this
        ·rw [List.getElem?_eq_none (by rw [numL_len]; omega)] at hi
         cases hi
       have i1:(c:Int)<(k:Int)+1:=by omega
       have i2:(0:Int)≤(c:Int):=by omega
       have i3:(0:Int)≤(j:Int)+1:=by omega
       have i5:c≤rcap:=by omega
       have i6:IntKind.i64.wrap ((c:Int)+1)=(c:Int)+1:=IntWalk.i64_in _ (by omega)
       have i8:(0:Int)≤(c:Int)+1:=by omega
       have i9:c≤k:=by omega
       clear hcc hrc he c1
       go_wp2_with fail
       refine RC.wp_region_runF (C:=fun y=>Below w.heap.size w y) (fun y=>Below wr.heap.size wr y) (by kernel_rfl) (stable_below wr) (Below.refl _ _) ?_
       change RC.Run _ _ _ _ _ 20 _ _ _
       refine RC.run_take (i:=0) (.slice vp j vc) rfl (by kernel_rfl) (by kernel_rfl) (by kernel_rfl) rfl (hFC) (fun y hy=>by have q0:=hcell y hy; go_simp) ?_
       simp only [puts]
       refine RC.run_take (i:=2) (.slice (some ⟨b',off',none⟩) (k+1) cap) rfl (by kernel_rfl) (by kernel_rfl) (by kernel_rfl) rfl (hFC) (fun y hy=>by have q0:=hcell y hy; go_simp) ?_
       simp only [puts]
       refine RC.run_take (i:=3) (.int .i64 ((j:Int)+1)) rfl (by kernel_rfl) (by kernel_rfl) (by kernel_rfl) rfl (hFC) (fun y hy=>by have q0:=hcell y hy; go_simp) ?_
       simp only [puts]
       refine RC.run_take (i:=4) (.pointer (some ⟨b',off'+(j+1),none⟩)) rfl (by kernel_rfl) (by kernel_rfl) (by kernel_rfl) rfl (hFC) (fun y hy=>by have q0:=hcell y hy; go_simp) ?_
       simp only [puts]
       refine RC.run_take (i:=5) (.slice (some ⟨rb,ro,none⟩) (k+1) rcap) rfl (by kernel_rfl) (by kernel_rfl) (by kernel_rfl) rfl (hFC) (fun y hy=>by have q0:=hcell y hy; go_simp) ?_
       simp only [puts]
       refine RC.run_take (i:=6) (.int .i64 (c:Int)) rfl (by kernel_rfl) (by kernel_rfl) (by kernel_rfl) rfl (hFC) (fun y hy=>by have q0:=hcell y hy; go_simp) ?_
       simp only [puts]
       refine RC.run_take (i:=7) (.slice (some ⟨rb,ro,none⟩) c rcap) rfl (by kernel_rfl) (by kernel_rfl) (by kernel_rfl) rfl (hFC) (fun y hy=>by have q0:=hcell y hy; go_simp) ?_
       simp only [puts]
       refine RC.run_take (i:=9) (.slice (some ⟨b',off',none⟩) (k+1) cap) rfl (by kernel_rfl) (by kernel_rfl) (by kernel_rfl) rfl (hFC) (fun y hy=>by have q0:=hcell y hy; go_simp) ?_
       simp only [puts]
       refine RC.run_take (i:=10) (.int .i64 ((j:Int)+1)) rfl (by kernel_rfl) (by kernel_rfl) (by kernel_rfl) rfl (hFC) (fun y hy=>by have q0:=hcell y hy; go_simp) ?_
       simp only [puts]
       refine RC.run_take (i:=11) (.pointer (some ⟨b',off'+(j+1),none⟩)) rfl (by kernel_rfl) (by kernel_rfl) (by kernel_rfl) rfl (hFC) (fun y hy=>by have q0:=hcell y hy; go_simp) ?_
       simp only [puts]
       refine RC.run_take (i:=12) (.slice (some ⟨rb,ro,none⟩) (k+1) rcap) rfl (by kernel_rfl) (by kernel_rfl) (by kernel_rfl) rfl (hFC) (fun y hy=>by have q0:=hcell y hy; go_simp) ?_
       simp only [puts]
       refine RC.run_take (i:=13) (.int .i64 (c:Int)) rfl (by kernel_rfl) (by kernel_rfl) (by kernel_rfl) rfl (hFC) (fun y hy=>by have q0:=hcell y hy; go_simp) ?_
       simp only [puts]
       refine RC.run_take (i:=14) (.int .i64 ((c:Int)+1)) rfl (by kernel_rfl) (by kernel_rfl) (by kernel_rfl) rfl (hFC) (fun y hy=>by have q0:=hcell y hy; go_simp) ?_
       simp only [puts]
       refine RC.run_take (i:=15) (.slice ta (k-c) (rcap-(c+1))) rfl (by kernel_rfl) (by kernel_rfl) (by kernel_rfl) rfl (hFC) (fun y hy=>by have q0:=hcell y hy; go_simp) ?_
       simp only [puts]
       refine RC.run_only (i:=1) (by kernel_rfl) (RC.at_upd (fun v y=> ∃ d,v=sl d 0 0∧Below wr.heap.size wr y∧OwnR 2 1 wr.heap.size y 0 [] d 0) rfl rfl (fun v y y1 ⟨d,e,h,h2⟩ hb=>⟨d,e,h.trans (hb.mono h.size),h2.below hb⟩) (fun v y ⟨_,_,h,_⟩=>hFC y h) (fun y hy => ?_) ?_)
       ·exact ⟨_,y.alloc (.cells #[] 2),by go_simp,y.heap.size,rfl,hy.trans ((Below.refl _ y).alloc hy.size _),lit_owns hy.size⟩
       rintro v ⟨_,d1,rfl, -⟩
       simp only [puts]
       refine RC.run_mono _ _ _ (fun y=>Below wr.heap.size wr y∧OwnR 2 1 wr.heap.size y 0 [] d1 0) _ (by
        rintro y ⟨d',e,h1,h2⟩
        obtain ⟨rfl, -, -⟩:=sl_inj e
        exact ⟨h1,h2⟩) ?_
       refine RC.run_only (i:=8) (by kernel_rfl) (RC.at_upd (fun v y=> ∃ d cc,v=sl d (0+c) cc∧Below wr.heap.size wr y∧OwnR 2 1 wr.heap.size y (0+c) ([] ++ numL g c) d cc) rfl rfl (fun v y y1 ⟨d,cc,e,h,h2⟩ hb=>⟨d,cc,e,h.trans (hb.mono h.size),h2.below hb⟩) (fun v y ⟨_,_,_,h,_⟩=>hFC y h) (fun y hy => ?_) ?_)
       ·obtain ⟨g1,g2⟩:=hy
        obtain ⟨gg,cc,Z,r1,r2,r3⟩:=app64R (cap:=rcap) g1 g2 (.inr ⟨⟨rb,ro,none⟩,rfl,numL_len _ _,fun i u hu=>by
         by_cases h:i<c
         ·rw [numL_get _ _ _ h] at hu
          obtain rfl:=Option.some.inj hu
          rw [addr_plainS]
          exact hnum y (hFC y g1) i (by omega)
         ·rw [List.getElem?_eq_none (by rw [numL_len]; omega)] at hu
          cases hu⟩) (numL_one _ _) (by omega) (by omega)
        exact ⟨_,Z,exec_app _ _ _ rfl _ _ rfl rfl r1,gg,cc,rfl,r3,r2⟩
       rintro v ⟨_,d2,d2c,rfl, -⟩
       simp only [puts]
       refine RC.run_mono _ _ _ (fun y=>Below wr.heap.size wr y∧OwnR 2 1 wr.heap.size y (0+c) ([] ++ numL g c) d2 d2c) _ (by
        rintro y ⟨d',c',e,h1,h2⟩
        obtain ⟨rfl, -,rfl⟩:=sl_inj e
        exact ⟨h1,h2⟩) ?_
       refine RC.run_only (i:=16) (by kernel_rfl) (RC.at_upd (fun v y=> ∃ d cc,v=sl d ((0+c)+(k-c)) cc∧Below wr.heap.size wr y∧OwnR 2 1 wr.heap.size y ((0+c)+(k-c)) (([] ++ numL g c) ++ numL (fun q=>g (c+1+q)) (k-c)) d cc) rfl rfl (fun v y y1 ⟨d,cc,e,h,h2⟩ hb=>⟨d,cc,e,h.trans (hb.mono h.size),h2.below hb⟩) (fun v y ⟨_,_,_,h,_⟩=>hFC y h) (fun y hy => ?_) ?_)
       ·obtain ⟨g1,g2⟩:=hy
        obtain ⟨gg,cc,Z,r1,r2,r3⟩:=app64R (news:=numL (fun q=>g (c+1+q)) (k-c)) (n:=k-c) (a:=ta) (cap:=rcap-(c+1)) g1 g2 (by
         by_cases h0:k-c=0
         ·exact .inl ⟨h0,by rw [h0]; rfl⟩
         ·refine .inr ⟨⟨rb,ro+(c+1),none⟩,by rw [← hta,if_neg (by omega)],numL_len _ _,fun i u hu => ?_⟩
          obtain ⟨ad,e1,e2⟩:=hnews y (hFC y g1) i u hu
          rw [← hta,if_neg (by omega)] at e1
          cases e1
          exact e2) (numL_one _ _) (by omega) (by omega)
        exact ⟨_,Z,exec_app _ _ _ rfl _ _ rfl rfl r1,gg,cc,rfl,r3,r2⟩
       rintro v ⟨_,d3,d3c,rfl, -⟩
       simp only [puts]
       refine RC.run_mono _ _ _ (fun y=>Below wr.heap.size wr y∧OwnR 2 1 wr.heap.size y ((0+c)+(k-c)) (([] ++ numL g c) ++ numL (fun q=>g (c+1+q)) (k-c)) d3 d3c) _ (by
        rintro y ⟨d',c',e,h1,h2⟩
        obtain ⟨rfl, -,rfl⟩:=sl_inj e
        exact ⟨h1,h2⟩) ?_
       rw [show 0+c+(k-c)=k by omega,List.nil_append,numL_skip g k c hlt]
       refine RC.run_only (i:=17) (by kernel_rfl) (RC.at_make (w0:=wr) (t:=40) (z:= .cells #[sl d3 k d3c] 25 (0,0)) (fun q=> .slice (some ⟨q,0,none⟩) 1 1) (fun _=>False) sl1_inj rfl rfl rfl (fun y _=>by go_simp) (fun y h=>h.1.size) (fun _ _ _ h=>h.elim) ?_)
       intro d4 hd4 _
       simp only [Act.put,List.setIfInBounds_toArray,List.set_cons_zero,List.set_cons_succ]
       refine RC.run_only (i:=18) (by kernel_rfl) (RC.at_upd (fun v y=>OwnV 25 y w.heap.size (L ++ [sl d3 k d3c]) v∧OwnV 2 y w.heap.size (numL (fun q=>g (skip c q)) k) (sl d3 k d3c)∧(∀ l,l<j→OwnV 2 y w.heap.size (numL (fun q=>lossA F (l+1) (skip c q)) k) (L.getD l undef))∧Below w.heap.size w y) rfl rfl (fun v y y1 h hb=>⟨h.1.below hb,h.2.1.below hb,fun l hl=>(h.2.2.1 l hl).below hb,h.2.2.2.trans (hb.mono h.2.2.2.size)⟩) (fun v y h=>h.2.2.2) (fun y hy => ?_) ?_)
       ·obtain ⟨⟨g1,g2⟩,g3⟩:=hy
        have hz:w.heap.size≤wr.heap.size:=Hbx.out.size
        have c4:y.cell? ⟨d4,0,none⟩=some (sl d3 k d3c):=RowIs.cell g3 0
        have hvY:=Hv.out.below g1
        obtain ⟨v',Z,hrun,ho,hgz,hbz, -⟩:=appS64 hvY (sl d3 k d3c) d4 c4 rfl (Nat.le_trans hz g1.size) (by rw [HL2.out]; omega)
        refine ⟨v',Z,exec_app _ _ _ rfl _ _ rfl rfl hrun,ho,?_,fun l hl=>hvY.keep hgz ((Hrows.out l hl).below g1) (by decide),(hFC y g1).trans hbz⟩
        exact hvY.keep hgz ((OwnR.toV g2 (numL_len _ _)).base hz) (by decide)
       intro v hv
       simp only [puts]
       refine RC.run_quiet (i:=19) (v) (by kernel_rfl) rfl rfl (fun y hy=>by go_simp) ?_
       simp only [puts]
       refine ⟨by kernel_rfl,fun y hy => ?_⟩
       obtain ⟨h1,h2,h3,h4⟩:=hy
       have H1:=Lib.hid h1
       have H2:=Lib.hid h2
       have H3:=Lib.hid h3
       have H4:=Lib.hid h4
       clear h1 h2 h3 h4 hv hcell hnum hnews hFC
       go_wp2_with fail
       go_roundw
       case rel=>
        refine ⟨j+1,_,v,by omega,by go_num,rfl,by rw [List.length_append,HL2.out]; rfl,H1.out,fun l hl => ?_,H4.out⟩
        by_cases e:l=j
        ·subst e
         rw [(getD_snoc HL2.out).1,numL_same fun q _=>hgl (skip c q)]
         exact H2.out
        ·rw [(getD_snoc HL2.out).2 l (by omega)]
         exact H3.out l (by omega)
       case measure=>simp [intOf]; omega
      ·obtain rfl:j=k:=by omega
       obtain ⟨p,rc,f',rfl,q1,q2,hT2,q3,q4,q5⟩:=tab_ownG HL2.out Hv.out Hrows.out
       have HT2:=Lib.hid hT2
       have hlf:lossA f'=fun i q=>lossA F (i+1) (skip c q):=funext fun i=>q4 i
       obtain ⟨dd,hdd⟩ : ∃ dd,detN j (fun i q=>lossA F (i+1) (skip c q))=dd:=⟨_,rfl⟩
       have hTc:T c=lossA F 0 c*dd:=by rw [← HTe.out, ← hdd]
       have HM:=Lib.hid (HN.out.minor (c:=c))
       have hdb:=detN_bd j _ HM.out
       rw [hdd] at hdb
       have hcall : ∀ y,Below wr.heap.size wr y→Calls Try.prog 109 #[.slice p j rc] y fun e w'=>e = .returned (.int .i64 dd)∧Below y.heap.size y w':=fun y hy=>by
        have:=HI.out p rc f' y (by omega) (HT2.out.below hy) q1 (fun i _=>q3 i) (fun i _=>q5 i) (by rw [hlf]; exact HM.out)
        rw [hlf,hdd] at this
        exact this
       have HCL:=Lib.hid hcall
       obtain ⟨b',off',he,hbs',hcc⟩:=Tab.at (HF.out.below Hbx.out) 0 (by omega)
       obtain ⟨rfl,rfl⟩:b'=b∧off'=off:=by injection he with he; injection he with h1 h2 _; exact ⟨h1.symm,h2.symm⟩
       have c1:=hcc 0 (by omega)
       rw [HL.out 0 (by omega),Nat.add_zero] at c1
       obtain ⟨rb,ro,hra,hrs,hrc⟩:=Cells.at ((HF.out.below Hbx.out).2 0 (by omega)) c (by rw [HL.out 0 (by omega)]; exact hlt)
       have c2:=hrc c (by rw [HL.out 0 (by omega)]; exact hlt)
       rw [hra] at c1
       obtain ⟨g,hg⟩ : ∃ g,lossA F 0 c=g:=⟨_,rfl⟩
       have hg2:(F 0).g c=g:=hg
       rw [hg2] at c2
       rw [hg] at hTc
       have hgb:=HN.out 0 (by omega) c hlt
       rw [hg] at hgb
       have hA:=HA.out c (by omega)
       have hA1:=HA.out (c+1) (by omega)
       have hTj:=HT.out c hlt
       have hsg:signI c=1∨signI c = -1:=by unfold signI; split <;> simp
       have hbd:(200*dB j)*((j:Int)+1)≤48000000000:=by
        have h1:=Hd.out
        have h2:=Hp.out
        have:=Int.mul_le_mul (show 200*dB j≤9600000000 by omega) (show (j:Int)+1≤4 by omega) (by omega) (by omega)
        omega
       have hj1:200*dB j*(c:Int)≤(200*dB j)*((j:Int)+1):=Int.mul_le_mul_of_nonneg_left (by omega) (by have:=Hp.out; omega)
       have hj2:200*dB j*((c+1:Nat):Int)≤(200*dB j)*((j:Int)+1):=Int.mul_le_mul_of_nonneg_left (by omega) (by have:=Hp.out; omega)
       have w1:IntKind.i64.wrap (signI c*g)=signI c*g:=IntWalk.i64_in _ (by rcases hsg with h | h <;> rw [h] <;> omega)
       have e2:signI c*g*dd=signI c*T c:=by rw [hTc,Int.mul_assoc]
       have w2:IntKind.i64.wrap (signI c*g*dd)=signI c*T c:=by rw [e2]; exact IntWalk.i64_in _ (by have:=Hd.out; rcases hsg with h | h <;> rw [h] <;> omega)
       have w3:IntKind.i64.wrap (altSum T c+signI c*T c)=altSum T (c+1):=by rw [← altSum_sign]; exact IntWalk.i64_in _ (by omega)
       have w4:IntKind.i64.wrap (-signI c)=signI (c+1):=by rw [signI_next]; exact IntWalk.i64_in _ (by rcases hsg with h | h <;> rw [h] <;> omega)
       have hcell : ∀ y,Below wr.heap.size wr y→y.cell? ⟨b',off',none⟩=some (.slice (some ⟨rb,ro,none⟩) (j+1) (F 0).cap)∧y.cell? ⟨rb,ro+c,none⟩=some (.int .i64 g):=fun y hy=>⟨(hy.cell (p:=⟨b',off',none⟩) hbs').trans c1,(hy.cell (p:=⟨rb,ro+c,none⟩) hrs).trans c2⟩
       have i1:(0:Int)<(j:Int)+1:=by omega
       clear hA hA1 hTj hTc hdb hbd hj1 hj2 e2 hcc hrc he hgb hg hg2 hcall hdd hlf
       go_wp2_with fail
       refine RC.wp_region_runF (C:=fun y=>Below wr.heap.size wr y) (fun y=>Below wr.heap.size wr y) (by kernel_rfl) (stable_below wr) (Below.refl _ _) ?_
       change RC.Run _ _ _ _ _ 14 _ _ _
       refine RC.run_take (i:=0) (.int .i64 (altSum T c)) rfl (by kernel_rfl) (by kernel_rfl) (by kernel_rfl) rfl (fun y h=>h) (fun y hy=>by obtain ⟨q0,q1⟩:=hcell y hy; go_simp) ?_
       simp only [puts]
       refine RC.run_take (i:=1) (.int .i64 (signI c)) rfl (by kernel_rfl) (by kernel_rfl) (by kernel_rfl) rfl (fun y h=>h) (fun y hy=>by obtain ⟨q0,q1⟩:=hcell y hy; go_simp) ?_
       simp only [puts]
       refine RC.run_take (i:=2) (.slice (some ⟨b',off',none⟩) (j+1) cap) rfl (by kernel_rfl) (by kernel_rfl) (by kernel_rfl) rfl (fun y h=>h) (fun y hy=>by obtain ⟨q0,q1⟩:=hcell y hy; go_simp) ?_
       simp only [puts]
       refine RC.run_take (i:=3) (.pointer (some ⟨b',off',none⟩)) rfl (by kernel_rfl) (by kernel_rfl) (by kernel_rfl) rfl (fun y h=>h) (fun y hy=>by obtain ⟨q0,q1⟩:=hcell y hy; go_simp) ?_
       simp only [puts]
       refine RC.run_take (i:=4) (.slice (some ⟨rb,ro,none⟩) (j+1) (F 0).cap) rfl (by kernel_rfl) (by kernel_rfl) (by kernel_rfl) rfl (fun y h=>h) (fun y hy=>by obtain ⟨q0,q1⟩:=hcell y hy; go_simp) ?_
       simp only [puts]
       refine RC.run_take (i:=5) (.int .i64 (c:Int)) rfl (by kernel_rfl) (by kernel_rfl) (by kernel_rfl) rfl (fun y h=>h) (fun y hy=>by obtain ⟨q0,q1⟩:=hcell y hy; go_simp) ?_
       simp only [puts]
       refine RC.run_take (i:=6) (.pointer (some ⟨rb,ro+c,none⟩)) rfl (by kernel_rfl) (by kernel_rfl) (by kernel_rfl) rfl (fun y h=>h) (fun y hy=>by obtain ⟨q0,q1⟩:=hcell y hy; go_simp) ?_
       simp only [puts]
       refine RC.run_take (i:=7) (.int .i64 g) rfl (by kernel_rfl) (by kernel_rfl) (by kernel_rfl) rfl (fun y h=>h) (fun y hy=>by obtain ⟨q0,q1⟩:=hcell y hy; go_simp) ?_
       simp only [puts]
       refine RC.run_take (i:=8) (.int .i64 (signI c*g)) rfl (by kernel_rfl) (by kernel_rfl) (by kernel_rfl) rfl (fun y h=>h) (fun y hy=>by obtain ⟨q0,q1⟩:=hcell y hy; go_simp) ?_
       simp only [puts]
       refine RC.run_take (i:=9) (.slice p j rc) rfl (by kernel_rfl) (by kernel_rfl) (by kernel_rfl) rfl (fun y h=>h) (fun y hy=>by obtain ⟨q0,q1⟩:=hcell y hy; go_simp) ?_
       simp only [puts]
       refine RC.run_only (i:=10) (by kernel_rfl) (RC.at_call (fun u y=>u = .int .i64 dd∧Below wr.heap.size wr y) rfl rfl (fun u y y1 h hb=>⟨h.1,h.2.trans (hb.mono h.2.size)⟩) (fun u y h=>h.2) (fun y hy => ?_) ?_)
       ·refine ⟨_, #[.slice p j rc],(Go.Conc.run_call_body (fn:=Try.f109) rfl Try.func109 (by kernel_rfl) (by kernel_rfl)).trans (by simp [Act.eval]),(HCL.out y hy).mono ?_⟩
        rintro e y1 ⟨rfl,hb1⟩
        exact ⟨_,rfl,rfl,hy.trans (hb1.mono hy.size)⟩
       rintro u ⟨y0,rfl, -⟩
       simp only [puts]
       refine RC.run_mono _ _ _ (fun y=>Below wr.heap.size wr y) _ (fun y h=>h.2) ?_
       refine RC.run_quiet (i:=11) (.int .i64 (signI c*T c)) (by kernel_rfl) rfl rfl (fun y hy=>by go_simp) ?_
       simp only [puts]
       refine RC.run_quiet (i:=12) (.int .i64 (altSum T (c+1))) (by kernel_rfl) rfl rfl (fun y hy=>by go_simp) ?_
       simp only [puts]
       refine RC.run_quiet (i:=13) (.int .i64 (altSum T (c+1))) (by kernel_rfl) rfl rfl (fun y hy=>by go_simp) ?_
       simp only [puts]
       refine ⟨by kernel_rfl,fun y hy => ?_⟩
       have Hy:=Lib.hid (Hbx.out.trans (hy.mono Hbx.out.size))
       clear hy hcell
       go_wp2_with fail
       go_roundw
       case rel=>exact ⟨c+1,by omega,by go_num,rfl,rfl,Hy.out⟩
       case measure=>simp [intOf]; omega
    ·obtain rfl:c=k+1:=by omega
     go_wp2_with fail
     go_ret
     exact ⟨rfl,hb⟩
end Go.Proofs.Ytkbbhihndigmeaa

namespace Go.Proofs.Ytkbbhihndigmeaa
open Go Go.RowKit Go.Shelf
theorem infoI:(Try.prog.info? 3).map (fun i=>(i.zero,i.size,i.bytes))=some (some (.int .i64 0),1,8):=by kernel_rfl
theorem appIR {A w0:World} {xs news:List Value} {b c m n cap:Nat} {a:Option Addr} (hC:Below w0.heap.size w0 A) (h:OwnR 3 1 w0.heap.size A m xs b c)
 (hsrc:(n=0∧news=[]) ∨ ∃ ad,a=some ad∧news.length=n ∧ ∀ j u,news[j]? = some u→A.cell? (ad.add j)=some u) (h1 : ∀ u ∈ news,u.oneCell'=true) (hm:m≤1048576) (hn:n≤1048576) :
 ∃ g c' A',(Builtin.append_ #[42,42] 42 #[sl b m c, .slice a n cap]).run Try.prog A = .ok (sl g (m+n) c') A'∧OwnR 3 1 w0.heap.size A' (m+n) (xs ++ news) g c'∧Below w0.heap.size w0 A':=by
 obtain ⟨i0,hi,h2,h3,h4⟩:=info_one infoI
 obtain ⟨g,c',A',r1,r2,r3, -⟩:=app_list (P:=Try.prog) Try.underlying42 hi h2 h3 h4 rfl (by omega) (ty:=42) (cap:=cap) hC rfl h (by simpa using hsrc) h1 (by unfold maxLen; omega) (by omega)
 exact ⟨g,c',A',r1,r2,r3⟩
theorem natI_erase (x:List Nat) (i j:Nat):natI (x.eraseIdx i) j=natI x (skip i j):=by
 unfold natI
 rw [List.getD_eq_getElem?_getD,List.getD_eq_getElem?_getD,getElem_skip]
theorem ownR_lst {w:World} {B g c k:Nat} {x:List Nat} (h:OwnR 3 1 B w k (numL (natI x) k) g c) (hk:x.length=k):Lst w x (some ⟨g,0,none⟩) c:=by
 have hv:=OwnR.toV h (numL_len _ _)
 obtain ⟨p,cap,e,h1,h2,h3,h4,h5⟩:=hv.form
 rw [numL_len] at e h1
 obtain ⟨rfl,rfl⟩:p=some ⟨g,0,none⟩∧cap=c:=by
  injection e with e1 _ e2
  exact ⟨e1.symm,e2.symm⟩
 refine ⟨h4 _ _ (by rw [numL_len]; exact hk) fun i hi=>numL_get _ _ _ (by omega),by omega,h2,fun e=>by cases e⟩
set_option maxRecDepth 100000 in
set_option maxHeartbeats 16000000 in
theorem rWithout_c (x:List Nat) (p:Option Addr) (cap i:Nat) (w:World) (hL:Lst w x p cap) (hi:i<x.length) (h4:x.length≤4) :
 Calls Try.prog 79 #[.slice p x.length cap, .int .i64 i] w fun e w'=>(∃ q c,e = .returned (.slice q (x.eraseIdx i).length c)∧Lst w' (x.eraseIdx i) q c)∧Below w.heap.size w w':=by
 obtain ⟨xb,xo,rfl,hnum⟩:=lstC hL (by omega)
 have hroom:=hL.room
 have hfit:=hL.fit
 obtain ⟨k,hk⟩ : ∃ k,x.length=k+1:=⟨x.length-1,by omega⟩
 have hel:(x.eraseIdx i).length=k:=by rw [List.length_eraseIdx,if_pos hi]; omega
 have Hk:=Lib.hid hk
 have Hel:=Lib.hid hel
 rw [hel]
 rw [hk] at hnum hi h4 hroom ⊢
 have hnm : ∀ y,Below w.heap.size w y → ∀ q,q<k+1→y.cell? ⟨xb,xo+q,none⟩=some (.int .i64 (natI x q)):=hnum
 obtain ⟨ta,hta⟩ : ∃ ta:Option Addr,(if cap=i+1 then (some ⟨xb,xo,none⟩:Option Addr) else some ⟨xb,xo+(i+1),none⟩)=ta:=⟨_,rfl⟩
 have i1:(i:Int)<(k:Int)+1:=by omega
 have i2:(0:Int)≤(i:Int):=by omega
 have i5:i≤cap:=by omega
 have i6:IntKind.i64.wrap ((i:Int)+1)=(i:Int)+1:=IntWalk.i64_in _ (by omega)
 have i8:(0:Int)≤(i:Int)+1:=by omega
 have i9:i≤k:=by omega
 clear hnum hk hel hL
 go_enter Try.func79,Try.ntmps79
 go_wp2_with fail
 refine RC.wp_region_runF (C:=fun y=>Below w.heap.size w y) (fun y=>Below w.heap.size w y) (by kernel_rfl) (stable_below w) (Below.refl _ _) ?_
 change RC.Run _ _ _ _ _ 11 _ _ _
 refine RC.run_take (i:=1) (.slice (some ⟨xb,xo,none⟩) (k+1) cap) rfl (by kernel_rfl) (by kernel_rfl) (by kernel_rfl) rfl (fun y h=>h) (fun y hy=>by go_simp) ?_
 simp only [puts]
 refine RC.run_take (i:=2) (.int .i64 (i:Int)) rfl (by kernel_rfl) (by kernel_rfl) (by kernel_rfl) rfl (fun y h=>h) (fun y hy=>by go_simp) ?_
 simp only [puts]
 refine RC.run_take (i:=3) (.slice (some ⟨xb,xo,none⟩) i cap) rfl (by kernel_rfl) (by kernel_rfl) (by kernel_rfl) rfl (fun y h=>h) (fun y hy=>by go_simp) ?_
 simp only [puts]
 refine RC.run_take (i:=5) (.slice (some ⟨xb,xo,none⟩) (k+1) cap) rfl (by kernel_rfl) (by kernel_rfl) (by kernel_rfl) rfl (fun y h=>h) (fun y hy=>by go_simp) ?_
 simp only [puts]
 refine RC.run_take (i:=6) (.int .i64 (i:Int)) rfl (by kernel_rfl) (by kernel_rfl) (by kernel_rfl) rfl (fun y h=>h) (fun y hy=>by go_simp) ?_
 simp only [puts]
 refine RC.run_take (i:=7) (.int .i64 ((i:Int)+1)) rfl (by kernel_rfl) (by kernel_rfl) (by kernel_rfl) rfl (fun y h=>h) (fun y hy=>by go_simp) ?_
 simp only [puts]
 refine RC.run_take (i:=8) (.slice ta (k-i) (cap-(i+1))) rfl (by kernel_rfl) (by kernel_rfl) (by kernel_rfl) rfl (fun y h=>h) (fun y hy=>by go_simp) ?_
 simp only [puts]
 refine RC.run_only (i:=0) (by kernel_rfl) (RC.at_upd (fun v y=> ∃ d,v=sl d 0 0∧Below w.heap.size w y∧OwnR 3 1 w.heap.size y 0 [] d 0) rfl rfl (fun v y y1 ⟨d,e,h,h2⟩ hb=>⟨d,e,h.trans (hb.mono h.size),h2.below hb⟩) (fun v y ⟨_,_,h,_⟩=>h) (fun y hy => ?_) ?_)
 ·exact ⟨_,y.alloc (.cells #[] 3),by go_simp,y.heap.size,rfl,hy.trans ((Below.refl _ y).alloc hy.size _),lit_owns hy.size⟩
 rintro v ⟨_,d1,rfl, -⟩
 simp only [puts]
 refine RC.run_mono _ _ _ (fun y=>Below w.heap.size w y∧OwnR 3 1 w.heap.size y 0 [] d1 0) _ (by
  rintro y ⟨d',e,h1,h2⟩
  obtain ⟨rfl, -, -⟩:=sl_inj e
  exact ⟨h1,h2⟩) ?_
 refine RC.run_only (i:=4) (by kernel_rfl) (RC.at_upd (fun v y=> ∃ d cc,v=sl d (0+i) cc∧Below w.heap.size w y∧OwnR 3 1 w.heap.size y (0+i) ([] ++ numL (natI x) i) d cc) rfl rfl (fun v y y1 ⟨d,cc,e,h,h2⟩ hb=>⟨d,cc,e,h.trans (hb.mono h.size),h2.below hb⟩) (fun v y ⟨_,_,_,h,_⟩=>h) (fun y hy => ?_) ?_)
 ·obtain ⟨g1,g2⟩:=hy
  obtain ⟨gg,cc,Z,r1,r2,r3⟩:=appIR (cap:=cap) g1 g2 (.inr ⟨⟨xb,xo,none⟩,rfl,numL_len _ _,fun j u hu=>by
   by_cases h:j<i
   ·rw [numL_get _ _ _ h] at hu
    obtain rfl:=Option.some.inj hu
    rw [addr_plainS]
    exact hnm y g1 j (by omega)
   ·rw [List.getElem?_eq_none (by rw [numL_len]; omega)] at hu
    cases hu⟩) (numL_one _ _) (by omega) (by omega)
  exact ⟨_,Z,exec_app _ _ _ rfl _ _ rfl rfl r1,gg,cc,rfl,r3,r2⟩
 rintro v ⟨_,d2,d2c,rfl, -⟩
 simp only [puts]
 refine RC.run_mono _ _ _ (fun y=>Below w.heap.size w y∧OwnR 3 1 w.heap.size y (0+i) ([] ++ numL (natI x) i) d2 d2c) _ (by
  rintro y ⟨d',c',e,h1,h2⟩
  obtain ⟨rfl, -,rfl⟩:=sl_inj e
  exact ⟨h1,h2⟩) ?_
 refine RC.run_only (i:=9) (by kernel_rfl) (RC.at_upd (fun v y=> ∃ d cc,v=sl d ((0+i)+(k-i)) cc∧Below w.heap.size w y∧OwnR 3 1 w.heap.size y ((0+i)+(k-i)) (([] ++ numL (natI x) i) ++ numL (fun q=>natI x (i+1+q)) (k-i)) d cc) rfl rfl (fun v y y1 ⟨d,cc,e,h,h2⟩ hb=>⟨d,cc,e,h.trans (hb.mono h.size),h2.below hb⟩) (fun v y ⟨_,_,_,h,_⟩=>h) (fun y hy => ?_) ?_)
 ·obtain ⟨g1,g2⟩:=hy
  obtain ⟨gg,cc,Z,r1,r2,r3⟩:=appIR (news:=numL (fun q=>natI x (i+1+q)) (k-i)) (n:=k-i) (a:=ta) (cap:=cap-(i+1)) g1 g2 (by
   by_cases h0:k-i=0
   ·exact .inl ⟨h0,by rw [h0]; rfl⟩
   ·refine .inr ⟨⟨xb,xo+(i+1),none⟩,by rw [← hta,if_neg (by omega)],numL_len _ _,fun j u hu => ?_⟩
    by_cases h:j<k-i
    ·rw [numL_get _ _ _ h] at hu
     obtain rfl:=Option.some.inj hu
     rw [addr_plainS,show xo+(i+1)+j=xo+(i+1+j) by omega]
     exact hnm y g1 (i+1+j) (by omega)
    ·rw [List.getElem?_eq_none (by rw [numL_len]; omega)] at hu
     cases hu) (numL_one _ _) (by omega) (by omega)
  exact ⟨_,Z,exec_app _ _ _ rfl _ _ rfl rfl r1,gg,cc,rfl,r3,r2⟩
 rintro v ⟨_,d3,d3c,rfl, -⟩
 simp only [puts]
 refine RC.run_mono _ _ _ (fun y=>Below w.heap.size w y∧OwnR 3 1 w.heap.size y ((0+i)+(k-i)) (([] ++ numL (natI x) i) ++ numL (fun q=>natI x (i+1+q)) (k-i)) d3 d3c) _ (by
  rintro y ⟨d',c',e,h1,h2⟩
  obtain ⟨rfl, -,rfl⟩:=sl_inj e
  exact ⟨h1,h2⟩) ?_
 rw [show 0+i+(k-i)=k by omega,List.nil_append,numL_skip (natI x) k i hi,numL_same fun q _=>(natI_erase x i q).symm]
 refine RC.run_quiet (i:=10) (sl d3 k d3c) (by kernel_rfl) rfl rfl (fun y hy=>by go_simp) ?_
 simp only [puts]
 refine ⟨by kernel_rfl,fun y hy => ?_⟩
 obtain ⟨h1,h2⟩:=hy
 have H1:=Lib.hid h1
 have H2:=Lib.hid (ownR_lst h2 Hel.out)
 clear h1 h2 hnm
 go_wp2_with fail
 go_ret
 refine ⟨⟨_,_,rfl,H2.out⟩,H1.out⟩
end Go.Proofs.Ytkbbhihndigmeaa

namespace Go.Proofs.Ytkbbhihndigmeaa
open Go Go.RowKit
section
variable {P:Program} {ops:Array Oper} {md:Region.Mode} {w0:World}
def Fresh3 (w0:World) (m ta:Nat) (z:Obj) (done:Array Bool) (a:Act) (w:World):Prop:=
 Below w0.heap.size w0 w∧(done.getD m false=true → ∀ b,a.tmps[ta]? = some (ptrTo b)→w0.heap.size≤b∧w.heap[b]? = some z)
theorem headG_any3 {n m ta g:Nat} {z:Obj} {om:Oper} {L:Array Bool→Act→Prop} {Q:Exit→Act→World→Prop} (hm:ops[m]? = some om) (hgd:om.guard=none) (hdm:om.dst=some ta)
 (hal : ∀ (a:Act) (w:World),(execOp a.eval om).run P w = .ok (.value (ptrTo w.heap.size)) (w.alloc z)) (hdst : ∀ i o,i ≠ m→ops[i]? = some o→o.dst ≠ some ta)
 (hL : ∀ done a w,Fresh3 w0 m ta z done a w→L done a→wpAny P md ops Q g done a w) :
 ∀ (f:Nat) (done:Array Bool) (a:Act) (w:World),Fresh3 w0 m ta z done a w→HeadG P md ops w0 n m ta L f done a→wpAny P md ops Q (f+g) done a w:=by
 intro f
 induction f with
 | zero=>intro done a w hw h; rw [Nat.zero_add]; exact hL _ _ _ hw h
 | succ f ih=>
   intro done a w hw h
   rw [Nat.succ_add]
   refine ⟨fun e=>absurd e h.1,fun i hi => ?_⟩
   rcases (h.2 i hi).2 with ⟨rfl,hb⟩ | ⟨hne,o,v,ho,hg,hK⟩
   ·unfold wpOp
    simp only [hm]
    rw [if_pos (by simp [Region.wanted,hgd])]
    refine .inl ?_
    unfold Oper.wp
    rw [hal,Oper.upon_value,hdm]
    refine ih _ _ _ ⟨hw.1.alloc hw.1.size z,fun _ b hb' => ?_⟩ (hb _ hw.1.size)
    by_cases hlt:ta<a.tmps.size
    ·simp [Act.put,hlt] at hb'
     subst hb'
     exact ⟨hw.1.size,World.alloc_heap_new w z⟩
    ·simp [Act.put,hlt] at hb'
   ·have fr : ∀ w'',Below w.heap.size w w''→Fresh3 w0 m ta z (done.setIfInBounds i true) (a.put o.dst v) w'':=fun w'' hb=>⟨hw.1.trans (hb.mono hw.1.size),fun hdn b hb'=>by
      rw [getD_set_ne false hne] at hdn
      rw [put_other (hdst i o hne ho)] at hb'
      have:=hw.2 hdn b hb'
      exact ⟨this.1,(hb.block b (Array.getElem?_eq_some_iff.1 this.2).1).trans this.2⟩⟩
    unfold wpOp
    simp only [ho]
    rcases hg with ⟨hwt,hg⟩ | ⟨hwt,rfl⟩
    ·rw [if_pos hwt]
     refine .inl ?_
     have h3:=hg w hw.1
     unfold Oper.wp
     generalize (execOp a.eval o).run P w=r at h3 ⊢
     cases r with
     | ok x w'=>
       cases x <;> simp only [growUpon] at h3 <;> simp only [Oper.upon]
       case value u=>
        obtain ⟨e1,e2⟩:=h3
        rw [e1,e2]
        exact ih _ _ _ (fr w (Below.refl _ _)) hK
       case skip=>
        obtain ⟨e1,e2⟩:=h3
        rw [e1, ← e2]
        exact ih _ _ _ (fr w (Below.refl _ _)) hK
       case enter f' args=>
        obtain ⟨e1,hc⟩:=h3
        rw [e1]
        exact hc.mono fun e w'' ⟨he,hb⟩=>by subst he; exact ih _ _ _ (fr w'' hb) hK
     | halt x w'=>simp only [growUpon] at h3
    ·rw [if_neg (by simp [hwt])]
     exact ih _ _ _ (fr w (Below.refl _ _)) hK
theorem headG_lex3 {m ta g:Nat} {om:Oper} {Lq:Act→Prop} (hm:ops[m]? = some om) (hdm:om.dst=some ta) (hsel:Region.noSelect ops=true) (hs:Region.sinkB md ops (m+1)=true) (hc:Region.chainB md ops (m+1)=true) (hn:m+1<ops.size) :
 ∀ (l:List Oper) (k:Nat) (done:Array Bool) (a:Act),(∀ j,j<l.length→l[j]? = ops[k+j]?)→k+l.length=m→HeadInv md ops (m+1) done→(∀ j,j<k→done.getD j true=true) →
 Region.lexHead md ops g (l.length+1) k done=true→WalkG P ops w0 (fun a'=> ∀ b,w0.heap.size≤b→Lq (a'.put (some ta) (ptrTo b))) l a →
 HeadG P md ops w0 (m+1) m ta (fun done' a'=>Region.seqB md ops g (m+1) done'=true∧Lq a'∧done'.getD m false=true) (l.length+1) done a:=by
 intro l
 induction l with
 | nil=>
   intro k done a _ hk inv hd hB h
   obtain rfl:k=m:=by simpa using hk
   simp only [List.length_nil,Region.lexHead,Bool.and_eq_true] at hB
   have hr:k ∈ Region.ready md ops done:=by simpa using hB.1.1
   have open_:=(mem_ready.1 hr).1
   refine ⟨List.ne_nil_of_mem hr,fun j hj => ?_⟩
   have hjn:j<k+1:=Nat.lt_of_not_le fun h=>tail_waits hs hc hn inv _ k rfl (Nat.lt_succ_self k) open_ j h hj
   obtain rfl:j=k:=by
    rcases Nat.lt_or_ge j k with h | h
    ·have h1:=hd j h
     rw [(mem_ready.1 hj).1] at h1
     cases h1
    ·omega
   have hsz:j<done.size:=by rw [inv.size]; omega
   exact ⟨hjn, .inl ⟨rfl,fun b hb=>⟨hB.2,h b hb,by simp [hsz]⟩⟩⟩
 | cons o l ih=>
   intro k done a hl hk inv hd hB h
   have h0:ops[k]? = some o:=by simpa using (hl 0 (by simp)).symm
   rw [List.length_cons] at hk
   rw [List.length_cons,Region.lexHead] at hB
   simp only [Bool.and_eq_true] at hB
   have hkn:k<m+1:=by omega
   have hr:k ∈ Region.ready md ops done:=by simpa using hB.1.1
   obtain ⟨v,hy,hK⟩:=h
   have hsz:k<done.size:=by rw [inv.size]; exact (Array.getElem?_eq_some_iff.1 h0).1
   refine headG_first hm hdm h0 (by omega) (Region.noSelect_spec hsel) hs hc hn hkn (fun _ _ hL=>seqB_ready hL.1) (l.length+1) done a inv (Region.free_spec h0 hB.1.2) hr hy (ih (k+1) _ _ ?_ (by omega) (inv.set hr hkn) ?_ hB.2 hK)
   ·intro j hj
    have:=hl (j+1) (by simp; omega)
    simpa [Nat.add_assoc,Nat.add_comm 1 j] using this
   ·intro j hj
    by_cases e:j=k
    ·subst e; simp [hsz]
    ·rw [getD_set_ne true (Ne.symm e)]; exact hd j (by omega)
theorem any_float3 {Q:Exit→Act→World→Prop} {a:Act} {w:World} {l:List Oper} (m ta s:Nat) (z:Obj) (om:Oper) (hB:Region.lexTailB .any l.toArray (m+1)=true) (hm:l[m]? = some om) (hgd:om.guard=none) (hdm:om.dst=some ta)
 (hal : ∀ (a:Act) (w:World),(execOp a.eval om).run P w = .ok (.value (ptrTo w.heap.size)) (w.alloc z)) (hoff:offDst ta m l=true) (hown:ownDst s (l.take m)=true) (hs:a.tmps.size=s) (hta':ta<a.tmps.size)
 (h : ∃ af,(∀ w1,Below w.heap.size w w1 → ∀ K:Act→Prop,K af→wpQuiet P l.toArray (fun w'=> ∃ x:Later w1,w'=x.w) K (l.take m) a) ∧
   ∀ (b:Nat) (w':World),w.heap.size≤b→Below w.heap.size w w'→w'.heap[b]? = some z→wpList P l.toArray Q (l.drop (m+1)) (af.put (some ta) (ptrTo b)) w') :
 wpAny P .any l.toArray Q l.toArray.size (Array.replicate l.toArray.size false) a { w with drawn:=w.drawn+1 } := by
 obtain ⟨af,h1',h2⟩:=h
 have h1:=fun w1 hb=>h1' w1 hb (fun a'=>a'=af) rfl
 simp only [Region.lexTailB,Bool.and_eq_true,decide_eq_true_eq] at hB
 obtain ⟨⟨⟨⟨hsel,hn⟩,hsk⟩,hc⟩,hlex⟩:=hB
 have hn':m+1<l.length:=by simpa using hn
 have htl:(l.take m).length=m:=by simp; omega
 have hdl:(l.drop (m+1)).length=l.toArray.size-(m+1):=by simp
 have hm':l.toArray[m]? = some om:=by simpa using hm
 have inv0:HeadInv .any l.toArray (m+1) (Array.replicate l.toArray.size false):=
  ⟨by simp,fun j oj _ hl=>(by rw [getD_replicate_false] at hl; cases hl),fun t _ ht=>getD_in (by simpa using ht) (getD_replicate_false _ _)⟩
 have hW:=walkG_of (K:=fun a'=> ∀ b,w.heap.size≤b→(fun a''=> ∃ b,a''=af.put (some ta) (ptrTo b)) (a'.put (some ta) (ptrTo b))) (fun b _=>⟨b,rfl⟩) (l.take m) a hs hown h1
 have H:=headG_lex3 (md:= .any) (g:=l.toArray.size-(m+1)) (Lq:=fun a''=> ∃ b,a''=af.put (some ta) (ptrTo b)) hm' hdm hsel hsk hc hn (l.take m) 0 _ a (fun j hj=>by
  rw [htl] at hj
  simp [hj]) (by simpa using htl) inv0 (fun j hj=>absurd hj (Nat.not_lt_zero _)) (by rw [htl]; exact hlex) hW
 have hsz : ∀ {w1},Below w.heap.size w w1→wpQuiet P l.toArray (fun w'=> ∃ x:Later w1,w'=x.w) (fun a'=>a'=af) (l.take m) a→af.tmps.size=s:=fun {w1} hb hq=>by
  have key : ∀ (l':List Oper) (a':Act),wpQuiet P l.toArray (fun w'=> ∃ x:Later w1,w'=x.w) (fun a'=>a'=af) l' a'→af.tmps.size=a'.tmps.size:=by
   intro l'
   induction l' with
   | nil=>intro a' h; rw [← (show a'=af from h)]
   | cons o l' ih=>
     intro a' h
     simp only [wpQuiet] at h
     split at h
     ·obtain ⟨v,_,hK⟩:=h
      rw [ih _ hK]
      cases o.dst <;> simp [Act.put]
     ·rw [ih _ h]
      cases o.dst <;> simp [Act.put]
  rw [key _ _ hq,hs]
 have hasz:=hsz (Below.refl _ w) (h1 w (Below.refl _ w))
 have hdst : ∀ i o,i ≠ m→l.toArray[i]? = some o→o.dst ≠ some ta:=fun i o hi ho=>by
  have hil:i<l.length:=by have:=(Array.getElem?_eq_some_iff.1 ho).1; simpa using this
  have:=List.all_eq_true.1 hoff i (by simpa using hil)
  have ho':l[i]? = some o:=by simpa using ho
  simpa [ho',hi] using this
 have:=headG_any3 (Q:=Q) (z:=z) (g:=l.toArray.size-(m+1)) hm' hgd hdm hal hdst (fun done a' w' hw' hL=>by
  obtain ⟨hq,⟨b,rfl⟩,hdn⟩:=hL
  have hf:=hw'.2 hdn b (by simp [Act.put,hasz, ← hs,hta'])
  have:=wpAny_of_seq (md:= .any) (Q':=Q) (l.drop (m+1)) (m+1) done _ w' (fun j=>by simp [List.getElem?_drop]) (by rw [hdl]; exact hq) (h2 b w' hf.1 hw'.1 hf.2)
  rwa [hdl] at this) _ _ _ { w with drawn:=w.drawn+1 } ⟨(Below.refl _ w).drew,fun hdn=>(by rw [getD_replicate_false] at hdn; cases hdn)⟩ H
 rw [htl,show m+1+(l.toArray.size-(m+1))=l.toArray.size by omega] at this
 exact this
theorem wp_region_float3 {id:Nat} {Q:Exit→Act→World→Prop} {a:Act} {w:World} {l:List Oper} (m ta s:Nat) (z:Obj) (om:Oper) (hmo:P.follows .mixedOrders=true) (hB:Region.lexTailB .any l.toArray (m+1)=true) (hm:l[m]? = some om) (hgd:om.guard=none) (hdm:om.dst=some ta)
 (hal : ∀ (a:Act) (w:World),(execOp a.eval om).run P w = .ok (.value (ptrTo w.heap.size)) (w.alloc z)) (hoff:offDst ta m l=true) (hown:ownDst s (l.take m)=true) (hs:a.tmps.size=s) (hta:ta<a.tmps.size)
 (h : ∃ af,(∀ w1,Below w.heap.size w w1 → ∀ K:Act→Prop,K af→wpQuiet P l.toArray (fun w'=> ∃ x:Later w1,w'=x.w) K (l.take m) a) ∧
   ∀ (b:Nat) (w':World),w.heap.size≤b→Below w.heap.size w w'→w'.heap[b]? = some z→wpList P l.toArray Q (l.drop (m+1)) (af.put (some ta) (ptrTo b)) w') :
 (Code.region id l.toArray true).wp P Q a w:=
 wp_region_any hmo (any_float3 m ta s z om hB hm hgd hdm hal hoff hown hs hta h)
end
end Go.Proofs.Ytkbbhihndigmeaa

namespace Go.Proofs.Ytkbbhihndigmeaa
open Go Go.RowKit
set_option maxHeartbeats 400000 in
theorem rLess_c (a b c d:Int) (w:World) (ha : -1152921504606846976≤a*d) (ha':a*d≤1152921504606846976) (hc : -1152921504606846976≤c*b) (hc':c*b≤1152921504606846976) :
 Calls Try.prog 44 #[.agg #[.int .i64 a, .int .i64 b], .agg #[.int .i64 c, .int .i64 d]] w fun e w'=>e = .returned (.bool (ltB a b c d))∧Below w.heap.size w w':=by
 have hw1:wrap64 (a*d)=a*d:=IntWalk.wrap64_in _ ⟨by omega,by omega⟩
 have hw2:wrap64 (c*b)=c*b:=IntWalk.wrap64_in _ ⟨by omega,by omega⟩
 go_enter Try.func44,Try.ntmps44
 go_wp2
 go_ret
 exact ⟨rfl,((Below.refl _ _).alloc (Nat.le_refl _) _).alloc (by simp) _⟩
def isPureB (f:Nat→Row3) (m n r c:Nat):Bool:=decide (∀ i,i<m→(f i).g c≤(f r).g c) && decide (∀ k,k<n→(f r).g c≤(f r).g k)
set_option maxRecDepth 100000 in
set_option maxHeartbeats 8000000 in
theorem rIsPure_c (a:Option Addr) (m n cap:Nat) (f:Nat→Row3) (r c:Nat) (w:World) (hf:Tab w a m f) (hO:Okay m n f) (hr:r<m) (hc:c<n) :
 Calls Try.prog 46 #[tabV a m cap, .int .i64 r, .int .i64 c] w fun e w'=>e = .returned (.bool (isPureB f m n r c))∧Below w.heap.size w w':=by
 obtain ⟨hb,off,rfl,hbs, -⟩:=Tab.at hf 0 hO.m1
 obtain ⟨W,hW⟩ : ∃ W,w.alloc (.cells #[.slice (some ⟨hb,off,none⟩) m cap] 24)=W:=⟨_,rfl⟩
 have hB:Below w.heap.size w W:=by rw [← hW]; exact Below.alloc1 (Below.refl _ _) _ (Nat.le_refl _)
 have hD:RowIs W w.heap.size #[.slice (some ⟨hb,off,none⟩) m cap] 24:=by rw [← hW]; exact heap_new_at _ _ _ rfl
 have HF:=Lib.hid (hf.below hB)
 have HB:=Lib.hid hB
 have HD:=Lib.hid hD
 have HO:=Lib.hid hO
 have hm4:=hO.m4
 have hn4:=hO.n4
 have hbW:hb<W.heap.size:=Nat.lt_of_lt_of_le hbs hB.size
 -- what is read in a later world
 have facts : ∀ (y:World),Below W.heap.size W y → ∀ i j,i<m→j<n → ∃ ra ro,(f i).a=some ⟨ra,ro,none⟩∧ra<y.heap.size∧y.cell? ⟨hb,off+i,none⟩=some (.slice (some ⟨ra,ro,none⟩) n (f i).cap)∧y.cell? ⟨ra,ro+j,none⟩=some (.int .i64 ((f i).g j)):=fun y hy i j hi hj=>by
  have hT:=HF.out.below hy
  obtain ⟨b',o',e,_,hct⟩:=Tab.at hT i hi
  cases e
  obtain ⟨ra,ro,era,hra,hrc⟩:=Cells.at (hT.2 i hi) j (by rw [HO.out.len i hi]; exact hj)
  have k1:=hct i hi
  rw [HO.out.len i hi,era] at k1
  exact ⟨ra,ro,era,hra,k1,hrc j (by rw [HO.out.len i hi]; exact hj)⟩
 have HFa:=Lib.hid facts
 obtain ⟨rs,hrs⟩ : ∃ rs,isPureB f m n r c=rs:=⟨_,rfl⟩
 rw [hrs]
 have Hrs:=Lib.hid hrs
 clear facts hf hO hB hD hrs
 go_enter Try.func46,Try.ntmps46
 go_wp2_with fail
 go_loopw [7] (fun i wr=> ∃ k:Nat,k≤m∧i = .int .i64 k∧(∀ i,i<k→(f i).g c≤(f r).g c)∧Below W.heap.size W wr) (fun i _=>m-(intOf i).toNat)
 case atStart=>exact ⟨0,Nat.zero_le _,rfl,fun i hi=>absurd hi (Nat.not_lt_zero _),Below.refl _ _⟩
 case round=>
  obtain ⟨k,hk,rfl,hno,hbb⟩:=hrel
  have hDr:=HD.out.below hbb
  have d0:wr.cell? ⟨w.heap.size,0,none⟩=some (.slice (some ⟨hb,off,none⟩) m cap):=hDr.cell 0
  have dz:=hDr.lt
  have hbz:hb<wr.heap.size:=Nat.lt_of_lt_of_le hbW hbb.size
  have ir:(r:Int)<(m:Int):=by omega
  have ic:(c:Int)<(n:Int):=by omega
  by_cases hlt:k<m
  ·obtain ⟨ra,ro,_,hra,k1,k2⟩:=HFa.out wr hbb k c hlt hc
   obtain ⟨sa,so,_,hsa,k3,k4⟩:=HFa.out wr hbb r c hr hc
   have ik:(k:Int)<(m:Int):=by omega
   have Hno:=Lib.hid hno
   have Hbb:=Lib.hid hbb
   clear hno hbb hDr
   by_cases hg:(f k).g c≤(f r).g c
   ·have t0:decide ((f k).g c > (f r).g c)=false:=decide_eq_false (by omega)
    have t1:decide ((f r).g c<(f k).g c)=false:=decide_eq_false (by omega)
    go_wp2_with fail
    go_quiet (fail)
    go_wp2_with fail
    go_roundw
    case rel=>
     refine ⟨k+1,by omega,by go_num,fun i hi => ?_,bup Hbb.out (below_drewN (Below.refl _ _) _)⟩
     rcases Nat.lt_or_ge i k with h | h
     ·exact Hno.out i h
     ·obtain rfl:i=k:=by omega
      exact hg
    case measure=>simp [intOf]; omega
   ·have t0:decide ((f k).g c > (f r).g c)=true:=decide_eq_true (by omega)
    have t1:decide ((f r).g c<(f k).g c)=true:=decide_eq_true (by omega)
    have hp:rs=false:=by
     rw [← Hrs.out]
     unfold isPureB
     rw [decide_eq_false (fun h=>hg (h k hlt)),Bool.false_and]
    have Hp:=Lib.hid hp
    clear hp
    go_wp2_with fail
    go_quiet (fail)
    go_wp2_with fail
    go_ret
    exact ⟨by rw [Hp.out]; rfl,HB.out.trans ((bup Hbb.out (below_drewN (Below.refl _ _) _)).mono HB.out.size)⟩
  ·obtain rfl:k=m:=by omega
   have Hall:=Lib.hid hno
   have Hbb:=Lib.hid hbb
   clear hno hbb hDr
   go_wp2_with fail
   clear d0 dz hbz
   go_loopw [8] (fun i wi=> ∃ l:Nat,l≤n∧i = .int .i64 l∧(∀ i,i<l→(f r).g c≤(f r).g i)∧Below W.heap.size W wi) (fun i _=>n-(intOf i).toNat)
   case atStart=>exact ⟨0,Nat.zero_le _,rfl,fun i hi=>absurd hi (Nat.not_lt_zero _),Hbb.out⟩
   case round=>
    obtain ⟨l,hl,rfl,hno,hbb⟩:=hrel
    have hDr:=HD.out.below hbb
    have d0:wr.cell? ⟨w.heap.size,0,none⟩=some (.slice (some ⟨hb,off,none⟩) k cap):=hDr.cell 0
    have dz:=hDr.lt
    have hbz:hb<wr.heap.size:=Nat.lt_of_lt_of_le hbW hbb.size
    obtain ⟨za,zo,_,hza,k0,_⟩:=HFa.out wr hbb 0 c HO.out.m1 hc
    rw [Nat.add_zero] at k0
    have i0:(0:Int)<(k:Int):=by have:=HO.out.m1; omega
    by_cases hlt:l<n
    ·obtain ⟨ra,ro,e1,hra,k1,k2⟩:=HFa.out wr hbb r l hr hlt
     obtain ⟨sa,so,e2,hsa,k3,k4⟩:=HFa.out wr hbb r c hr hc
     rw [e1] at e2
     cases e2
     have il:(l:Int)<(n:Int):=by omega
     have Hno:=Lib.hid hno
     have Hbb2:=Lib.hid hbb
     clear hno hbb hDr
     by_cases hg:(f r).g c≤(f r).g l
     ·have t0:decide ((f r).g l<(f r).g c)=false:=decide_eq_false (by omega)
      go_wp2_with fail
      go_quiet (fail)
      go_wp2_with fail
      go_roundw
      case rel=>
       refine ⟨l+1,by omega,by go_num,fun i hi => ?_,bup Hbb2.out (below_drewN (Below.refl _ _) _)⟩
       rcases Nat.lt_or_ge i l with h | h
       ·exact Hno.out i h
       ·obtain rfl:i=l:=by omega
        exact hg
      case measure=>simp [intOf]; omega
     ·have t0:decide ((f r).g l<(f r).g c)=true:=decide_eq_true (by omega)
      have hp:rs=false:=by
       rw [← Hrs.out]
       unfold isPureB
       rw [decide_eq_false (p:= ∀ k,k<n→(f r).g c≤(f r).g k) (fun h=>hg (h l hlt)),Bool.and_false]
      have Hp:=Lib.hid hp
      clear hp
      go_wp2_with fail
      go_quiet (fail)
      go_wp2_with fail
      go_ret
      exact ⟨by rw [Hp.out]; rfl,HB.out.trans ((bup Hbb2.out (below_drewN (Below.refl _ _) _)).mono HB.out.size)⟩
    ·obtain rfl:l=n:=by omega
     have hp:rs=true:=by
      rw [← Hrs.out]
      unfold isPureB
      rw [decide_eq_true Hall.out,decide_eq_true hno]
      rfl
     have Hp:=Lib.hid hp
     have Hbb2:=Lib.hid hbb
     clear hp hno hbb hDr
     go_wp2_with fail
     go_ret
     exact ⟨by rw [Hp.out]; rfl,HB.out.trans (Hbb2.out.mono HB.out.size)⟩
end Go.Proofs.Ytkbbhihndigmeaa
