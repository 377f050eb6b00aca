/- Contracts of layer 3: Answers (the program). -/
import Derived.Test.YtkbbhihndigmeaaProg
import Derived.Test.YtkbbhihndigmeaaBasaa
import Derived.Test.YtkbbhihndigmeaaBasat
import Derived.Test.YtkbbhihndigmeaaBasan
import Derived.Test.YtkbbhihndigmeaaBasau
import Derived.Shelf.Abstract
import Derived.Shelf.RegionOpen
import Derived.Test.YtkbbhihndigmeaaBasao
import Derived.Test.YtkbbhihndigmeaaBasax
import Derived.LoopN
import Derived.Test.YtkbbhihndigmeaaBasar
namespace Go.Proofs.Ytkbbhihndigmeaa
open Go Go.RowKit Go.Shelf
set_option maxRecDepth 100000 in
set_option maxHeartbeats 8000000 in
theorem Answers_c (a:Option Addr) (m cap:Nat) (f:Nat→Row3) (pa:Option Addr) (len pcap:Nat) (p:Nat→Int) (w:World) (hf:Tab w a m f) (hm:m≤1048576) (hr : ∀ i,i<m→(f i).n≤1048576) (hp:Ints w pa len p) (hl:len≤1048576) :
 Calls Try.prog 33 #[tabV a m cap, .slice pa len pcap] w fun e w'=>((tableE m f ≠ 0∧e = .returned (.tuple #[.slice none 0 0, .int .i64 (tableE m f)]))∨(tableE m f=0∧planE len (f 0).n p ≠ 0∧e = .returned (.tuple #[.slice none 0 0, .int .i64 (planE len (f 0).n p)])) ∨
  (tableE m f=0∧planE len (f 0).n p=0 ∧ ∃ f',Shop f f' m (f 0).n ∧ ∃ x c,e = .returned (.tuple #[.slice x (worstK f' (f 0).n m (padF p (f 0).n) m).length c, .int .i64 0])∧Lst w' (worstK f' (f 0).n m (padF p (f 0).n) m) x c))∧Below w.heap.size w w':=by
 obtain ⟨W,hW⟩ : ∃ W,w.alloc (.cells #[.slice a m cap] 24)=W:=⟨_,rfl⟩
 have hB:Below w.heap.size w W:=by rw [← hW]; exact Below.alloc1 (Below.refl _ _) _ (Nat.le_refl _)
 have hR:RowIs W w.heap.size #[.slice a m cap] 24:=by rw [← hW]; exact heap_new_at _ _ _ rfl
 have r0:W.cell? ⟨w.heap.size,0,none⟩=some (.slice a m cap):=RowIs.cell hR 0
 have rz:w.heap.size<W.heap.size:=hR.lt
 have HP:=Lib.hid (fun (x:World) (h:Below w.heap.size w x)=>Cells.below hp h)
 have HB:=Lib.hid hB
 by_cases hE:tableE m f=0
 ·have hO:=okay_of hE
  have HD:=Lib.hid (newDesks_yes_c a m (f 0).n cap f W (hf.below hB) hO)
  obtain ⟨n,hn⟩ : ∃ n,(f 0).n=n:=⟨_,rfl⟩
  rw [hn] at hO HD ⊢
  have HO:=Lib.hid hO
  have HE:=Lib.hid hE
  by_cases hL:planE len n p=0
  ·obtain ⟨hlen,hpb,hs⟩:=plan_ok hL
   have HPlY:=Lib.hid (planP_yes hL)
   have HL:=Lib.hid hL
   have hpb2 : ∀ i,i<n→0≤padF p n i∧padF p n i≤100000000:=fun i hi=>by rw [pad_in i hi]; exact hpb i hi
   have HPb:=Lib.hid hpb2
   clear hf hB hR hE hn hr hm hO hp hlen hpb hs hL hpb2
   go_enter Try.func33,Try.ntmps33
   go_wp2_with fail
   refine HD.out.mono ?_
   rintro e w1 ⟨⟨L,f',rfl,hT',g1,g2⟩,hb1⟩
   clear hW HD r0 rz
   obtain ⟨X,hX⟩ : ∃ X,(w1.alloc (.cells #[.slice a m cap] 73)).alloc (.cells #[.slice (some ⟨L,0,none⟩) n n] 73)=X:=⟨_,rfl⟩
   have hXb:Below w1.heap.size w1 X:=by rw [← hX]; exact Below.alloc1 (Below.alloc1 (Below.refl _ _) _ (Nat.le_refl _)) _ (Nat.le_refl _)
   have hX2:RowIs X (w1.heap.size+1) #[.slice (some ⟨L,0,none⟩) n n] 73:=by rw [← hX]; exact heap_new_at _ _ _ (by simp)
   have hBX:Below w.heap.size w X:=bup (bup HB.out hb1) hXb
   have x2:X.cell? ⟨w1.heap.size+1,0,none⟩=some (.slice (some ⟨L,0,none⟩) n n):=RowIs.cell hX2 0
   have xz2:=hX2.lt
   have hO':=okay_turn HO.out g1 g2
   have hNP:=newPlan_c (some ⟨L,0,none⟩) n m n f' pa len pcap p X (hT'.below hXb) hO' (HP.out _ hBX) hl
   rw [HPlY.out,HL.out] at hNP
   have HNP:=Lib.hid hNP
   have HO':=Lib.hid hO'
   have HTX:=Lib.hid (hT'.below hXb)
   have HG:=Lib.hid (show Shop f f' m n from ⟨g1,g2⟩)
   have HBX:=Lib.hid hBX
   have HX2:=Lib.hid hX2
   clear hX2 hBX hXb hb1 hT' g1 g2 hO' hNP
   go_wp2_with fail
   refine HNP.out.mono ?_
   rintro e w2 ⟨rfl,hb2⟩
   clear hX x2 xz2
   obtain ⟨Y,hY⟩ : ∃ Y,w2.alloc (.cells #[.int .i64 (padF p n 0), .int .i64 (padF p n 1), .int .i64 (padF p n 2), .int .i64 (padF p n 3)] 77)=Y:=⟨_,rfl⟩
   have hYb:Below w2.heap.size w2 Y:=by rw [← hY]; exact Below.alloc1 (Below.refl _ _) _ (Nat.le_refl _)
   have hYr:RowIs Y w2.heap.size (planRow (padF p n)) 77:=by rw [← hY]; exact heap_new_at _ _ _ rfl
   obtain ⟨⟨p0,p1,p2,p3⟩,pz⟩:=row4 hYr
   have hY2:=(HX2.out.below hb2).below hYb
   have y2:Y.cell? ⟨w1.heap.size+1,0,none⟩=some (.slice (some ⟨L,0,none⟩) n n):=RowIs.cell hY2 0
   have yz2:=hY2.lt
   have HWo:=Lib.hid (worst_c (some ⟨L,0,none⟩) n m n f' (padF p n) Y ((HTX.out.below hb2).below hYb) HO'.out HPb.out)
   have HBY:=Lib.hid (bup (bup HBX.out hb2) hYb)
   clear hYb hYr hY2 hb2
   go_wp2_with fail
   refine HWo.out.mono ?_
   rintro e w3 ⟨x,c,rfl,h1,h2⟩
   have H1:=Lib.hid h1
   have HB3:=Lib.hid (bup HBY.out h2)
   clear h1 h2
   go_wp2_with fail
   exact bodyPost_ret (v:= .tuple #[.slice x (worstK f' n m (padF p n) m).length c, .int .i64 0]) (by simp [results,Try.results33,go_sem]) rfl ⟨.inr (.inr ⟨HE.out,HL.out,f',HG.out,x,c,rfl,H1.out⟩),HB3.out⟩
  ·have HPlN:=Lib.hid (planP_no hL)
   have t0:(planE len n p != 0)=true:=by simpa using hL
   have HL:=Lib.hid hL
   obtain ⟨E,hE2⟩ : ∃ E,planE len n p=E:=⟨_,rfl⟩
   rw [hE2] at t0 HL ⊢
   have HE2:=Lib.hid hE2
   clear hf hB hR hE hn hr hm hO hp hL hE2
   go_enter Try.func33,Try.ntmps33
   go_wp2_with fail
   refine HD.out.mono ?_
   rintro e w1 ⟨⟨L,f',rfl,hT',g1,g2⟩,hb1⟩
   clear hW HD r0 rz
   obtain ⟨X,hX⟩ : ∃ X,(w1.alloc (.cells #[.slice a m cap] 73)).alloc (.cells #[.slice (some ⟨L,0,none⟩) n n] 73)=X:=⟨_,rfl⟩
   have hXb:Below w1.heap.size w1 X:=by rw [← hX]; exact Below.alloc1 (Below.alloc1 (Below.refl _ _) _ (Nat.le_refl _)) _ (Nat.le_refl _)
   have hX2:RowIs X (w1.heap.size+1) #[.slice (some ⟨L,0,none⟩) n n] 73:=by rw [← hX]; exact heap_new_at _ _ _ (by simp)
   have hBX:Below w.heap.size w X:=bup (bup HB.out hb1) hXb
   have x2:X.cell? ⟨w1.heap.size+1,0,none⟩=some (.slice (some ⟨L,0,none⟩) n n):=RowIs.cell hX2 0
   have xz2:=hX2.lt
   have hNP:=newPlan_c (some ⟨L,0,none⟩) n m n f' pa len pcap p X (hT'.below hXb) (okay_turn HO.out g1 g2) (HP.out _ hBX) hl
   rw [HPlN.out,HE2.out] at hNP
   have HNP:=Lib.hid hNP
   have HBX:=Lib.hid hBX
   clear hX2 hBX hXb hb1 hT' g1 g2 hNP
   go_wp2_with fail
   refine HNP.out.mono ?_
   rintro e w2 ⟨rfl,hb2⟩
   have HB2:=Lib.hid (Below.alloc1 (bup HBX.out hb2) (.cells #[.int .i64 0, .int .i64 0, .int .i64 0, .int .i64 0] 77) (Nat.le_refl _))
   clear hX x2 xz2 hb2
   go_wp2_with fail
   exact bodyPost_ret (v:= .tuple #[.slice none 0 0, .int .i64 E]) (by simp [results,Try.results33,go_sem]) rfl ⟨.inr (.inl ⟨HE.out,HL.out,rfl⟩),HB2.out⟩
 ·have HD:=Lib.hid (newDesks_no_c a m cap f W (hf.below hB) hm hr hE)
  have t0:(tableE m f != 0)=true:=by simpa using hE
  have HE:=Lib.hid hE
  obtain ⟨E,hE2⟩ : ∃ E,tableE m f=E:=⟨_,rfl⟩
  rw [hE2] at HD HE t0 ⊢
  clear hf hB hR hE hE2 hr hm hp
  go_enter Try.func33,Try.ntmps33
  go_wp2_with fail
  refine HD.out.mono ?_
  rintro e w1 ⟨rfl,hb1⟩
  clear hW HD r0
  have HBX:=Lib.hid (Below.alloc1 (Below.alloc1 (bup HB.out hb1) (.cells #[.slice none 0 0] 73) (Nat.le_refl _)) (.cells #[.slice none 0 0] 73) (Nat.le_refl _))
  clear hb1
  go_wp2_with fail
  exact bodyPost_ret (v:= .tuple #[.slice none 0 0, .int .i64 E]) (by simp [results,Try.results33,go_sem]) rfl ⟨.inl ⟨HE.out,rfl⟩,HBX.out⟩
end Go.Proofs.Ytkbbhihndigmeaa

namespace Go.Proofs.Ytkbbhihndigmeaa
open Go Go.RowKit Go.Shelf
def leastL (g:Nat→Int) (m k:Nat):List Nat:=(List.range k).filter fun i=>decide (g i=leastF g m)
theorem leastL_no {g:Nat→Int} {m k:Nat} (e : ¬ g k=leastF g m):leastL g m (k+1)=leastL g m k:=by simp [leastL,List.range_succ,e]
theorem leastL_yes {g:Nat→Int} {m k:Nat} (e:g k=leastF g m):leastL g m (k+1)=leastL g m k ++ [k]:=by simp [leastL,List.range_succ,e]
theorem leastL_len (g:Nat→Int) (m k:Nat):(leastL g m k).length≤k:=by
 have:=List.length_filter_le (fun i=>decide (g i=leastF g m)) (List.range k)
 simpa [leastL] using this
abbrev ansL (f:Nat→Row3) (m n:Nat) (q:Nat→Int):List Nat:=leastL (ag (flip (lossA f)) q n) m m
theorem ans_same {f f':Nat→Row3} {m n:Nat} {q:Nat→Int} (hm:1≤m) (h:Shop f f' m n):worstK f' n m (padF q n) m=ansL f m n q:=by
 have e : ∀ j,ag (lossA f') (padF q n) n j=ag (flip (lossA f)) q n j:=fun j=>by
  rw [← loss_turn h.2]
  exact dotN_at (fun i hi=>pad_in i hi) fun _ _=>rfl
 unfold worstK ansL leastL
 refine List.filter_congr fun j _ => ?_
 rw [e j,sureN_same hm (fun i hi=>pad_in i hi)]
 show decide (_=leastF (ag (lossA f') q n) m)=_
 rw [loss_turn h.2]
set_option maxRecDepth 100000 in
set_option maxHeartbeats 16000000 in
theorem rAnswers_c (a:Option Addr) (m cap:Nat) (f:Nat→Row3) (pa:Option Addr) (len pcap:Nat) (p:Nat→Int) (w:World) (hf:Tab w a m f) (hm:m≤1048576) (hp:Ints w pa len p) (hl:len≤1048576) :
 Calls Try.prog 34 #[tabV a m cap, .slice pa len pcap] w fun e w'=>((boundR m f len p).2.2 ≠ 0∧e = .returned (.tuple #[.slice none 0 0, .int .i64 (boundR m f len p).2.2])∨(boundR m f len p).2.2=0 ∧ ∃ x c,e = .returned (.tuple #[.slice x (ansL f m (f 0).n p).length c, .int .i64 0])∧Lst w' (ansL f m (f 0).n p) x c)∧Below w.heap.size w w':=by
 obtain ⟨W,hW⟩ : ∃ W,w.alloc (.cells #[.slice a m cap] 24)=W:=⟨_,rfl⟩
 have hB:Below w.heap.size w W:=by rw [← hW]; exact Below.alloc1 (Below.refl _ _) _ (Nat.le_refl _)
 have hR:RowIs W w.heap.size #[.slice a m cap] 24:=by rw [← hW]; exact heap_new_at _ _ _ rfl
 have r0:W.cell? ⟨w.heap.size,0,none⟩=some (.slice a m cap):=RowIs.cell hR 0
 have rz:w.heap.size<W.heap.size:=hR.lt
 have HBo:=Lib.hid (rBound_c a m cap f pa len pcap p W (hf.below hB) hm (Cells.below hp hB) hl)
 have HF:=Lib.hid (hf.below hB)
 have HP:=Lib.hid (Cells.below hp hB)
 have HR:=Lib.hid hR
 have HB:=Lib.hid hB
 have hcase:(boundR m f len p).2.2=0→tableE m f=0∧planE len (f 0).n p=0:=fun h=>by
  unfold boundR at h
  by_cases h1:tableE m f ≠ 0
  ·rw [if_pos h1] at h; exact absurd h h1
  ·rw [if_neg h1] at h
   by_cases h2:planE len (f 0).n p ≠ 0
   ·rw [if_pos h2] at h; exact absurd h h2
   ·exact ⟨by omega,by omega⟩
 obtain ⟨R,hRe⟩ : ∃ R,boundR m f len p=R:=⟨_,rfl⟩
 rw [hRe] at HBo hcase ⊢
 obtain ⟨x1,x2,E⟩:=R
 dsimp only at hcase HBo ⊢
 clear hf hB hR hp hRe
 by_cases hE:E=0
 ·obtain ⟨hT,hL⟩:=hcase hE
  have t0:(E != 0)=false:=by simpa using hE
  have HE:=Lib.hid hE
  obtain ⟨hln,hb8,hs⟩:=plan_ok hL
  obtain ⟨n,hn⟩ : ∃ n,(f 0).n=n:=⟨_,rfl⟩
  have hO:=okay_of hT
  rw [hn] at hO hln hb8 hs ⊢
  subst hln
  have HO:=Lib.hid hO
  have HTn:=Lib.hid (fun (x:World) (h1:Tab x a m f)=>rTurned_c a m len cap f x h1 hO)
  have Hb8:=Lib.hid hb8
  obtain ⟨g,hg⟩ : ∃ g,ag (flip (lossA f)) p len=g:=⟨_,rfl⟩
  have Hg:=Lib.hid hg
  unfold ansL
  rw [hg]
  have hm1:=hO.m1
  have hm4:=hO.m4
  clear hT hL hs hO hcase hb8 hn hg hE
  go_enter Try.func34,Try.ntmps34
  go_wp2_with fail
  refine HBo.out.mono ?_
  rintro e w1 ⟨rfl,hb1⟩
  have hb2:Below w1.heap.size w1 (w1.alloc (.cells #[.int .i64 x1, .int .i64 x2] 30)):=(Below.refl _ w1).alloc (Nat.le_refl _) _
  obtain ⟨Z,hZ⟩ : ∃ Z,w1.alloc (.cells #[.int .i64 x1, .int .i64 x2] 30)=Z:=⟨_,rfl⟩
  rw [hZ] at hb2
  have hb3:=bup hb1 hb2
  replace HF:=Lib.hid (HF.out.below hb3)
  replace HP:=Lib.hid (Cells.below HP.out hb3)
  replace HR:=Lib.hid (HR.out.below hb3)
  replace HB:=Lib.hid (bup HB.out hb3)
  have s0:Z.cell? ⟨w.heap.size,0,none⟩=some (.slice a m cap):=RowIs.cell HR.out 0
  have sz:w.heap.size<Z.heap.size:=HR.out.lt
  clear hb1 hb2 hb3 hW r0 rz HBo
  go_wp2_with fail
  refine (HTn.out Z HF.out).mono ?_
  rintro e w2 ⟨⟨tp,tc,f',rfl, -, -,hT2,h2,h3⟩,hb2⟩
  have hA:=rAgainst_c tp len m tc f' pa pcap p w2 hT2 (okay_turn HO.out h2 h3) (Cells.below HP.out hb2) Hb8.out
  rw [loss_turn h3,Hg.out] at hA
  have HA:=Lib.hid hA
  replace HB:=Lib.hid (bup HB.out hb2)
  clear hT2 h2 h3 hA hb2 hZ s0 sz HTn
  go_wp2_with fail
  refine HA.out.mono ?_
  rintro e w3 ⟨b,rfl,hr3,hbz,hb3⟩
  have c0:w3.cell? ⟨b,0,none⟩=some (.int .i64 (g 0)):=(RowIs.cell hr3 0).trans (rowA_get _ _ 0 hm1)
  have cz:=hr3.lt
  have Hr3:=Lib.hid hr3
  replace HB:=Lib.hid (bup HB.out hb3)
  clear hr3 hb3 HA hbz
  go_wp2_with fail
  clear c0
  go_loop [9,10] (fun s i=> ∃ k:Nat,k≤m∧i = .int .i64 k∧s = .int .i64 (leastF g k)) (fun _ i=>m-(intOf i).toNat)
  case atStart=>exact ⟨0,Nat.zero_le _,rfl,rfl⟩
  case round=>
   obtain ⟨k,hk,rfl,rfl⟩:=hrel
   by_cases hlt:k<m
   ·have ck:w3.cell? ⟨b,k,none⟩=some (.int .i64 (g k)):=(RowIs.cell Hr3.out k).trans (rowA_get _ _ k hlt)
    have e1:=leastF_if g k
    obtain ⟨x,hx⟩ : ∃ x,leastF g (k+1)=x:=⟨_,rfl⟩
    have e2:min (leastF g k) (g k)=x:=hx
    rw [hx] at e1
    have Hx:=Lib.hid hx
    clear hx
    go_wp2
    go_round
    case rel=>exact ⟨k+1,by omega,by go_num,by rw [Hx.out]⟩
    case measure=>simp [intOf]; omega
   ·obtain rfl:k=m:=by omega
    obtain ⟨ls,hls⟩ : ∃ ls,leastF g k=ls:=⟨_,rfl⟩
    have Hls:=Lib.hid hls
    rw [hls]
    clear hls
    obtain ⟨X,hX⟩ : ∃ X:World,X=w3:=⟨_,rfl⟩
    subst hX
    go_wp2_with fail
    go_loopw [11,12] (fun c i wr=> ∃ j:Nat,j≤k∧i = .int .i64 j∧Own wr X.heap.size (leastL g k j) c∧Below X.heap.size X wr) (fun _ i _=>k-(intOf i).toNat)
    case atStart=>exact ⟨0,Nat.zero_le _,rfl,own_nil _ _,Below.refl _ _⟩
    case round=>
     obtain ⟨j,hj,rfl,hown,hbb⟩:=hrel
     by_cases hlj:j<k
     ·have hkl:=leastL_len g k j
      have cj:wr.cell? ⟨b,j,none⟩=some (.int .i64 (g j)):=(RowIs.cell (Hr3.out.below hbb) j).trans (rowA_get _ _ j hlj)
      have czz:b<wr.heap.size:=(Hr3.out.below hbb).lt
      by_cases hc:g j=ls
      ·have t0:(g j==ls)=true:=by simpa using hc
       have Hc:=Lib.hid hc
       clear hc
       obtain ⟨gj,hgj⟩ : ∃ gj,g j=gj:=⟨_,rfl⟩
       rw [hgj] at cj t0 Hc
       have Hgj:=Lib.hid hgj
       clear hgj
       obtain ⟨Y,hY⟩ : ∃ Y,wr.alloc (.cells #[.int .i64 (j:Int)] 3)=Y:=⟨_,rfl⟩
       have hXb:Below wr.heap.size wr Y:=by rw [← hY]; exact Below.alloc1 (Below.refl _ _) _ (Nat.le_refl _)
       have hXr:RowIs Y wr.heap.size #[.int .i64 (j:Int)] 3:=by rw [← hY]; exact heap_new_at _ _ _ rfl
       have hXo:=hown.below hXb
       obtain ⟨v',A',hrun,hown',hgr,hbA⟩:=hXo.append wr.heap.size j hXr (Nat.le_trans hbb.size hXb.size) (by omega)
       have Hown:=Lib.hid hown'
       have Hbb:=Lib.hid ((hbb.trans (hXb.mono hbb.size)).trans hbA)
       clear hown hbb hXr hXo hXb hown' hgr hbA
       go_wp2_with (at_builtin; refine wpList_append_run rfl _ _ 42 rfl rfl rfl hrun ?_)
       go_roundw
       case rel=>exact ⟨j+1,by omega,by go_num,by rw [leastL_yes (by rw [Hls.out,Hgj.out,Hc.out])]; exact Hown.out,Hbb.out⟩
       case measure=>simp [intOf]; omega
      ·have t0:(g j==ls)=false:=by simpa using hc
       have Hc:=Lib.hid hc
       have Hown:=Lib.hid hown
       have Hbb:=Lib.hid hbb
       clear hc hown hbb
       obtain ⟨gj,hgj⟩ : ∃ gj,g j=gj:=⟨_,rfl⟩
       rw [hgj] at cj t0 Hc
       have Hgj:=Lib.hid hgj
       clear hgj
       go_wp2_with fail
       go_roundw
       case rel=>exact ⟨j+1,by omega,by go_num,by rw [leastL_no (by rw [Hls.out,Hgj.out]; exact Hc.out)]; exact Hown.out,Hbb.out⟩
       case measure=>simp [intOf]; omega
     ·obtain rfl:j=k:=by omega
      obtain ⟨q,qc,rfl,hL,_⟩:=hown.lst
      have HL:=Lib.hid hL
      have Hbb:=Lib.hid (bup HB.out hbb)
      clear hL hbb hown
      go_wp2_with fail
      refine bodyPost_ret (v:= .tuple #[.slice q (leastL g j j).length qc, .int .i64 0]) (by simp [results,Try.results34,go_sem]) rfl ⟨.inr ⟨HE.out,q,qc,rfl,HL.out⟩,Hbb.out⟩
 ·have t0:(E != 0)=true:=by simpa using hE
  have HE:=Lib.hid hE
  clear hE hcase
  go_enter Try.func34,Try.ntmps34
  go_wp2_with fail
  refine HBo.out.mono ?_
  rintro e w1 ⟨rfl,hb1⟩
  have hb2:Below w1.heap.size w1 (w1.alloc (.cells #[.int .i64 x1, .int .i64 x2] 30)):=(Below.refl _ w1).alloc (Nat.le_refl _) _
  have H2:=Lib.hid (bup HB.out (bup hb1 hb2))
  clear hb1 hb2 hW r0 rz HBo
  go_wp2_with fail
  refine bodyPost_ret (v:= .tuple #[.slice none 0 0, .int .i64 E]) (by simp [results,Try.results34,go_sem]) rfl ⟨.inl ⟨HE.out,rfl⟩,H2.out⟩
end Go.Proofs.Ytkbbhihndigmeaa

namespace Go.Proofs.Ytkbbhihndigmeaa
open Go Go.RowKit Go.Shelf
theorem cell_lt {w:World} {b o:Nat} {v:Value} (h:w.cell? ⟨b,o,none⟩=some v):b<w.heap.size:=by
 refine Nat.lt_of_not_le fun h2 => ?_
 simp [World.cell?,Array.getElem?_eq_none h2] at h
set_option maxRecDepth 100000 in
set_option maxHeartbeats 8000000 in
theorem Value_c (a:Option Addr) (m cap:Nat) (f:Nat→Row3) (w:World) (hf:Tab w a m f) (hm:m≤1048576) (hr : ∀ i,i<m→(f i).n≤1048576) :
 Calls Try.prog 25 #[tabV a m cap] w fun e w'=>((tableE m f ≠ 0∧e = .returned (re2 (0,0,tableE m f)))∨(tableE m f=0 ∧ ∃ s,Bst f m (f 0).n s∧e = .returned (re2 (ratN (sureN f m (f 0).n (valP f m (f 0).n s)) (sumI (valP f m (f 0).n s) m),ratD (sureN f m (f 0).n (valP f m (f 0).n s)) (sumI (valP f m (f 0).n s) m),0))))∧Below w.heap.size w w':=by
 obtain ⟨W,hW⟩ : ∃ W,(w.alloc (.cells #[.slice a m cap] 24)).alloc (.cells #[.int .i64 0, .int .i64 0] 30)=W:=⟨_,rfl⟩
 have hB:Below w.heap.size w W:=by rw [← hW]; exact Below.alloc1 (Below.alloc1 (Below.refl _ _) _ (Nat.le_refl _)) _ (Nat.le_refl _)
 have hQ:RowIs W (w.heap.size+1) #[.int .i64 0, .int .i64 0] 30:=by rw [← hW]; exact heap_new_at _ _ _ (by simp)
 have hR:RowIs W w.heap.size #[.slice a m cap] 24:=by rw [← hW]; exact RowIs.alloc (heap_new_at _ _ _ rfl) _
 have r0:W.cell? ⟨w.heap.size,0,none⟩=some (.slice a m cap):=RowIs.cell hR 0
 have rz:w.heap.size<W.heap.size:=hR.lt
 have HF:=Lib.hid (fun (x:World) (h:Below w.heap.size w x)=>hf.below h)
 have HB:=Lib.hid hB
 have HQ:=Lib.hid hQ
 by_cases hE:tableE m f=0
 ·have hO:=okay_of hE
  have HD:=Lib.hid (newDesks_yes_c a m (f 0).n cap f W (hf.below hB) hO)
  obtain ⟨n,hn⟩ : ∃ n,(f 0).n=n:=⟨_,rfl⟩
  rw [hn] at hO HD ⊢
  have HO:=Lib.hid hO
  have HE:=Lib.hid hE
  clear hf hB hR hE hn hr hm hO hQ
  go_enter Try.func25,Try.ntmps25
  go_wp2_with fail
  refine HD.out.mono ?_
  rintro e w1 ⟨⟨L,f',rfl,hT',g1,g2⟩,hb1⟩
  clear hW HD r0
  obtain ⟨X,hX⟩ : ∃ X,(w1.alloc (.cells #[.slice a m cap] 73)).alloc (.cells #[.slice (some ⟨L,0,none⟩) n n] 73)=X:=⟨_,rfl⟩
  have hXb:Below w1.heap.size w1 X:=by rw [← hX]; exact Below.alloc1 (Below.alloc1 (Below.refl _ _) _ (Nat.le_refl _)) _ (Nat.le_refl _)
  have hX1:RowIs X w1.heap.size #[.slice a m cap] 73:=by rw [← hX]; exact RowIs.alloc (heap_new_at _ _ _ rfl) _
  have hBX:Below w.heap.size w X:=bup (bup HB.out hb1) hXb
  have HQX:=Lib.hid ((HQ.out.below hb1).below hXb)
  have x0:X.cell? ⟨w1.heap.size,0,none⟩=some (.slice a m cap):=RowIs.cell hX1 0
  have xz:=hX1.lt
  have HBX:=Lib.hid hBX
  have HFX:=Lib.hid (HF.out X hBX)
  clear hX1 hBX hXb hb1 hT' g1 g2 HF HB
  have hFC : ∀ y,Below X.heap.size X y→Below X.heap.size X y∧y.cell? ⟨w1.heap.size,0,none⟩=some (.slice a m cap):=fun y hy=>⟨hy,(hy.cell (p:=⟨w1.heap.size,0,none⟩) xz).trans x0⟩
  go_wp2_with fail
  refine RC.wp_region_runF (C:=fun y=>y.cell? ⟨w1.heap.size,0,none⟩=some (.slice a m cap)) (fun y=>Below X.heap.size X y) (by kernel_rfl) (stable_below X) (Below.refl _ _) ?_
  change RC.Run _ _ _ _ _ 6 _ _ _
  refine RC.run_take (i:=0) (tabV a m cap) rfl (by kernel_rfl) (by kernel_rfl) (by kernel_rfl) rfl (fun y h=>(hFC y h).2) (fun y hy=>by go_simp) ?_
  simp only [puts]
  refine RC.run_take (i:=1) (tabV a m cap) rfl (by kernel_rfl) (by kernel_rfl) (by kernel_rfl) rfl (fun y h=>(hFC y h).2) (fun y hy=>by go_simp) ?_
  simp only [puts]
  refine RC.run_only (i:=2) (by kernel_rfl) (RC.at_call (fun v y=>Below X.heap.size X y ∧ ∃ s,Bst f m n s∧v=planV (valP f m n s)) rfl rfl (fun v y y1 h hb=>⟨h.1.trans (hb.mono h.1.size),h.2⟩) (fun v y h=>(hFC y h.1).2) (fun y hy=>⟨70, #[tabV a m cap],(Go.Conc.run_call_body (fn:=Try.f70) rfl Try.func70 (by kernel_rfl) (by kernel_rfl)).trans (by simp [Act.eval]),?_⟩) ?_)
  ·refine (bestPlan_c a m n cap f y (HFX.out.below hy) HO.out).mono ?_
   rintro e y1 ⟨s,hs,rfl,h2⟩
   exact ⟨_,rfl,hy.trans (h2.mono hy.size),s,hs,rfl⟩
  rintro v ⟨_,_,s,hs,rfl⟩
  have hfew:=valP_few HO.out s
  have HSu:=Lib.hid (fun (y:World) (h:Below X.heap.size X y)=>sure_c a m n cap f (valP f m n s) y (HFX.out.below h) HO.out hfew.in8 hfew.some_)
  obtain ⟨N,hN⟩ : ∃ N,ratN (sureN f m n (valP f m n s)) (sumI (valP f m n s) m)=N:=⟨_,rfl⟩
  obtain ⟨d,hd⟩ : ∃ d,ratD (sureN f m n (valP f m n s)) (sumI (valP f m n s) m)=d:=⟨_,rfl⟩
  unfold ratV at HSu
  rw [hN,hd] at HSu
  have Hval:=Lib.hid (show ∃ s,Bst f m n s∧ratN (sureN f m n (valP f m n s)) (sumI (valP f m n s) m)=N∧ratD (sureN f m n (valP f m n s)) (sumI (valP f m n s) m)=d from ⟨s,hs,hN,hd⟩)
  obtain ⟨p,hp⟩ : ∃ p,valP f m n s=p:=⟨_,rfl⟩
  rw [hp] at HSu ⊢
  clear hp hs hN hd hfew
  refine RC.run_mono _ _ _ (fun y=>Below X.heap.size X y) _ (fun y h=>h.1) ?_
  simp only [puts]
  refine RC.run_only (i:=3) (by kernel_rfl) (RC.at_call (fun v y=>Below X.heap.size X y∧v = .agg #[.int .i64 N, .int .i64 d]) rfl rfl (fun v y y1 h hb=>⟨h.1.trans (hb.mono h.1.size),h.2⟩) (fun v y h=>(hFC y h.1).2) (fun y hy=>⟨63, #[tabV a m cap,planV p],(Go.Conc.run_call_body (fn:=Try.f63) rfl Try.func63 (by kernel_rfl) (by kernel_rfl)).trans (by simp [Act.eval]),?_⟩) ?_)
  ·refine (HSu.out y hy).mono ?_
   rintro e y1 ⟨rfl,h2⟩
   exact ⟨_,rfl,hy.trans (h2.mono hy.size),rfl⟩
  rintro v ⟨_,_,rfl⟩
  refine RC.run_mono _ _ _ (fun y=>Below X.heap.size X y) _ (fun y h=>h.1) ?_
  simp only [puts]
  have hwx:w.heap.size+1<X.heap.size:=HQX.out.lt
  have hne:w.heap.size+1 ≠ w1.heap.size:=by
   intro h
   have:=HQX.out
   rw [h] at this
   have h2:=this.cell 0
   rw [x0] at h2
   simp at h2
  refine RC.run_only (i:=4) (by kernel_rfl) (RC_at_store (fun y=>Below w.heap.size w y∧RowIs y (w.heap.size+1) #[.int .i64 N, .int .i64 d] 30∧y.cell? ⟨w1.heap.size,0,none⟩=some (.slice a m cap)) rfl rfl (fun y y1 h hb=>⟨h.1.trans (hb.mono h.1.size),h.2.1.below hb,(hb.cell (p:=⟨w1.heap.size,0,none⟩) (cell_lt h.2.2)).trans h.2.2⟩) (fun y h=>h.2.2) (fun y hy => ?_) ?_)
  ·have hq:=HQX.out.below hy
   have q0:=RowIs.cell hq 0
   have q1:=RowIs.cell hq 1
   have z0:=RowIs.frozen hq 0
   have z1:=RowIs.frozen hq 1
   have qz:=hq.lt
   simp at q0 q1
   have hq2:=(hq.set 0 (.int .i64 N)).set 1 (.int .i64 d)
   refine ⟨(y.setCell ⟨w.heap.size+1,0,none⟩ (.int .i64 N)).setCell ⟨w.heap.size+1,1,none⟩ (.int .i64 d),by go_simp,((HBX.out.trans (hy.mono HBX.out.size)).setCell (p:=⟨w.heap.size+1,0,none⟩) (by show w.heap.size≤w.heap.size+1; omega) _).setCell (p:=⟨w.heap.size+1,1,none⟩) (by show w.heap.size≤w.heap.size+1; omega) _,hq2,?_⟩
   have e1:((y.setCell ⟨w.heap.size+1,0,none⟩ (.int .i64 N)).setCell ⟨w.heap.size+1,1,none⟩ (.int .i64 d)).heap[w1.heap.size]? = y.heap[w1.heap.size]? := by
    rw [Below.heap_setCell _ _ _ _ (Ne.symm hne),Below.heap_setCell _ _ _ _ (Ne.symm hne)]
   exact (World.cell?_of_block (a:=⟨w1.heap.size,0,none⟩) e1).trans (hFC y hy).2
  simp only [puts]
  refine RC.run_only (i:=5) (by kernel_rfl) (RC.at_quiet (.int .i64 0) rfl (.inl ⟨rfl,fun y hy=>by go_simp; exact ⟨rfl,rfl⟩⟩) ?_)
  simp only [puts]
  refine ⟨by kernel_rfl,fun y hy => ?_⟩
  obtain ⟨h1,h2,_⟩:=hy
  have y0:=RowIs.cell h2 0
  have y1:=RowIs.cell h2 1
  simp at y0 y1
  have H1:=Lib.hid h1
  clear h1 h2
  go_wp2_with fail
  obtain ⟨s,hs,h3,h4⟩:=Hval.out
  exact bodyPost_ret (v:=re2 (N,d,0)) (by simp [results,Try.results25,go_sem,y0,y1]) rfl ⟨.inr ⟨HE.out,s,hs,by rw [h3,h4]⟩,H1.out⟩
 ·have HD:=Lib.hid (newDesks_no_c a m cap f W (hf.below hB) hm hr hE)
  have t0:(tableE m f != 0)=true:=by simpa using hE
  have HE:=Lib.hid hE
  obtain ⟨E,hE2⟩ : ∃ E,tableE m f=E:=⟨_,rfl⟩
  rw [hE2] at HD HE t0 ⊢
  clear hf hB hR hE hE2 hr hm hQ
  go_enter Try.func25,Try.ntmps25
  go_wp2_with fail
  refine HD.out.mono ?_
  rintro e w1 ⟨rfl,hb1⟩
  clear hW HD r0
  have HQX:=Lib.hid (((HQ.out.below hb1).alloc (.cells #[.slice none 0 0] 73)).alloc (.cells #[.slice none 0 0] 73))
  have HBX:=Lib.hid (Below.alloc1 (Below.alloc1 (bup HB.out hb1) (.cells #[.slice none 0 0] 73) (Nat.le_refl _)) (.cells #[.slice none 0 0] 73) (Nat.le_refl _))
  clear hb1
  have q0:=RowIs.cell HQX.out 0
  have q1:=RowIs.cell HQX.out 1
  have z0:=RowIs.frozen HQX.out 0
  have z1:=RowIs.frozen HQX.out 1
  have qz:=HQX.out.lt
  simp at q0 q1
  go_wp2_with fail
  have hQ4:=(HQX.out.set 0 (.int .i64 0)).set 1 (.int .i64 0)
  have y0:=RowIs.cell hQ4 0
  have y1:=RowIs.cell hQ4 1
  simp at y0 y1
  exact bodyPost_ret (v:=re2 (0,0,E)) (by simp [results,Try.results25,go_sem,y0,y1]) rfl ⟨.inl ⟨HE.out,rfl⟩,(HBX.out.setCell (p:=⟨w.heap.size+1,0,none⟩) (by show w.heap.size≤w.heap.size+1; omega) _).setCell (p:=⟨w.heap.size+1,1,none⟩) (by show w.heap.size≤w.heap.size+1; omega) _⟩
end Go.Proofs.Ytkbbhihndigmeaa

namespace Go.Proofs.Ytkbbhihndigmeaa
open Go Go.RowKit Go.Shelf
set_option maxRecDepth 100000 in
set_option maxHeartbeats 8000000 in
theorem Used_c (a:Option Addr) (m cap:Nat) (f:Nat→Row3) (w:World) (hf:Tab w a m f) (hm:m≤1048576) (hr : ∀ i,i<m→(f i).n≤1048576) :
 Calls Try.prog 36 #[tabV a m cap] w fun e w'=>((tableE m f ≠ 0∧e = .returned (.tuple #[.slice none 0 0, .slice none 0 0, .int .i64 (tableE m f)]))∨(tableE m f=0 ∧ ∃ f',Shop f f' m (f 0).n ∧ ∃ x c y d,e = .returned (.tuple #[.slice x (usedQ f m (f 0).n).length c, .slice y (usedQ f' (f 0).n m).length d, .int .i64 0])∧Lst w' (usedQ f m (f 0).n) x c∧Lst w' (usedQ f' (f 0).n m) y d))∧Below w.heap.size w w':=by
 obtain ⟨W,hW⟩ : ∃ W,w.alloc (.cells #[.slice a m cap] 24)=W:=⟨_,rfl⟩
 have hB:Below w.heap.size w W:=by rw [← hW]; exact Below.alloc1 (Below.refl _ _) _ (Nat.le_refl _)
 have hR:RowIs W w.heap.size #[.slice a m cap] 24:=by rw [← hW]; exact heap_new_at _ _ _ rfl
 have r0:W.cell? ⟨w.heap.size,0,none⟩=some (.slice a m cap):=RowIs.cell hR 0
 have rz:w.heap.size<W.heap.size:=hR.lt
 have HF:=Lib.hid (fun (x:World) (h:Below w.heap.size w x)=>hf.below h)
 have HB:=Lib.hid hB
 by_cases hE:tableE m f=0
 ·have hO:=okay_of hE
  have HD:=Lib.hid (newDesks_yes_c a m (f 0).n cap f W (hf.below hB) hO)
  obtain ⟨n,hn⟩ : ∃ n,(f 0).n=n:=⟨_,rfl⟩
  rw [hn] at hO HD ⊢
  have HO:=Lib.hid hO
  have HE:=Lib.hid hE
  clear hf hB hR hE hn hr hm hO
  go_enter Try.func36,Try.ntmps36
  go_wp2_with fail
  refine HD.out.mono ?_
  rintro e w1 ⟨⟨L,f',rfl,hT',g1,g2⟩,hb1⟩
  clear hW HD r0 rz
  obtain ⟨X,hX⟩ : ∃ X,(w1.alloc (.cells #[.slice a m cap] 73)).alloc (.cells #[.slice (some ⟨L,0,none⟩) n n] 73)=X:=⟨_,rfl⟩
  have hXb:Below w1.heap.size w1 X:=by rw [← hX]; exact Below.alloc1 (Below.alloc1 (Below.refl _ _) _ (Nat.le_refl _)) _ (Nat.le_refl _)
  have hX1:RowIs X w1.heap.size #[.slice a m cap] 73:=by rw [← hX]; exact RowIs.alloc (heap_new_at _ _ _ rfl) _
  have hX2:RowIs X (w1.heap.size+1) #[.slice (some ⟨L,0,none⟩) n n] 73:=by rw [← hX]; exact heap_new_at _ _ _ (by simp)
  have hBX:Below w.heap.size w X:=bup (bup HB.out hb1) hXb
  have x0:X.cell? ⟨w1.heap.size,0,none⟩=some (.slice a m cap):=RowIs.cell hX1 0
  have xz:=hX1.lt
  have x2:X.cell? ⟨w1.heap.size+1,0,none⟩=some (.slice (some ⟨L,0,none⟩) n n):=RowIs.cell hX2 0
  have xz2:=hX2.lt
  have HTX:=Lib.hid (hT'.below hXb)
  have HO':=Lib.hid (okay_turn HO.out g1 g2)
  have HG:=Lib.hid (show Shop f f' m n from ⟨g1,g2⟩)
  have HBX:=Lib.hid hBX
  have HFX:=Lib.hid (HF.out X hBX)
  clear hX1 hX2 hBX hXb hb1 hT' g1 g2 HF HB
  have hFC : ∀ y,Below X.heap.size X y→Below X.heap.size X y∧y.cell? ⟨w1.heap.size,0,none⟩=some (.slice a m cap)∧y.cell? ⟨w1.heap.size+1,0,none⟩=some (.slice (some ⟨L,0,none⟩) n n):=fun y hy=>⟨hy,(hy.cell (p:=⟨w1.heap.size,0,none⟩) xz).trans x0,(hy.cell (p:=⟨w1.heap.size+1,0,none⟩) xz2).trans x2⟩
  go_wp2_with fail
  refine RC.wp_region_runF (C:=fun y=>Below X.heap.size X y∧y.cell? ⟨w1.heap.size,0,none⟩=some (.slice a m cap)∧y.cell? ⟨w1.heap.size+1,0,none⟩=some (.slice (some ⟨L,0,none⟩) n n)) (fun y=>Below X.heap.size X y) (by kernel_rfl) (stable_below X) (Below.refl _ _) ?_
  change RC.Run _ _ _ _ _ 7 _ _ _
  obtain ⟨U,hU⟩ : ∃ U,usedQ f m n=U:=⟨_,rfl⟩
  obtain ⟨V,hV⟩ : ∃ V,usedQ f' n m=V:=⟨_,rfl⟩
  have HU:=Lib.hid hU
  have HV:=Lib.hid hV
  clear hU hV
  refine RC.run_take (i:=0) (tabV a m cap) rfl (by kernel_rfl) (by kernel_rfl) (by kernel_rfl) rfl hFC (fun y hy=>by obtain ⟨-,q0,q1⟩:=hy; go_simp) ?_
  simp only [puts]
  refine RC.run_take (i:=2) (tabV (some ⟨L,0,none⟩) n n) rfl (by kernel_rfl) (by kernel_rfl) (by kernel_rfl) rfl hFC (fun y hy=>by obtain ⟨-,q0,q1⟩:=hy; go_simp) ?_
  simp only [puts]
  refine RC.run_only (i:=1) (by kernel_rfl) (RC.at_call (fun v y=>(Below X.heap.size X y) ∧ ∃ x c,v = .slice x U.length c∧Lst y U x c) rfl rfl (fun v y y1 h hb=>⟨h.1.trans (hb.mono h.1.size),h.2.imp fun x h=>h.imp fun c h=>⟨h.1,h.2.below hb⟩⟩) (fun v y h=>hFC y h.1) (fun y hy=>⟨76, #[tabV a m cap],(Go.Conc.run_call_body (fn:=Try.f76) rfl Try.func76 (by kernel_rfl) (by kernel_rfl)).trans (by simp [Act.eval]),?_⟩) ?_)
  ·have hc:=usedQ_c a m n cap f y (HFX.out.below hy) HO.out
   rw [HU.out] at hc
   refine hc.mono ?_
   rintro e y1 ⟨⟨x,c,rfl,h1⟩,h2⟩
   exact ⟨_,rfl,hy.trans (h2.mono hy.size),x,c,rfl,h1⟩
  rintro v ⟨_,_,x1,c1,rfl,_⟩
  refine RC.run_mono _ _ _ (fun y=>Below X.heap.size X y∧Lst y U x1 c1) _ ?_ ?_
  ·rintro y ⟨h1,x,c,e,h2⟩
   simp only [Value.slice.injEq,true_and] at e
   obtain ⟨rfl,rfl⟩:=e
   exact ⟨h1,h2⟩
  simp only [puts]
  refine RC.run_only (i:=3) (by kernel_rfl) (RC.at_call (fun v y=>(Below X.heap.size X y∧Lst y U x1 c1) ∧ ∃ x c,v = .slice x V.length c∧Lst y V x c) rfl rfl (fun v y y1 h hb=>⟨⟨h.1.1.trans (hb.mono h.1.1.size),h.1.2.below hb⟩,h.2.imp fun x h=>h.imp fun c h=>⟨h.1,h.2.below hb⟩⟩) (fun v y h=>hFC y h.1.1) (fun y hy=>⟨76, #[tabV (some ⟨L,0,none⟩) n n],(Go.Conc.run_call_body (fn:=Try.f76) rfl Try.func76 (by kernel_rfl) (by kernel_rfl)).trans (by simp [Act.eval]),?_⟩) ?_)
  ·have hc:=usedQ_c (some ⟨L,0,none⟩) n m n f' y (HTX.out.below hy.1) HO'.out
   rw [HV.out] at hc
   refine hc.mono ?_
   rintro e y1 ⟨⟨x,c,rfl,h1⟩,h2⟩
   exact ⟨_,rfl,⟨hy.1.trans (h2.mono hy.1.size),hy.2.below h2⟩,x,c,rfl,h1⟩
  rintro v ⟨_,_,x2,c2,rfl,_⟩
  refine RC.run_mono _ _ _ (fun y=>Below X.heap.size X y∧Lst y U x1 c1∧Lst y V x2 c2) _ ?_ ?_
  ·rintro y ⟨⟨h1,h3⟩,x,c,e,h2⟩
   simp only [Value.slice.injEq,true_and] at e
   obtain ⟨rfl,rfl⟩:=e
   exact ⟨h1,h3,h2⟩
  simp only [puts]
  refine RC.run_take (i:=4) (.slice x1 U.length c1) rfl (by kernel_rfl) (by kernel_rfl) (by kernel_rfl) rfl (fun y h=>hFC y h.1) (fun y hy=>by go_simp) ?_
  simp only [puts]
  refine RC.run_take (i:=5) (.slice x2 V.length c2) rfl (by kernel_rfl) (by kernel_rfl) (by kernel_rfl) rfl (fun y h=>hFC y h.1) (fun y hy=>by go_simp) ?_
  simp only [puts]
  refine RC.run_take (i:=6) (.int .i64 0) rfl (by kernel_rfl) (by kernel_rfl) (by kernel_rfl) rfl (fun y h=>hFC y h.1) (fun y hy=>by go_simp) ?_
  simp only [puts]
  refine ⟨by kernel_rfl,fun y hy => ?_⟩
  obtain ⟨h1,h2,h3⟩:=hy
  have H1:=Lib.hid h1
  have H2:=Lib.hid h2
  have H3:=Lib.hid h3
  clear h1 h2 h3
  go_wp2_with fail
  exact bodyPost_ret (v:= .tuple #[.slice x1 U.length c1, .slice x2 V.length c2, .int .i64 0]) (by simp [results,Try.results36,go_sem]) rfl ⟨.inr ⟨HE.out,f',HG.out,x1,c1,x2,c2,by rw [HU.out,HV.out],by rw [HU.out]; exact H2.out,by rw [HV.out]; exact H3.out⟩,HBX.out.trans (H1.out.mono HBX.out.size)⟩
 ·have HD:=Lib.hid (newDesks_no_c a m cap f W (hf.below hB) hm hr hE)
  have t0:(tableE m f != 0)=true:=by simpa using hE
  have HE:=Lib.hid hE
  obtain ⟨E,hE2⟩ : ∃ E,tableE m f=E:=⟨_,rfl⟩
  rw [hE2] at HD HE t0 ⊢
  clear hf hB hR hE hE2 hr hm
  go_enter Try.func36,Try.ntmps36
  go_wp2_with fail
  refine HD.out.mono ?_
  rintro e w1 ⟨rfl,hb1⟩
  clear hW HD r0
  have HBX:=Lib.hid (Below.alloc1 (Below.alloc1 (bup HB.out hb1) (.cells #[.slice none 0 0] 73) (Nat.le_refl _)) (.cells #[.slice none 0 0] 73) (Nat.le_refl _))
  clear hb1
  go_wp2_with fail
  exact bodyPost_ret (v:= .tuple #[.slice none 0 0, .slice none 0 0, .int .i64 E]) (by simp [results,Try.results36,go_sem]) rfl ⟨.inl ⟨HE.out,rfl⟩,HBX.out⟩
set_option maxRecDepth 100000 in
set_option maxHeartbeats 8000000 in
theorem Left_c (a:Option Addr) (m cap:Nat) (f:Nat→Row3) (w:World) (hf:Tab w a m f) (hm:m≤1048576) (hr : ∀ i,i<m→(f i).n≤1048576) :
 Calls Try.prog 38 #[tabV a m cap] w fun e w'=>((tableE m f ≠ 0∧e = .returned (.tuple #[.slice none 0 0, .slice none 0 0, .int .i64 (tableE m f)]))∨(tableE m f=0 ∧ ∃ f',Shop f f' m (f 0).n ∧ ∃ x c y d,e = .returned (.tuple #[.slice x (leftF f f' (m+(f 0).n) (List.range m) (List.range (f 0).n)).1.length c, .slice y (leftF f f' (m+(f 0).n) (List.range m) (List.range (f 0).n)).2.length d, .int .i64 0])∧Lst w' (leftF f f' (m+(f 0).n) (List.range m) (List.range (f 0).n)).1 x c∧Lst w' (leftF f f' (m+(f 0).n) (List.range m) (List.range (f 0).n)).2 y d))∧Below w.heap.size w w':=by
 obtain ⟨W,hW⟩ : ∃ W,w.alloc (.cells #[.slice a m cap] 24)=W:=⟨_,rfl⟩
 have hB:Below w.heap.size w W:=by rw [← hW]; exact Below.alloc1 (Below.refl _ _) _ (Nat.le_refl _)
 have hR:RowIs W w.heap.size #[.slice a m cap] 24:=by rw [← hW]; exact heap_new_at _ _ _ rfl
 have r0:W.cell? ⟨w.heap.size,0,none⟩=some (.slice a m cap):=RowIs.cell hR 0
 have rz:w.heap.size<W.heap.size:=hR.lt
 have HF:=Lib.hid (fun (x:World) (h:Below w.heap.size w x)=>hf.below h)
 have HB:=Lib.hid hB
 by_cases hE:tableE m f=0
 ·have hO:=okay_of hE
  have HD:=Lib.hid (newDesks_yes_c a m (f 0).n cap f W (hf.below hB) hO)
  obtain ⟨n,hn⟩ : ∃ n,(f 0).n=n:=⟨_,rfl⟩
  rw [hn] at hO HD ⊢
  have HO:=Lib.hid hO
  have HE:=Lib.hid hE
  clear hf hB hR hE hn hr hm hO
  go_enter Try.func38,Try.ntmps38
  go_wp2_with fail
  refine HD.out.mono ?_
  rintro e w1 ⟨⟨L,f',rfl,hT',g1,g2⟩,hb1⟩
  clear hW HD r0 rz
  obtain ⟨X,hX⟩ : ∃ X,(w1.alloc (.cells #[.slice a m cap] 73)).alloc (.cells #[.slice (some ⟨L,0,none⟩) n n] 73)=X:=⟨_,rfl⟩
  have hXb:Below w1.heap.size w1 X:=by rw [← hX]; exact Below.alloc1 (Below.alloc1 (Below.refl _ _) _ (Nat.le_refl _)) _ (Nat.le_refl _)
  have hX1:RowIs X w1.heap.size #[.slice a m cap] 73:=by rw [← hX]; exact RowIs.alloc (heap_new_at _ _ _ rfl) _
  have hX2:RowIs X (w1.heap.size+1) #[.slice (some ⟨L,0,none⟩) n n] 73:=by rw [← hX]; exact heap_new_at _ _ _ (by simp)
  have hBX:Below w.heap.size w X:=bup (bup HB.out hb1) hXb
  have x0:X.cell? ⟨w1.heap.size,0,none⟩=some (.slice a m cap):=RowIs.cell hX1 0
  have xz:=hX1.lt
  have x2:X.cell? ⟨w1.heap.size+1,0,none⟩=some (.slice (some ⟨L,0,none⟩) n n):=RowIs.cell hX2 0
  have xz2:=hX2.lt
  have HTX:=Lib.hid (hT'.below hXb)
  have HO':=Lib.hid (okay_turn HO.out g1 g2)
  have HG:=Lib.hid (show Shop f f' m n from ⟨g1,g2⟩)
  have HBX:=Lib.hid hBX
  have HFX:=Lib.hid (HF.out X hBX)
  clear hX1 hX2 hBX hXb hb1 hT' g1 g2 HF HB
  have hFC : ∀ y,Below X.heap.size X y→Below X.heap.size X y∧y.cell? ⟨w1.heap.size,0,none⟩=some (.slice a m cap)∧y.cell? ⟨w1.heap.size+1,0,none⟩=some (.slice (some ⟨L,0,none⟩) n n):=fun y hy=>⟨hy,(hy.cell (p:=⟨w1.heap.size,0,none⟩) xz).trans x0,(hy.cell (p:=⟨w1.heap.size+1,0,none⟩) xz2).trans x2⟩
  go_wp2_with fail
  have hlt:=left_c a (some ⟨L,0,none⟩) m n cap n f f' X HFX.out HO.out HTX.out HO'.out
  obtain ⟨rs,hrs⟩ : ∃ rs,leftF f f' (m+n) (List.range m) (List.range n)=rs:=⟨_,rfl⟩
  rw [hrs] at hlt
  have HLT:=Lib.hid hlt
  have Hrs:=Lib.hid hrs
  clear hlt hrs hFC
  refine HLT.out.mono ?_
  rintro e y ⟨p,c,q,d,rfl,h1,h2,h3⟩
  have H1:=Lib.hid h1
  have H2:=Lib.hid h2
  have H3:=Lib.hid h3
  clear h1 h2 h3
  go_wp2_with fail
  exact bodyPost_ret (v:= .tuple #[.slice p rs.1.length c, .slice q rs.2.length d, .int .i64 0]) (by simp [results,Try.results38,go_sem]) rfl ⟨.inr ⟨HE.out,f',HG.out,p,c,q,d,by rw [Hrs.out],by rw [Hrs.out]; exact H1.out,by rw [Hrs.out]; exact H2.out⟩,HBX.out.trans (H3.out.mono HBX.out.size)⟩
 ·have HD:=Lib.hid (newDesks_no_c a m cap f W (hf.below hB) hm hr hE)
  have t0:(tableE m f != 0)=true:=by simpa using hE
  have HE:=Lib.hid hE
  obtain ⟨E,hE2⟩ : ∃ E,tableE m f=E:=⟨_,rfl⟩
  rw [hE2] at HD HE t0 ⊢
  clear hf hB hR hE hE2 hr hm
  go_enter Try.func38,Try.ntmps38
  go_wp2_with fail
  refine HD.out.mono ?_
  rintro e w1 ⟨rfl,hb1⟩
  clear hW HD r0
  have HBX:=Lib.hid (Below.alloc1 (Below.alloc1 (bup HB.out hb1) (.cells #[.slice none 0 0] 73) (Nat.le_refl _)) (.cells #[.slice none 0 0] 73) (Nat.le_refl _))
  clear hb1
  go_wp2_with fail
  exact bodyPost_ret (v:= .tuple #[.slice none 0 0, .slice none 0 0, .int .i64 E]) (by simp [results,Try.results38,go_sem]) rfl ⟨.inl ⟨HE.out,rfl⟩,HBX.out⟩
end Go.Proofs.Ytkbbhihndigmeaa

namespace Go.Proofs.Ytkbbhihndigmeaa
open Go Go.RowKit Go.Shelf
def pureB (f:Nat→Row3) (m n i j:Nat):Bool:=decide ((f i).g j=leastF (f i).g n) && decide (- (f i).g j=leastF (fun k=> - (f k).g j) m)
def PureR (f:Nat→Row3) (m n:Nat) (v:Int × Int × Int):Prop:=
 (v=(0,0,19) ∧ ∀ i,i<m → ∀ j,j<n→pureB f m n i j=false) ∨ ∃ k l:Nat,k<m∧l<n∧pureB f m n k l=true∧(∀ i,i<k → ∀ j,j<n→pureB f m n i j=false)∧(∀ j,j<l→pureB f m n k j=false)∧v=((k:Int),(l:Int),0)
abbrev pu3 (v:Int × Int × Int):Value:= .tuple #[.int .i64 v.1, .int .i64 v.2.1, .int .i64 v.2.2]
set_option maxRecDepth 100000 in
set_option maxHeartbeats 16000000 in
theorem Pure_c (a:Option Addr) (m cap:Nat) (f:Nat→Row3) (w:World) (hf:Tab w a m f) (hm:m≤1048576) (hr : ∀ i,i<m→(f i).n≤1048576) :
 Calls Try.prog 31 #[tabV a m cap] w fun e w'=>(∃ v,e = .returned (pu3 v)∧((tableE m f ≠ 0∧v=(0,0,tableE m f))∨(tableE m f=0∧PureR f m (f 0).n v)))∧Below w.heap.size w w':=by
 obtain ⟨W,hW⟩ : ∃ W,w.alloc (.cells #[.slice a m cap] 24)=W:=⟨_,rfl⟩
 have hB:Below w.heap.size w W:=by rw [← hW]; exact Below.alloc1 (Below.refl _ _) _ (Nat.le_refl _)
 have hR:RowIs W w.heap.size #[.slice a m cap] 24:=by rw [← hW]; exact heap_new_at _ _ _ rfl
 have r0:W.cell? ⟨w.heap.size,0,none⟩=some (.slice a m cap):=RowIs.cell hR 0
 have rz:w.heap.size<W.heap.size:=hR.lt
 have HF:=Lib.hid (fun (x:World) (h:Below w.heap.size w x)=>hf.below h)
 have HB:=Lib.hid hB
 by_cases hE:tableE m f=0
 ·have hO:=okay_of hE
  obtain ⟨hb,off,rfl,hbs, -⟩:=Tab.at hf 0 hO.m1
  have HD:=Lib.hid (newDesks_yes_c (some ⟨hb,off,none⟩) m (f 0).n cap f W (hf.below hB) hO)
  obtain ⟨n,hn⟩ : ∃ n,(f 0).n=n:=⟨_,rfl⟩
  rw [hn] at hO HD ⊢
  have HO:=Lib.hid hO
  have HE:=Lib.hid hE
  have hm4:=hO.m4
  have hn4:=hO.n4
  have hm1:=hO.m1
  have hn1:=hO.n1
  clear hf hB hR hE hn hr hm hO
  go_enter Try.func31,Try.ntmps31
  go_wp2_with fail
  refine HD.out.mono ?_
  rintro e w1 ⟨⟨L,f',rfl,hT',g1,g2⟩,hb1⟩
  clear hW HD r0 rz
  obtain ⟨X,hX⟩ : ∃ X,(w1.alloc (.cells #[.slice (some ⟨hb,off,none⟩) m cap] 73)).alloc (.cells #[.slice (some ⟨L,0,none⟩) n n] 73)=X:=⟨_,rfl⟩
  have hXb:Below w1.heap.size w1 X:=by rw [← hX]; exact Below.alloc1 (Below.alloc1 (Below.refl _ _) _ (Nat.le_refl _)) _ (Nat.le_refl _)
  have hX1:RowIs X w1.heap.size #[.slice (some ⟨hb,off,none⟩) m cap] 73:=by rw [← hX]; exact RowIs.alloc (heap_new_at _ _ _ rfl) _
  have hX2:RowIs X (w1.heap.size+1) #[.slice (some ⟨L,0,none⟩) n n] 73:=by rw [← hX]; exact heap_new_at _ _ _ (by simp)
  have hBX:Below w.heap.size w X:=bup (bup HB.out hb1) hXb
  have x0:X.cell? ⟨w1.heap.size,0,none⟩=some (.slice (some ⟨hb,off,none⟩) m cap):=RowIs.cell hX1 0
  have xz:=hX1.lt
  have x2:X.cell? ⟨w1.heap.size+1,0,none⟩=some (.slice (some ⟨L,0,none⟩) n n):=RowIs.cell hX2 0
  have xz2:=hX2.lt
  have HTX:=Lib.hid (hT'.below hXb)
  have HG1:=Lib.hid g1
  have HG2:=Lib.hid g2
  have HBX:=Lib.hid hBX
  have HFX:=Lib.hid (HF.out X hBX)
  have hbX:hb<X.heap.size:=Nat.lt_of_lt_of_le hbs hBX.size
  clear hX1 hX2 hBX hXb hb1 hT' g1 g2 HF HB
  go_wp2_with fail
  go_loopw [25] (fun i wr=> ∃ k:Nat,k≤m∧i = .int .i64 k∧(∀ i,i<k → ∀ j,j<n→pureB f m n i j=false)∧wr=X) (fun i _=>m-(intOf i).toNat)
  case atStart=>exact ⟨0,Nat.zero_le _,rfl,fun i hi=>absurd hi (Nat.not_lt_zero _),rfl⟩
  case round=>
   obtain ⟨k,hk,rfl,hno,rfl⟩:=hrel
   by_cases hlt:k<m
   ·obtain ⟨hb',off',ea,_,hct⟩:=Tab.at HFX.out k hlt
    cases ea
    have c1:=hct k hlt
    rw [HO.out.len k hlt] at c1
    have hrow:=HFX.out.2 k hlt
    rw [HO.out.len k hlt] at hrow
    obtain ⟨rb,ro,era,hrb,hrc⟩:=Cells.at hrow 0 hn1
    rw [era] at c1
    have HM:=Lib.hid (fun x (h:Below wr.heap.size wr x)=>min64_c (some ⟨rb,ro,none⟩) n (f k).cap (f k).g x (Cells.below (by rw [← era]; exact hrow) h) hn1 (by omega))
    have Hrc:=Lib.hid hrc
    have Hno:=Lib.hid hno
    have hnb:=fun j hj=>HO.out.num k hlt j hj
    clear hno hct hrow hrc
    go_wp2_with fail
    obtain ⟨X,hX⟩ : ∃ X:World,X=wr:=⟨_,rfl⟩
    go_loopw [32] (fun i wi=> ∃ l:Nat,l≤n∧i = .int .i64 l∧(∀ j,j<l→pureB f m n k j=false)∧wi=wr) (fun i _=>n-(intOf i).toNat)
    case atStart=>exact ⟨0,Nat.zero_le _,rfl,fun i hi=>absurd hi (Nat.not_lt_zero _),rfl⟩
    case round=>
     obtain ⟨l,hl,rfl,hno2,rfl⟩:=hrel
     by_cases hll:l<n
     ·have c2:wr.cell? ⟨rb,ro+l,none⟩=some (.int .i64 ((f k).g l)):=Hrc.out l hll
      have hbd:=hnb l hll
      obtain ⟨Lb,Lo,eL,hLz,hLt⟩:=Tab.at HTX.out l hll
      cases eL
      have c3:=hLt l hll
      rw [HG1.out l hll,Nat.zero_add] at c3
      have hcol:=HTX.out.2 l hll
      rw [HG1.out l hll] at hcol
      obtain ⟨sb,so,esb,hsb, -⟩:=Cells.at hcol 0 hm1
      rw [esb] at c3 hcol
      have HS:=Lib.hid (min64_c (some ⟨sb,so,none⟩) m (f' l).cap (f' l).g wr hcol hm1 (by omega))
      rw [HG2.out l] at HS
      have HM2:=Lib.hid (HM.out wr (Below.refl _ _))
      have hpb:pureB f m n k l=(decide ((f k).g l=leastF (f k).g n) && decide (- (f k).g l=leastF (fun i=> - (f i).g l) m)):=rfl
      obtain ⟨x,hx⟩ : ∃ x,(f k).g l=x:=⟨_,rfl⟩
      obtain ⟨mr,hmr⟩ : ∃ x,leastF (f k).g n=x:=⟨_,rfl⟩
      obtain ⟨mc,hmc⟩ : ∃ x,leastF (fun i=> - (f i).g l) m=x:=⟨_,rfl⟩
      rw [hmr] at HM2
      rw [hmc] at HS
      rw [hx] at c2 hbd
      rw [hx,hmr,hmc] at hpb
      have hw:IntKind.i64.wrap (-x) = -x:=IntWalk.i64_in _ (by omega)
      have HPB:=Lib.hid hpb
      have Hno2:=Lib.hid hno2
      have i1:(l:Int)<(n:Int):=by omega
      clear hpb hno2 hx hmr hmc hLt hcol
      by_cases he:x=mr
      ·have t3:(x==mr)=true:=by rw [he]; exact beq_self_eq_true _
       by_cases he2 : -x=mc
       ·have t4:(-x==mc)=true:=by rw [he2]; exact beq_self_eq_true _
        have hp:pureB f m n k l=true:=by rw [HPB.out,decide_eq_true he,decide_eq_true he2]; rfl
        have Hp:=Lib.hid hp
        clear hp HPB he he2
        go_wp2_with fail
        refine HM2.out.mono ?_
        rintro e w3 ⟨rfl,rfl⟩
        go_wp2_with fail
        refine HS.out.mono ?_
        rintro e w3 ⟨rfl,rfl⟩
        go_wp2_with fail
        exact bodyPost_ret (v:=pu3 ((k:Int),(l:Int),0)) (by simp [results,Try.results31,go_sem]) rfl ⟨⟨_,rfl, .inr ⟨HE.out, .inr ⟨k,l,hlt,hll,Hp.out,Hno.out,Hno2.out,rfl⟩⟩⟩,HBX.out⟩
       ·have t4:(-x==mc)=false:=beq_false_of_ne he2
        have hp:pureB f m n k l=false:=by rw [HPB.out,decide_eq_false he2,Bool.and_false]
        have Hp:=Lib.hid hp
        clear hp HPB he he2
        go_wp2_with fail
        refine HM2.out.mono ?_
        rintro e w3 ⟨rfl,rfl⟩
        go_wp2_with fail
        refine HS.out.mono ?_
        rintro e w3 ⟨rfl,rfl⟩
        go_wp2_with fail
        refine ⟨⟨l+1,by omega,by go_num,fun j hj => ?_,trivial⟩,by simp [intOf]; omega⟩
        rcases Nat.lt_or_ge j l with h | h
        ·exact Hno2.out j h
        ·obtain rfl:j=l:=by omega
         exact Hp.out
      ·have t3:(x==mr)=false:=beq_false_of_ne he
       have hp:pureB f m n k l=false:=by rw [HPB.out,decide_eq_false he,Bool.false_and]
       have Hp:=Lib.hid hp
       clear hp HPB he
       go_wp2_with (first
        | (refine HM2.out.mono ?_; rintro e w3 ⟨rfl,rfl⟩)
        | fail)
       refine ⟨⟨l+1,by omega,by go_num,fun j hj => ?_,trivial⟩,by simp [intOf]; omega⟩
       rcases Nat.lt_or_ge j l with h | h
       ·exact Hno2.out j h
       ·obtain rfl:j=l:=by omega
        exact Hp.out
     ·obtain rfl:l=n:=by omega
      have Hno2:=Lib.hid hno2
      clear hno2
      go_wp2_with fail
      refine ⟨⟨k+1,by omega,by go_num,fun i hi j hj => ?_,trivial⟩,by simp [intOf]; omega⟩
      rcases Nat.lt_or_ge i k with h | h
      ·exact Hno.out i h j hj
      ·obtain rfl:i=k:=by omega
       exact Hno2.out j hj
   ·obtain rfl:k=m:=by omega
    have Hno:=Lib.hid hno
    clear hno
    go_wp2_with fail
    exact bodyPost_ret (v:=pu3 (0,0,19)) (by simp [results,Try.results31,go_sem]) rfl ⟨⟨_,rfl, .inr ⟨HE.out, .inl ⟨rfl,Hno.out⟩⟩⟩,HBX.out⟩
 ·have HD:=Lib.hid (newDesks_no_c a m cap f W (hf.below hB) hm hr hE)
  have t0:(tableE m f != 0)=true:=by simpa using hE
  have HE:=Lib.hid hE
  obtain ⟨E,hE2⟩ : ∃ E,tableE m f=E:=⟨_,rfl⟩
  rw [hE2] at HD HE t0 ⊢
  clear hf hB hR hE hE2 hr hm
  go_enter Try.func31,Try.ntmps31
  go_wp2_with fail
  refine HD.out.mono ?_
  rintro e w1 ⟨rfl,hb1⟩
  clear hW HD r0
  have HBX:=Lib.hid (Below.alloc1 (Below.alloc1 (bup HB.out hb1) (.cells #[.slice none 0 0] 73) (Nat.le_refl _)) (.cells #[.slice none 0 0] 73) (Nat.le_refl _))
  clear hb1
  go_wp2_with fail
  exact bodyPost_ret (v:=pu3 (0,0,E)) (by simp [results,Try.results31,go_sem]) rfl ⟨⟨_,rfl, .inl ⟨HE.out,rfl⟩⟩,HBX.out⟩
end Go.Proofs.Ytkbbhihndigmeaa

namespace Go.Proofs.Ytkbbhihndigmeaa
open Go Go.RowKit
theorem least_iff {g:Nat→Int} {n j:Nat} (hj:j<n):g j=leastF g n ↔ ∀ k,k<n→g j≤g k:=by
 constructor
 ·intro h k hk
  rw [h]
  exact leastF_le g n k hk
 ·intro h
  obtain ⟨k,hk,e⟩:=leastF_is g n (by omega)
  have h1:=h k hk
  have h2:=leastF_le g n j hj
  omega
theorem pure_same {f:Nat→Row3} {m n i j:Nat} (hi:i<m) (hj:j<n):pureB f m n i j=isPureB f m n i j:=by
 unfold pureB isPureB
 rw [Bool.and_comm,Bool.eq_iff_iff]
 simp only [Bool.and_eq_true,decide_eq_true_eq]
 rw [least_iff hj,show (- (f i).g j=leastF (fun k=> - (f k).g j) m) ↔ ∀ k,k<m → - (f i).g j ≤ - (f k).g j from least_iff (g:=fun k=> - (f k).g j) hi]
 constructor
 ·rintro ⟨h1,h2⟩
  exact ⟨fun k hk=>by have:=h1 k hk; omega,h2⟩
 ·rintro ⟨h1,h2⟩
  exact ⟨fun k hk=>by have:=h1 k hk; omega,h2⟩
theorem pure_one {f:Nat→Row3} {m n:Nat} {v u:Int × Int × Int} (hv:PureR f m n v) (hu:PureR f m n u):v=u:=by
 rcases hv with ⟨rfl,h1⟩ | ⟨k,l,hk,hl,h2,h3,h4,rfl⟩ <;> rcases hu with ⟨rfl,g1⟩ | ⟨k',l',hk',hl',g2,g3,g4,rfl⟩
 ·rfl
 ·rw [h1 k' hk' l' hl'] at g2; cases g2
 ·rw [g1 k hk l hl] at h2; cases h2
 ·have e:k=k':=by
    rcases Nat.lt_trichotomy k k' with h | h | h
    ·rw [g3 k h l hl] at h2; cases h2
    ·exact h
    ·rw [h3 k' h l' hl'] at g2; cases g2
  subst e
  have e:l=l':=by
   rcases Nat.lt_trichotomy l l' with h | h | h
   ·rw [g4 l h] at h2; cases h2
   ·exact h
   ·rw [h4 l' h] at g2; cases g2
  subst e
  rfl
set_option maxRecDepth 100000 in
set_option maxHeartbeats 8000000 in
theorem rPure_c (a:Option Addr) (m cap:Nat) (f:Nat→Row3) (w:World) (hf:Tab w a m f) (hm:m≤1048576) :
 Calls Try.prog 32 #[tabV a m cap] w fun e w'=>(∃ v,e = .returned (pu3 v)∧((tableE m f ≠ 0∧v=(0,0,tableE m f))∨(tableE m f=0∧PureR f m (f 0).n v)))∧Below w.heap.size w w':=by
 obtain ⟨W,hW⟩ : ∃ W,w.alloc (.cells #[.slice a m cap] 24)=W:=⟨_,rfl⟩
 have hB:Below w.heap.size w W:=by rw [← hW]; exact Below.alloc1 (Below.refl _ _) _ (Nat.le_refl _)
 have hD:RowIs W w.heap.size #[.slice a m cap] 24:=by rw [← hW]; exact heap_new_at _ _ _ rfl
 have d0:W.cell? ⟨w.heap.size,0,none⟩=some (.slice a m cap):=hD.cell 0
 have dz:=hD.lt
 have HB:=Lib.hid hB
 have HD:=Lib.hid hD
 have HCT:=Lib.hid (fun (x:World) (h:Below w.heap.size w x)=>rcheckTable_c a m cap f x (hf.below h) hm)
 by_cases hE:tableE m f=0
 ·have hO:=okay_of hE
  obtain ⟨hb,off,rfl,hb0, -⟩:=Tab.at hf 0 hO.m1
  have HE:=Lib.hid hE
  rw [hE] at HCT
  obtain ⟨n,hn⟩ : ∃ n,(f 0).n=n:=⟨_,rfl⟩
  rw [hn] at hO ⊢
  have HIP:=Lib.hid (fun (x:World) (h:Below w.heap.size w x) (i j:Nat) (hi:i<m) (hj:j<n)=>rIsPure_c (some ⟨hb,off,none⟩) m n cap f i j x (hf.below h) hO hi hj)
  have HF:=Lib.hid hf
  have HO:=Lib.hid hO
  have hm4:=hO.m4
  have hn4:=hO.n4
  clear hf hm hE hn hO hB hD
  go_enter Try.func32,Try.ntmps32
  go_wp2_with fail
  refine (HCT.out _ HB.out).mono ?_
  rintro e w1 ⟨rfl,hb1⟩
  have HB1:=Lib.hid (bup HB.out hb1)
  have HD1:=Lib.hid (HD.out.below hb1)
  clear hW d0 dz hb1
  go_wp2_with fail
  go_loopw [5] (fun i wr=> ∃ k:Nat,k≤m∧i = .int .i64 k∧(∀ i,i<k → ∀ j,j<n→pureB f m n i j=false)∧Below w1.heap.size w1 wr) (fun i _=>m-(intOf i).toNat)
  case atStart=>exact ⟨0,Nat.zero_le _,rfl,fun i hi=>absurd hi (Nat.not_lt_zero _),Below.refl _ _⟩
  case round=>
   obtain ⟨k,hk,rfl,hno,hbb⟩:=hrel
   have hDr:=HD1.out.below hbb
   have d0:wr.cell? ⟨w.heap.size,0,none⟩=some (.slice (some ⟨hb,off,none⟩) m cap):=hDr.cell 0
   have dz:=hDr.lt
   have Hno:=Lib.hid hno
   have Hbb:=Lib.hid hbb
   clear hno hbb hDr
   by_cases hlt:k<m
   ·go_wp2_with fail
    clear d0 dz
    go_loopw [6] (fun i wi=> ∃ l:Nat,l≤n∧i = .int .i64 l∧(∀ j,j<l→pureB f m n k j=false)∧Below w1.heap.size w1 wi) (fun i _=>n-(intOf i).toNat)
    case atStart=>exact ⟨0,Nat.zero_le _,rfl,fun i hi=>absurd hi (Nat.not_lt_zero _),Hbb.out⟩
    case round=>
     obtain ⟨l,hl,rfl,hno2,hbb2⟩:=hrel
     have hwb:Below w.heap.size w wr:=HB1.out.trans (hbb2.mono HB1.out.size)
     have hDr:=HD1.out.below hbb2
     have dz:=hDr.lt
     obtain ⟨hb',off',ea,hbs,hct⟩:=Tab.at (HF.out.below hwb) 0 HO.out.m1
     cases ea
     have k0:=hct 0 HO.out.m1
     rw [HO.out.len 0 HO.out.m1,Nat.add_zero] at k0
     have d0:wr.cell? ⟨w.heap.size,0,none⟩=some (.slice (some ⟨hb,off,none⟩) m cap):=hDr.cell 0
     have i0:(0:Int)<(m:Int):=by omega
     have Hno2:=Lib.hid hno2
     have Hbb2:=Lib.hid hbb2
     by_cases hll:l<n
     ·have hIP:=HIP.out wr hwb k l hlt hll
      rw [← pure_same hlt hll] at hIP
      clear hno2 hbb2 hDr hwb hct
      cases hp:pureB f m n k l with
      | true=>
        rw [hp] at hIP
        have HIPl:=Lib.hid hIP
        have Hp:=Lib.hid hp
        clear hIP hp
        go_wp2_with fail
        refine HIPl.out.mono ?_
        rintro e w3 ⟨rfl,hb3⟩
        have HB3:=Lib.hid (bup Hbb2.out hb3)
        clear hb3
        go_wp2_with fail
        exact bodyPost_ret (v:=pu3 ((k:Int),(l:Int),0)) (by simp [results,Try.results32,go_sem]) rfl ⟨⟨_,rfl, .inr ⟨HE.out, .inr ⟨k,l,hlt,hll,Hp.out,Hno.out,Hno2.out,rfl⟩⟩⟩,HB1.out.trans (HB3.out.mono HB1.out.size)⟩
      | false=>
        rw [hp] at hIP
        have HIPl:=Lib.hid hIP
        have Hp:=Lib.hid hp
        clear hIP hp
        go_wp2_with fail
        refine HIPl.out.mono ?_
        rintro e w3 ⟨rfl,hb3⟩
        have HB3:=Lib.hid (bup Hbb2.out hb3)
        clear hb3
        go_wp2_with fail
        go_roundw
        case rel=>
         refine ⟨l+1,by omega,by go_num,fun j hj => ?_,HB3.out⟩
         rcases Nat.lt_or_ge j l with h | h
         ·exact Hno2.out j h
         ·obtain rfl:j=l:=by omega
          exact Hp.out
        case measure=>simp [intOf]; omega
     ·obtain rfl:l=n:=by omega
      clear hno2 hbb2 hDr hwb hct
      go_wp2_with fail
      refine ⟨⟨k+1,by omega,by go_num,fun i hi j hj => ?_,Hbb2.out⟩,by simp [intOf]; omega⟩
      rcases Nat.lt_or_ge i k with h | h
      ·exact Hno.out i h j hj
      ·obtain rfl:i=k:=by omega
       exact Hno2.out j hj
   ·obtain rfl:k=m:=by omega
    go_wp2_with fail
    exact bodyPost_ret (v:=pu3 (0,0,19)) (by simp [results,Try.results32,go_sem]) rfl ⟨⟨_,rfl, .inr ⟨HE.out, .inl ⟨rfl,Hno.out⟩⟩⟩,HB1.out.trans (Hbb.out.mono HB1.out.size)⟩
 ·have t0:(tableE m f != 0)=true:=by simpa using hE
  have HE:=Lib.hid hE
  obtain ⟨E,hE2⟩ : ∃ E,tableE m f=E:=⟨_,rfl⟩
  rw [hE2] at HCT HE t0 ⊢
  clear hf hm hE hE2 hB hD
  go_enter Try.func32,Try.ntmps32
  go_wp2_with fail
  refine (HCT.out _ HB.out).mono ?_
  rintro e w1 ⟨rfl,hb1⟩
  have HB1:=Lib.hid (bup HB.out hb1)
  have hD1:=HD.out.below hb1
  have e0:w1.cell? ⟨w.heap.size,0,none⟩=some (.slice a m cap):=hD1.cell 0
  have ez:=hD1.lt
  clear hW d0 dz hb1 hD1
  go_wp2_with fail
  refine (HCT.out _ HB1.out).mono ?_
  rintro e w2 ⟨rfl,hb2⟩
  have HB2:=Lib.hid (bup HB1.out hb2)
  clear hb2 e0 ez
  go_wp2_with fail
  exact bodyPost_ret (v:=pu3 (0,0,E)) (by simp [results,Try.results32,go_sem]) rfl ⟨⟨_,rfl, .inl ⟨HE.out,rfl⟩⟩,HB2.out⟩
end Go.Proofs.Ytkbbhihndigmeaa
