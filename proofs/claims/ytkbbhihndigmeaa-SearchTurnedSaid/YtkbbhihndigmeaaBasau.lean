/- Contracts of layer 3: Bound (the program). -/
import Derived.Test.YtkbbhihndigmeaaProg
import Derived.Test.YtkbbhihndigmeaaBasaa
import Derived.Test.YtkbbhihndigmeaaBasat
import Derived.Test.YtkbbhihndigmeaaBasah
import Derived.Test.YtkbbhihndigmeaaBasan
import Derived.Test.YtkbbhihndigmeaaBasao
import Derived.Test.YtkbbhihndigmeaaBasam
namespace Go.Proofs.Ytkbbhihndigmeaa
open Go Go.RowKit
set_option maxHeartbeats 8000000 in
theorem Bound_c (a:Option Addr) (m cap:Nat) (f:Nat→Row3) (pa:Option Addr) (len pcap:Nat) (p:Nat→Int) (w:World) (hf:Tab w a m f) (hm:m≤1048576) (hr : ∀ i,i<m→(f i).n≤1048576) (hp:Ints w pa len p) (hl:len≤1048576) :
 Calls Try.prog 21 #[tabV a m cap, .slice pa len pcap] w fun e w'=>e = .returned (re2 (boundR m f len p))∧Below w.heap.size w w':=by
 obtain ⟨W,hW⟩ : ∃ W,(w.alloc (.cells #[.slice a m cap] 24)).alloc (.cells #[.int .i64 0, .int .i64 0] 30)=W:=⟨_,rfl⟩
 have hB:Below w.heap.size w W:=by rw [← hW]; exact Below.alloc1 (Below.alloc1 (Below.refl _ _) _ (Nat.le_refl _)) _ (Nat.le_refl _)
 have hQ:RowIs W (w.heap.size+1) #[.int .i64 0, .int .i64 0] 30:=by rw [← hW]; exact heap_new_at _ _ _ (by simp)
 have hR:RowIs W w.heap.size #[.slice a m cap] 24:=by rw [← hW]; exact RowIs.alloc (heap_new_at _ _ _ rfl) _
 have r0:W.cell? ⟨w.heap.size,0,none⟩=some (.slice a m cap):=RowIs.cell hR 0
 have rz:w.heap.size<W.heap.size:=hR.lt
 have HF:=Lib.hid (fun (x:World) (h:Below w.heap.size w x)=>hf.below h)
 have HP:=Lib.hid (fun (x:World) (h:Below w.heap.size w x)=>Cells.below hp h)
 have HQ:=Lib.hid hQ
 have HB:=Lib.hid hB
 have hzW:=hB.size
 by_cases hE:tableE m f=0
 ·have hO:=okay_of hE
  have HD:=Lib.hid (newDesks_yes_c a m (f 0).n cap f W (hf.below hB) hO)
  obtain ⟨n,hn⟩ : ∃ n,(f 0).n=n:=⟨_,rfl⟩
  rw [hn] at hO HD
  have HO:=Lib.hid hO
  have Hn:=Lib.hid hn
  by_cases hL:planE len n p=0
  ·obtain ⟨hlen,hb,hs⟩:=plan_ok hL
   subst hlen
   have Hv:=Lib.hid (show boundR m f len p=(- ratN (boundN f m len p) (sumI p len),ratD (boundN f m len p) (sumI p len),0) by unfold boundR; rw [if_neg (by simp [hE]),hn,if_neg (by simp [hL])])
   have hpb : ∀ i,i<len→0≤padF p len i∧padF p len i≤100000000:=fun i hi=>by rw [pad_in i hi]; exact hb i hi
   have es:sumI (padF p len) len=sumI p len:=sumI_same fun i hi=>pad_in i hi
   have bd:=sureN_bd (p:=p) (m:=len) (n:=m) (f:=fun j=>turnF f m j) (okay_turn hO (fun _ _=>rfl) (fun _=>rfl)) hb
   have eB : ∀ f':Nat→Row3,(∀ j,(f' j).g=fun i=> - (f i).g j)→sureN f' len m (padF p len)=boundN f m len p:=fun f' g2=>by
    rw [sureN_same hO.m1 (fun i hi=>pad_in i hi)]
    show leastF (ag (lossA f') p len) m=_
    rw [loss_turn g2]
   have hNb : -40000000000≤boundN f m len p∧boundN f m len p≤40000000000:=by rw [← eB (fun j=>turnF f m j) (fun _=>rfl),sureN_same hO.m1 (fun i hi=>pad_in i hi)]; exact bd
   have hN1:=tdiv_bd (b:=Int.gcd (boundN f m len p) (sumI p len)) hNb
   obtain ⟨N,hN⟩ : ∃ N,ratN (boundN f m len p) (sumI p len)=N:=⟨_,rfl⟩
   obtain ⟨d,hd⟩ : ∃ d,ratD (boundN f m len p) (sumI p len)=d:=⟨_,rfl⟩
   have hN2 : -40000000000≤N∧N≤40000000000:=by rw [← hN]; exact hN1
   have HNg:=Lib.hid (fun (x:World)=>negative_c N d x (by omega) (by omega))
   have HMk:=Lib.hid (fun (x:World) (L:Nat) (f':Nat→Row3) (h:Tab x (some ⟨L,0,none⟩) len f') (g1 : ∀ j,j<len→(f' j).n=m) (g2 : ∀ j,(f' j).g=fun i=> - (f i).g j)=>(fun (pp:Nat→Int) (e : ∀ i,i<len→pp i=padF p len i) (hp2 : ∀ i,i<len→0≤pp i∧pp i≤100000000) (hs2:sumI pp len ≠ 0)=>sure_c (some ⟨L,0,none⟩) len m len f' pp x h (okay_turn hO g1 g2) hp2 hs2))
   have HOk:=Lib.hid (fun (f':Nat→Row3) (g1 : ∀ j,j<len→(f' j).n=m) (g2 : ∀ j,(f' j).g=fun i=> - (f i).g j)=>okay_turn hO g1 g2)
   have HPb:=Lib.hid hpb
   have HEs:=Lib.hid es
   have HsNe:=Lib.hid hs
   have HEB:=Lib.hid eB
   have HPlY:=Lib.hid (planP_yes hL)
   have HLz:=Lib.hid hL
   rw [hN,hd] at Hv
   have HNd:=Lib.hid (And.intro hN hd)
   rw [Hv.out]
   clear hf hp hB hQ hR hE hL hO hb hs hn hpb es hN hd bd eB hNb hN1 hN2
   go_enter Try.func21,Try.ntmps21
   go_wp2_with fail
   refine HD.out.mono ?_
   rintro e w1 ⟨⟨L,f',rfl,hT',g1,g2⟩,hb1⟩
   clear hW HD r0
   obtain ⟨X,hX⟩ : ∃ X,(w1.alloc (.cells #[.slice a m cap] 73)).alloc (.cells #[.slice (some ⟨L,0,none⟩) len len] 73)=X:=⟨_,rfl⟩
   have hXb:Below w1.heap.size w1 X:=by rw [← hX]; exact Below.alloc1 (Below.alloc1 (Below.refl _ _) _ (Nat.le_refl _)) _ (Nat.le_refl _)
   have hX1:RowIs X w1.heap.size #[.slice a m cap] 73:=by rw [← hX]; exact RowIs.alloc (heap_new_at _ _ _ rfl) _
   have hX2:RowIs X (w1.heap.size+1) #[.slice (some ⟨L,0,none⟩) len len] 73:=by rw [← hX]; exact heap_new_at _ _ _ (by simp)
   have hBX:Below w.heap.size w X:=bup (bup HB.out hb1) hXb
   have hQX:=(HQ.out.below hb1).below hXb
   have x0:X.cell? ⟨w1.heap.size,0,none⟩=some (.slice a m cap):=RowIs.cell hX1 0
   have xz:=hX1.lt
   have x2:X.cell? ⟨w1.heap.size+1,0,none⟩=some (.slice (some ⟨L,0,none⟩) len len):=RowIs.cell hX2 0
   have xz2:=hX2.lt
   have HX1:=Lib.hid hX1
   have HX2:=Lib.hid hX2
   have HBX:=Lib.hid hBX
   have HQX:=Lib.hid hQX
   have hz1:W.heap.size≤w1.heap.size:=hb1.size
   have HT:=Lib.hid (hT'.below hXb)
   have hNP:=newPlan_c (some ⟨L,0,none⟩) len m len f' pa len pcap p X (hT'.below hXb) (HOk.out f' g1 g2) (HP.out _ hBX) hl
   rw [HPlY.out,HLz.out] at hNP
   have HNP:=Lib.hid hNP
   have HG1:=Lib.hid g1
   have HG2:=Lib.hid g2
   clear hX1 hX2 hBX hQX hXb hb1 hT' g1 g2 x0 xz hNP
   go_wp2_with fail
   refine HNP.out.mono ?_
   rintro e w2 ⟨rfl,hb2⟩
   have HT2:=Lib.hid (HT.out.below hb2)
   clear hX x2
   obtain ⟨Y,hY⟩ : ∃ Y,w2.alloc (.cells #[.int .i64 (padF p len 0), .int .i64 (padF p len 1), .int .i64 (padF p len 2), .int .i64 (padF p len 3)] 77)=Y:=⟨_,rfl⟩
   have hYb:Below w2.heap.size w2 Y:=by rw [← hY]; exact Below.alloc1 (Below.refl _ _) _ (Nat.le_refl _)
   have hYr:RowIs Y w2.heap.size (planRow (padF p len)) 77:=by rw [← hY]; exact heap_new_at _ _ _ rfl
   obtain ⟨⟨p0,p1,p2,p3⟩,pz⟩:=row4 hYr
   have hY1:=(HX2.out.below hb2).below hYb
   have s0:Y.cell? ⟨w1.heap.size+1,0,none⟩=some (.slice (some ⟨L,0,none⟩) len len):=RowIs.cell hY1 0
   have hSu:=HMk.out Y L f' (HT2.out.below hYb) HG1.out HG2.out (padF p len) (fun _ _=>rfl) HPb.out (by rw [HEs.out]; exact HsNe.out)
   rw [HEs.out,HEB.out f' HG2.out] at hSu
   unfold ratV at hSu
   rw [HNd.out.1,HNd.out.2] at hSu
   have HSu:=Lib.hid hSu
   clear hSu
   have sz:=hY1.lt
   have HBY:=Lib.hid (bup (bup HBX.out hb2) hYb)
   have HQY:=Lib.hid ((HQX.out.below hb2).below hYb)
   clear hYb hYr hY1 hb2
   go_wp2_with fail
   refine HSu.out.mono ?_
   rintro e w3 ⟨rfl,hb3⟩
   have HB3a:=Lib.hid (bup HBY.out hb3)
   have HQ3a:=Lib.hid (HQY.out.below hb3)
   clear hY p0 p1 p2 p3 s0 hb3
   go_wp2_with fail
   refine (HNg.out _).mono ?_
   rintro e w4 ⟨rfl,hb4⟩
   have HB3:=Lib.hid (bup HB3a.out hb4)
   have HQ3:=Lib.hid (HQ3a.out.below hb4)
   clear hb4
   have q0:=RowIs.cell HQ3.out 0
   have q1:=RowIs.cell HQ3.out 1
   have z0:=RowIs.frozen HQ3.out 0
   have z1:=RowIs.frozen HQ3.out 1
   have qz:=HQ3.out.lt
   simp at q0 q1
   go_wp2_with fail
   have hQ4:=(HQ3.out.set 0 (.int .i64 (-N))).set 1 (.int .i64 d)
   have y0:=RowIs.cell hQ4 0
   have y1:=RowIs.cell hQ4 1
   simp at y0 y1
   exact bodyPost_ret (v:=re2 (-N,d,0)) (by simp [results,Try.results21,go_sem,y0,y1]) rfl ⟨rfl,(HB3.out.setCell (p:=⟨w.heap.size+1,0,none⟩) (by show w.heap.size≤w.heap.size+1; omega) _).setCell (p:=⟨w.heap.size+1,1,none⟩) (by show w.heap.size≤w.heap.size+1; omega) _⟩
  ·have Hv:=Lib.hid (show boundR m f len p=(0,0,planE len n p) by unfold boundR; rw [if_neg (by simp [hE]),hn,if_pos hL])
   have t0:(planE len n p != 0)=true:=by simpa using hL
   have HPlN:=Lib.hid (planP_no hL)
   have HOk:=Lib.hid (fun (f':Nat→Row3) (g1 : ∀ j,j<n→(f' j).n=m) (g2 : ∀ j,(f' j).g=fun i=> - (f i).g j)=>okay_turn hO g1 g2)
   obtain ⟨E,hE2⟩ : ∃ E,planE len n p=E:=⟨_,rfl⟩
   rw [hE2] at Hv t0
   have HE2:=Lib.hid hE2
   rw [Hv.out]
   clear hf hp hB hQ hR hE hL hO hn hE2
   go_enter Try.func21,Try.ntmps21
   go_wp2_with fail
   refine HD.out.mono ?_
   rintro e w1 ⟨⟨L,f',rfl,hT',g1,g2⟩,hb1⟩
   clear hW HD r0
   obtain ⟨X,hX⟩ : ∃ X,(w1.alloc (.cells #[.slice a m cap] 73)).alloc (.cells #[.slice (some ⟨L,0,none⟩) n n] 73)=X:=⟨_,rfl⟩
   have hXb:Below w1.heap.size w1 X:=by rw [← hX]; exact Below.alloc1 (Below.alloc1 (Below.refl _ _) _ (Nat.le_refl _)) _ (Nat.le_refl _)
   have hX1:RowIs X w1.heap.size #[.slice a m cap] 73:=by rw [← hX]; exact RowIs.alloc (heap_new_at _ _ _ rfl) _
   have hX2:RowIs X (w1.heap.size+1) #[.slice (some ⟨L,0,none⟩) n n] 73:=by rw [← hX]; exact heap_new_at _ _ _ (by simp)
   have hBX:Below w.heap.size w X:=bup (bup HB.out hb1) hXb
   have hQX:=(HQ.out.below hb1).below hXb
   have x0:X.cell? ⟨w1.heap.size,0,none⟩=some (.slice a m cap):=RowIs.cell hX1 0
   have xz:=hX1.lt
   have x2:X.cell? ⟨w1.heap.size+1,0,none⟩=some (.slice (some ⟨L,0,none⟩) n n):=RowIs.cell hX2 0
   have xz2:=hX2.lt
   have HX1:=Lib.hid hX1
   have HX2:=Lib.hid hX2
   have HBX:=Lib.hid hBX
   have HQX:=Lib.hid hQX
   have hz1:W.heap.size≤w1.heap.size:=hb1.size
   have hNP:=newPlan_c (some ⟨L,0,none⟩) n m n f' pa len pcap p X (hT'.below hXb) (HOk.out f' g1 g2) (HP.out _ hBX) hl
   rw [HPlN.out,HE2.out] at hNP
   have HNP:=Lib.hid hNP
   clear hX1 hX2 hBX hQX hXb hb1 hT' g1 g2 x0 xz hNP
   go_wp2_with fail
   refine HNP.out.mono ?_
   rintro e w2 ⟨rfl,hb2⟩
   clear hX x2
   have HQY:=Lib.hid (HQX.out.below hb2)
   have HBY:=Lib.hid (bup HBX.out hb2)
   clear hb2
   have q0:=RowIs.cell HQY.out 0
   have q1:=RowIs.cell HQY.out 1
   have z0:=RowIs.frozen HQY.out 0
   have z1:=RowIs.frozen HQY.out 1
   have qz:=HQY.out.lt
   simp at q0 q1
   go_wp2_with fail
   have hQ4:=((HQY.out.set 0 (.int .i64 0)).set 1 (.int .i64 0)).alloc (.cells #[.int .i64 0, .int .i64 0, .int .i64 0, .int .i64 0] 77)
   have y0:=RowIs.cell hQ4 0
   have y1:=RowIs.cell hQ4 1
   simp at y0 y1
   exact bodyPost_ret (v:=re2 (0,0,E)) (by simp [results,Try.results21,go_sem,y0,y1]) rfl ⟨rfl,Below.alloc1 ((HBY.out.setCell (p:=⟨w.heap.size+1,0,none⟩) (by show w.heap.size≤w.heap.size+1; omega) _).setCell (p:=⟨w.heap.size+1,1,none⟩) (by show w.heap.size≤w.heap.size+1; omega) _) _ (Nat.le_refl _)⟩
 ·have Hv:=Lib.hid (show boundR m f len p=(0,0,tableE m f) by unfold boundR; rw [if_pos hE])
  have HD:=Lib.hid (newDesks_no_c a m cap f W (hf.below hB) hm hr hE)
  have t0:(tableE m f != 0)=true:=by simpa using hE
  obtain ⟨E,hE2⟩ : ∃ E,tableE m f=E:=⟨_,rfl⟩
  rw [hE2] at HD Hv t0
  rw [Hv.out]
  clear hf hp hB hQ hR hE hE2
  go_enter Try.func21,Try.ntmps21
  go_wp2_with fail
  refine HD.out.mono ?_
  rintro e w1 ⟨rfl,hb1⟩
  clear hW HD r0
  have HQX:=Lib.hid (((HQ.out.below hb1).alloc (.cells #[.slice none 0 0] 73)).alloc (.cells #[.slice none 0 0] 73))
  have HBX:=Lib.hid (Below.alloc1 (Below.alloc1 (bup HB.out hb1) (.cells #[.slice none 0 0] 73) (Nat.le_refl _)) (.cells #[.slice none 0 0] 73) (Nat.le_refl _))
  clear hb1
  have q0:=RowIs.cell HQX.out 0
  have q1:=RowIs.cell HQX.out 1
  have z0:=RowIs.frozen HQX.out 0
  have z1:=RowIs.frozen HQX.out 1
  have qz:=HQX.out.lt
  simp at q0 q1
  go_wp2_with fail
  have hQ4:=(HQX.out.set 0 (.int .i64 0)).set 1 (.int .i64 0)
  have y0:=RowIs.cell hQ4 0
  have y1:=RowIs.cell hQ4 1
  simp at y0 y1
  exact bodyPost_ret (v:=re2 (0,0,E)) (by simp [results,Try.results21,go_sem,y0,y1]) rfl ⟨rfl,(HBX.out.setCell (p:=⟨w.heap.size+1,0,none⟩) (by show w.heap.size≤w.heap.size+1; omega) _).setCell (p:=⟨w.heap.size+1,1,none⟩) (by show w.heap.size≤w.heap.size+1; omega) _⟩
end Go.Proofs.Ytkbbhihndigmeaa

namespace Go.Proofs.Ytkbbhihndigmeaa
open Go Go.RowKit Go.Shelf
def Shop (f f':Nat→Row3) (m n:Nat):Prop:=(∀ j,j<n→(f' j).n=m) ∧ ∀ j,(f' j).g=fun i=> - (f i).g j
set_option maxRecDepth 100000 in
set_option maxHeartbeats 8000000 in
theorem Rows_c (a:Option Addr) (m cap:Nat) (f:Nat→Row3) (w:World) (hf:Tab w a m f) (hm:m≤1048576) (hr : ∀ i,i<m→(f i).n≤1048576) :
 Calls Try.prog 29 #[tabV a m cap] w fun e w'=>((tableE m f ≠ 0∧e = .returned (.tuple #[.slice none 0 0, .int .i64 (tableE m f)]))∨(tableE m f=0 ∧ ∃ s g,Bst f m (f 0).n s∧e = .returned (.tuple #[.slice (some ⟨g,0,none⟩) m m, .int .i64 0])∧RowIs w' g (rowA m (valP f m (f 0).n s)) 2))∧Below w.heap.size w w':=by
 obtain ⟨W,hW⟩ : ∃ W,w.alloc (.cells #[.slice a m cap] 24)=W:=⟨_,rfl⟩
 have hB:Below w.heap.size w W:=by rw [← hW]; exact Below.alloc1 (Below.refl _ _) _ (Nat.le_refl _)
 have hR:RowIs W w.heap.size #[.slice a m cap] 24:=by rw [← hW]; exact heap_new_at _ _ _ rfl
 have r0:W.cell? ⟨w.heap.size,0,none⟩=some (.slice a m cap):=RowIs.cell hR 0
 have rz:w.heap.size<W.heap.size:=hR.lt
 have HF:=Lib.hid (fun (x:World) (h:Below w.heap.size w x)=>hf.below h)
 have HB:=Lib.hid hB
 by_cases hE:tableE m f=0
 ·have hO:=okay_of hE
  have HD:=Lib.hid (newDesks_yes_c a m (f 0).n cap f W (hf.below hB) hO)
  obtain ⟨n,hn⟩ : ∃ n,(f 0).n=n:=⟨_,rfl⟩
  rw [hn] at hO HD ⊢
  have HO:=Lib.hid hO
  have HE:=Lib.hid hE
  clear hf hB hR hE hn hr hm hO
  go_enter Try.func29,Try.ntmps29
  go_wp2_with fail
  refine HD.out.mono ?_
  rintro e w1 ⟨⟨L,f',rfl,hT',g1,g2⟩,hb1⟩
  clear hW HD r0 rz
  obtain ⟨X,hX⟩ : ∃ X,(w1.alloc (.cells #[.slice a m cap] 73)).alloc (.cells #[.slice (some ⟨L,0,none⟩) n n] 73)=X:=⟨_,rfl⟩
  have hXb:Below w1.heap.size w1 X:=by rw [← hX]; exact Below.alloc1 (Below.alloc1 (Below.refl _ _) _ (Nat.le_refl _)) _ (Nat.le_refl _)
  have hX1:RowIs X w1.heap.size #[.slice a m cap] 73:=by rw [← hX]; exact RowIs.alloc (heap_new_at _ _ _ rfl) _
  have hX2:RowIs X (w1.heap.size+1) #[.slice (some ⟨L,0,none⟩) n n] 73:=by rw [← hX]; exact heap_new_at _ _ _ (by simp)
  have hBX:Below w.heap.size w X:=bup (bup HB.out hb1) hXb
  have x0:X.cell? ⟨w1.heap.size,0,none⟩=some (.slice a m cap):=RowIs.cell hX1 0
  have xz:=hX1.lt
  have x2:X.cell? ⟨w1.heap.size+1,0,none⟩=some (.slice (some ⟨L,0,none⟩) n n):=RowIs.cell hX2 0
  have xz2:=hX2.lt
  have HTX:=Lib.hid (hT'.below hXb)
  have HO':=Lib.hid (okay_turn HO.out g1 g2)
  have HG:=Lib.hid (show Shop f f' m n from ⟨g1,g2⟩)
  have HBX:=Lib.hid hBX
  have HFX:=Lib.hid (HF.out X hBX)
  clear hX1 hX2 hBX hXb hb1 hT' g1 g2 HF HB
  have hFC : ∀ y,Below X.heap.size X y→Below X.heap.size X y∧y.cell? ⟨w1.heap.size,0,none⟩=some (.slice a m cap)∧y.cell? ⟨w1.heap.size+1,0,none⟩=some (.slice (some ⟨L,0,none⟩) n n):=fun y hy=>⟨hy,(hy.cell (p:=⟨w1.heap.size,0,none⟩) xz).trans x0,(hy.cell (p:=⟨w1.heap.size+1,0,none⟩) xz2).trans x2⟩
  go_wp2_with fail
  refine RC.wp_region_runF (C:=fun y=>Below X.heap.size X y∧y.cell? ⟨w1.heap.size,0,none⟩=some (.slice a m cap)∧y.cell? ⟨w1.heap.size+1,0,none⟩=some (.slice (some ⟨L,0,none⟩) n n)) (fun y=>Below X.heap.size X y) (by kernel_rfl) (stable_below X) (Below.refl _ _) ?_
  change RC.Run _ _ _ _ _ 6 _ _ _
  refine RC.run_take (i:=0) (tabV a m cap) rfl (by kernel_rfl) (by kernel_rfl) (by kernel_rfl) rfl hFC (fun y hy=>by obtain ⟨-,q0,q1⟩:=hy; go_simp) ?_
  simp only [puts]
  refine RC.run_take (i:=1) (tabV a m cap) rfl (by kernel_rfl) (by kernel_rfl) (by kernel_rfl) rfl hFC (fun y hy=>by obtain ⟨-,q0,q1⟩:=hy; go_simp) ?_
  simp only [puts]
  refine RC.run_only (i:=2) (by kernel_rfl) (RC.at_call (fun v y=>Below X.heap.size X y ∧ ∃ s,Bst f m n s∧v=planV (valP f m n s)) rfl rfl (fun v y y1 h hb=>⟨h.1.trans (hb.mono h.1.size),h.2⟩) (fun v y h=>hFC y h.1) (fun y hy=>⟨70, #[tabV a m cap],(Go.Conc.run_call_body (fn:=Try.f70) rfl Try.func70 (by kernel_rfl) (by kernel_rfl)).trans (by simp [Act.eval]),?_⟩) ?_)
  ·refine (bestPlan_c a m n cap f y (HFX.out.below hy) HO.out).mono ?_
   rintro e y1 ⟨s,hs,rfl,h2⟩
   exact ⟨_,rfl,hy.trans (h2.mono hy.size),s,hs,rfl⟩
  rintro v ⟨_,_,s,hs,rfl⟩
  obtain ⟨p,hp⟩ : ∃ p,valP f m n s=p:=⟨_,rfl⟩
  have Hp:=Lib.hid hp
  rw [hp]
  clear hp
  refine RC.run_mono _ _ _ (fun y=>Below X.heap.size X y) _ (fun y h=>h.1) ?_
  simp only [puts]
  refine RC.run_only (i:=3) (by kernel_rfl) (RC.at_call (fun v y=>Below X.heap.size X y ∧ ∃ g,v = .slice (some ⟨g,0,none⟩) m m∧RowIs y g (rowA m p) 2) rfl rfl (fun v y y1 h hb=>⟨h.1.trans (hb.mono h.1.size),h.2.imp fun g h=>⟨h.1,h.2.below hb⟩⟩) (fun v y h=>hFC y h.1) (fun y hy=>⟨72, #[tabV a m cap,planV p],(Go.Conc.run_call_body (fn:=Try.f72) rfl Try.func72 (by kernel_rfl) (by kernel_rfl)).trans (by simp [Act.eval]),?_⟩) ?_)
  ·refine (handOver_c a m n cap f p y HO.out).mono ?_
   rintro e y1 ⟨g,_,rfl,h1,h2⟩
   exact ⟨_,rfl,hy.trans (h2.mono hy.size),g,rfl,h1⟩
  rintro v ⟨_,_,g,rfl,_⟩
  refine RC.run_mono _ _ _ (fun y=>Below X.heap.size X y∧RowIs y g (rowA m p) 2) _ ?_ ?_
  ·rintro y ⟨h1,g',e,h2⟩
   simp only [Value.slice.injEq,Option.some.injEq,Addr.mk.injEq,and_true] at e
   subst e
   exact ⟨h1,h2⟩
  simp only [puts]
  refine RC.run_take (i:=4) (.slice (some ⟨g,0,none⟩) m m) rfl (by kernel_rfl) (by kernel_rfl) (by kernel_rfl) rfl (fun y h=>hFC y h.1) (fun y hy=>by go_simp) ?_
  simp only [puts]
  refine RC.run_take (i:=5) (.int .i64 0) rfl (by kernel_rfl) (by kernel_rfl) (by kernel_rfl) rfl (fun y h=>hFC y h.1) (fun y hy=>by go_simp) ?_
  simp only [puts]
  refine ⟨by kernel_rfl,fun y hy => ?_⟩
  obtain ⟨h1,h2⟩:=hy
  have H1:=Lib.hid h1
  have H2:=Lib.hid h2
  clear h1 h2
  go_wp2_with fail
  have h2:=H2.out
  exact bodyPost_ret (v:= .tuple #[.slice (some ⟨g,0,none⟩) m m, .int .i64 0]) (by simp [results,Try.results29,go_sem]) rfl ⟨.inr ⟨HE.out,⟨s,g,hs,rfl,by rw [Hp.out]; exact h2⟩⟩,HBX.out.trans (H1.out.mono HBX.out.size)⟩
 ·have HD:=Lib.hid (newDesks_no_c a m cap f W (hf.below hB) hm hr hE)
  have t0:(tableE m f != 0)=true:=by simpa using hE
  have HE:=Lib.hid hE
  obtain ⟨E,hE2⟩ : ∃ E,tableE m f=E:=⟨_,rfl⟩
  rw [hE2] at HD HE t0 ⊢
  clear hf hB hR hE hE2 hr hm
  go_enter Try.func29,Try.ntmps29
  go_wp2_with fail
  refine HD.out.mono ?_
  rintro e w1 ⟨rfl,hb1⟩
  clear hW HD r0
  have HBX:=Lib.hid (Below.alloc1 (Below.alloc1 (bup HB.out hb1) (.cells #[.slice none 0 0] 73) (Nat.le_refl _)) (.cells #[.slice none 0 0] 73) (Nat.le_refl _))
  clear hb1
  go_wp2_with fail
  exact bodyPost_ret (v:= .tuple #[.slice none 0 0, .int .i64 E]) (by simp [results,Try.results29,go_sem]) rfl ⟨.inl ⟨HE.out,rfl⟩,HBX.out⟩
set_option maxRecDepth 100000 in
set_option maxHeartbeats 8000000 in
theorem Columns_c (a:Option Addr) (m cap:Nat) (f:Nat→Row3) (w:World) (hf:Tab w a m f) (hm:m≤1048576) (hr : ∀ i,i<m→(f i).n≤1048576) :
 Calls Try.prog 30 #[tabV a m cap] w fun e w'=>((tableE m f ≠ 0∧e = .returned (.tuple #[.slice none 0 0, .int .i64 (tableE m f)]))∨(tableE m f=0 ∧ ∃ f',Shop f f' m (f 0).n ∧ ∃ s g,Bst f' (f 0).n m s∧e = .returned (.tuple #[.slice (some ⟨g,0,none⟩) (f 0).n (f 0).n, .int .i64 0])∧RowIs w' g (rowA (f 0).n (valP f' (f 0).n m s)) 2))∧Below w.heap.size w w':=by
 obtain ⟨W,hW⟩ : ∃ W,w.alloc (.cells #[.slice a m cap] 24)=W:=⟨_,rfl⟩
 have hB:Below w.heap.size w W:=by rw [← hW]; exact Below.alloc1 (Below.refl _ _) _ (Nat.le_refl _)
 have hR:RowIs W w.heap.size #[.slice a m cap] 24:=by rw [← hW]; exact heap_new_at _ _ _ rfl
 have r0:W.cell? ⟨w.heap.size,0,none⟩=some (.slice a m cap):=RowIs.cell hR 0
 have rz:w.heap.size<W.heap.size:=hR.lt
 have HF:=Lib.hid (fun (x:World) (h:Below w.heap.size w x)=>hf.below h)
 have HB:=Lib.hid hB
 by_cases hE:tableE m f=0
 ·have hO:=okay_of hE
  have HD:=Lib.hid (newDesks_yes_c a m (f 0).n cap f W (hf.below hB) hO)
  obtain ⟨n,hn⟩ : ∃ n,(f 0).n=n:=⟨_,rfl⟩
  rw [hn] at hO HD ⊢
  have HO:=Lib.hid hO
  have HE:=Lib.hid hE
  clear hf hB hR hE hn hr hm hO
  go_enter Try.func30,Try.ntmps30
  go_wp2_with fail
  refine HD.out.mono ?_
  rintro e w1 ⟨⟨L,f',rfl,hT',g1,g2⟩,hb1⟩
  clear hW HD r0 rz
  obtain ⟨X,hX⟩ : ∃ X,(w1.alloc (.cells #[.slice a m cap] 73)).alloc (.cells #[.slice (some ⟨L,0,none⟩) n n] 73)=X:=⟨_,rfl⟩
  have hXb:Below w1.heap.size w1 X:=by rw [← hX]; exact Below.alloc1 (Below.alloc1 (Below.refl _ _) _ (Nat.le_refl _)) _ (Nat.le_refl _)
  have hX1:RowIs X w1.heap.size #[.slice a m cap] 73:=by rw [← hX]; exact RowIs.alloc (heap_new_at _ _ _ rfl) _
  have hX2:RowIs X (w1.heap.size+1) #[.slice (some ⟨L,0,none⟩) n n] 73:=by rw [← hX]; exact heap_new_at _ _ _ (by simp)
  have hBX:Below w.heap.size w X:=bup (bup HB.out hb1) hXb
  have x0:X.cell? ⟨w1.heap.size,0,none⟩=some (.slice a m cap):=RowIs.cell hX1 0
  have xz:=hX1.lt
  have x2:X.cell? ⟨w1.heap.size+1,0,none⟩=some (.slice (some ⟨L,0,none⟩) n n):=RowIs.cell hX2 0
  have xz2:=hX2.lt
  have HTX:=Lib.hid (hT'.below hXb)
  have HO':=Lib.hid (okay_turn HO.out g1 g2)
  have HG:=Lib.hid (show Shop f f' m n from ⟨g1,g2⟩)
  have HBX:=Lib.hid hBX
  have HFX:=Lib.hid (HF.out X hBX)
  clear hX1 hX2 hBX hXb hb1 hT' g1 g2 HF HB
  have hFC : ∀ y,Below X.heap.size X y→Below X.heap.size X y∧y.cell? ⟨w1.heap.size,0,none⟩=some (.slice a m cap)∧y.cell? ⟨w1.heap.size+1,0,none⟩=some (.slice (some ⟨L,0,none⟩) n n):=fun y hy=>⟨hy,(hy.cell (p:=⟨w1.heap.size,0,none⟩) xz).trans x0,(hy.cell (p:=⟨w1.heap.size+1,0,none⟩) xz2).trans x2⟩
  go_wp2_with fail
  refine RC.wp_region_runF (C:=fun y=>Below X.heap.size X y∧y.cell? ⟨w1.heap.size,0,none⟩=some (.slice a m cap)∧y.cell? ⟨w1.heap.size+1,0,none⟩=some (.slice (some ⟨L,0,none⟩) n n)) (fun y=>Below X.heap.size X y) (by kernel_rfl) (stable_below X) (Below.refl _ _) ?_
  change RC.Run _ _ _ _ _ 6 _ _ _
  refine RC.run_take (i:=0) (tabV (some ⟨L,0,none⟩) n n) rfl (by kernel_rfl) (by kernel_rfl) (by kernel_rfl) rfl hFC (fun y hy=>by obtain ⟨-,q0,q1⟩:=hy; go_simp) ?_
  simp only [puts]
  refine RC.run_take (i:=1) (tabV (some ⟨L,0,none⟩) n n) rfl (by kernel_rfl) (by kernel_rfl) (by kernel_rfl) rfl hFC (fun y hy=>by obtain ⟨-,q0,q1⟩:=hy; go_simp) ?_
  simp only [puts]
  refine RC.run_only (i:=2) (by kernel_rfl) (RC.at_call (fun v y=>Below X.heap.size X y ∧ ∃ s,Bst f' n m s∧v=planV (valP f' n m s)) rfl rfl (fun v y y1 h hb=>⟨h.1.trans (hb.mono h.1.size),h.2⟩) (fun v y h=>hFC y h.1) (fun y hy=>⟨70, #[tabV (some ⟨L,0,none⟩) n n],(Go.Conc.run_call_body (fn:=Try.f70) rfl Try.func70 (by kernel_rfl) (by kernel_rfl)).trans (by simp [Act.eval]),?_⟩) ?_)
  ·refine (bestPlan_c (some ⟨L,0,none⟩) n m n f' y (HTX.out.below hy) HO'.out).mono ?_
   rintro e y1 ⟨s,hs,rfl,h2⟩
   exact ⟨_,rfl,hy.trans (h2.mono hy.size),s,hs,rfl⟩
  rintro v ⟨_,_,s,hs,rfl⟩
  obtain ⟨p,hp⟩ : ∃ p,valP f' n m s=p:=⟨_,rfl⟩
  have Hp:=Lib.hid hp
  rw [hp]
  clear hp
  refine RC.run_mono _ _ _ (fun y=>Below X.heap.size X y) _ (fun y h=>h.1) ?_
  simp only [puts]
  refine RC.run_only (i:=3) (by kernel_rfl) (RC.at_call (fun v y=>Below X.heap.size X y ∧ ∃ g,v = .slice (some ⟨g,0,none⟩) n n∧RowIs y g (rowA n p) 2) rfl rfl (fun v y y1 h hb=>⟨h.1.trans (hb.mono h.1.size),h.2.imp fun g h=>⟨h.1,h.2.below hb⟩⟩) (fun v y h=>hFC y h.1) (fun y hy=>⟨72, #[tabV (some ⟨L,0,none⟩) n n,planV p],(Go.Conc.run_call_body (fn:=Try.f72) rfl Try.func72 (by kernel_rfl) (by kernel_rfl)).trans (by simp [Act.eval]),?_⟩) ?_)
  ·refine (handOver_c (some ⟨L,0,none⟩) n m n f' p y HO'.out).mono ?_
   rintro e y1 ⟨g,_,rfl,h1,h2⟩
   exact ⟨_,rfl,hy.trans (h2.mono hy.size),g,rfl,h1⟩
  rintro v ⟨_,_,g,rfl,_⟩
  refine RC.run_mono _ _ _ (fun y=>Below X.heap.size X y∧RowIs y g (rowA n p) 2) _ ?_ ?_
  ·rintro y ⟨h1,g',e,h2⟩
   simp only [Value.slice.injEq,Option.some.injEq,Addr.mk.injEq,and_true] at e
   subst e
   exact ⟨h1,h2⟩
  simp only [puts]
  refine RC.run_take (i:=4) (.slice (some ⟨g,0,none⟩) n n) rfl (by kernel_rfl) (by kernel_rfl) (by kernel_rfl) rfl (fun y h=>hFC y h.1) (fun y hy=>by go_simp) ?_
  simp only [puts]
  refine RC.run_take (i:=5) (.int .i64 0) rfl (by kernel_rfl) (by kernel_rfl) (by kernel_rfl) rfl (fun y h=>hFC y h.1) (fun y hy=>by go_simp) ?_
  simp only [puts]
  refine ⟨by kernel_rfl,fun y hy => ?_⟩
  obtain ⟨h1,h2⟩:=hy
  have H1:=Lib.hid h1
  have H2:=Lib.hid h2
  clear h1 h2
  go_wp2_with fail
  have h2:=H2.out
  exact bodyPost_ret (v:= .tuple #[.slice (some ⟨g,0,none⟩) n n, .int .i64 0]) (by simp [results,Try.results30,go_sem]) rfl ⟨.inr ⟨HE.out,⟨f',HG.out,s,g,hs,rfl,by rw [Hp.out]; exact h2⟩⟩,HBX.out.trans (H1.out.mono HBX.out.size)⟩
 ·have HD:=Lib.hid (newDesks_no_c a m cap f W (hf.below hB) hm hr hE)
  have t0:(tableE m f != 0)=true:=by simpa using hE
  have HE:=Lib.hid hE
  obtain ⟨E,hE2⟩ : ∃ E,tableE m f=E:=⟨_,rfl⟩
  rw [hE2] at HD HE t0 ⊢
  clear hf hB hR hE hE2 hr hm
  go_enter Try.func30,Try.ntmps30
  go_wp2_with fail
  refine HD.out.mono ?_
  rintro e w1 ⟨rfl,hb1⟩
  clear hW HD r0
  have HBX:=Lib.hid (Below.alloc1 (Below.alloc1 (bup HB.out hb1) (.cells #[.slice none 0 0] 73) (Nat.le_refl _)) (.cells #[.slice none 0 0] 73) (Nat.le_refl _))
  clear hb1
  go_wp2_with fail
  exact bodyPost_ret (v:= .tuple #[.slice none 0 0, .int .i64 E]) (by simp [results,Try.results30,go_sem]) rfl ⟨.inl ⟨HE.out,rfl⟩,HBX.out⟩
end Go.Proofs.Ytkbbhihndigmeaa

namespace Go.Proofs.Ytkbbhihndigmeaa
open Go Go.RowKit Go.Shelf
def proofR (m:Nat) (f:Nat→Row3) (lr:Nat) (p:Nat→Int) (lc:Nat) (q:Nat→Int):Int × Int × Int:=
 if tableE m f ≠ 0 then (0,0,tableE m f) else if planE lr m p ≠ 0 then (0,0,planE lr m p) else if planE lc (f 0).n q ≠ 0 then (0,0,planE lc (f 0).n q)
 else if ratN (sureN f m (f 0).n p) (sumI p m) = - ratN (boundN f m (f 0).n q) (sumI q (f 0).n)∧ratD (sureN f m (f 0).n p) (sumI p m)=ratD (boundN f m (f 0).n q) (sumI q (f 0).n) then (ratN (sureN f m (f 0).n p) (sumI p m),ratD (sureN f m (f 0).n p) (sumI p m),0) else (0,0,14)
theorem bound_turn {f f':Nat→Row3} {m n:Nat} {q:Nat→Int} (h1:1≤m) (h : ∀ j,(f' j).g=fun i=> - (f i).g j):sureN f' n m (padF q n)=boundN f m n q:=by
 rw [sureN_same h1 (fun i hi=>pad_in i hi)]
 show leastF (ag (lossA f') q n) m=_
 rw [loss_turn h]
theorem bound_bd {f:Nat→Row3} {m n:Nat} {q:Nat→Int} (hO:Okay m n f) (hb : ∀ i,i<n→0≤q i∧q i≤100000000) : -40000000000≤boundN f m n q∧boundN f m n q≤40000000000:=by
 have bd:=sureN_bd (p:=padF q n) (m:=n) (n:=m) (f:=fun j=>turnF f m j) (okay_turn hO (fun _ _=>rfl) (fun _=>rfl)) (fun i hi=>by rw [pad_in i hi]; exact hb i hi)
 rw [bound_turn hO.m1 (fun _=>rfl)] at bd
 exact bd
set_option maxRecDepth 100000 in
set_option maxHeartbeats 16000000 in
theorem CheckProof_c (a:Option Addr) (m cap:Nat) (f:Nat→Row3) (pa:Option Addr) (lr pcap:Nat) (p:Nat→Int) (qa:Option Addr) (lc qcap:Nat) (q:Nat→Int) (w:World) (hf:Tab w a m f) (hm:m≤1048576) (hr : ∀ i,i<m→(f i).n≤1048576) (hp:Ints w pa lr p) (hl:lr≤1048576) (hq:Ints w qa lc q) (hlq:lc≤1048576) :
 Calls Try.prog 27 #[tabV a m cap, .slice pa lr pcap, .slice qa lc qcap] w fun e w'=>e = .returned (re2 (proofR m f lr p lc q))∧Below w.heap.size w w':=by
 obtain ⟨W,hW⟩ : ∃ W,(w.alloc (.cells #[.slice a m cap] 24)).alloc (.cells #[.int .i64 0, .int .i64 0] 30)=W:=⟨_,rfl⟩
 have hB:Below w.heap.size w W:=by rw [← hW]; exact Below.alloc1 (Below.alloc1 (Below.refl _ _) _ (Nat.le_refl _)) _ (Nat.le_refl _)
 have hQ:RowIs W (w.heap.size+1) #[.int .i64 0, .int .i64 0] 30:=by rw [← hW]; exact heap_new_at _ _ _ (by simp)
 have hR:RowIs W w.heap.size #[.slice a m cap] 24:=by rw [← hW]; exact RowIs.alloc (heap_new_at _ _ _ rfl) _
 have r0:W.cell? ⟨w.heap.size,0,none⟩=some (.slice a m cap):=RowIs.cell hR 0
 have rz:w.heap.size<W.heap.size:=hR.lt
 have HF:=Lib.hid (fun (x:World) (h:Below w.heap.size w x)=>hf.below h)
 have HP:=Lib.hid (fun (x:World) (h:Below w.heap.size w x)=>Cells.below hp h)
 have HQq:=Lib.hid (fun (x:World) (h:Below w.heap.size w x)=>Cells.below hq h)
 have HQ:=Lib.hid hQ
 have HB:=Lib.hid hB
 have hzW:=hB.size
 by_cases hE:tableE m f=0
 ·have hO:=okay_of hE
  have HD:=Lib.hid (newDesks_yes_c a m (f 0).n cap f W (hf.below hB) hO)
  obtain ⟨n,hn⟩ : ∃ n,(f 0).n=n:=⟨_,rfl⟩
  rw [hn] at hO HD
  have HO:=Lib.hid hO
  have HE:=Lib.hid hE
  have Hn:=Lib.hid hn
  have HN:=Lib.hid (fun (x:World) (h:Below w.heap.size w x)=>newPlan_c a m n cap f pa lr pcap p x (hf.below h) hO (Cells.below hp h) hl)
  clear hE hn hf hp hq hr hm hO hB hQ hR
  by_cases hL:planE lr m p=0
  ·rw [planP_yes hL,hL] at HN
   have HL:=Lib.hid hL
   obtain ⟨hlen,hpb,hs⟩:=plan_ok hL
   have hpb2 : ∀ i,i<m→0≤padF p m i∧padF p m i≤100000000:=fun i hi=>by rw [pad_in i hi]; exact hpb i hi
   have es:sumI (padF p m) m=sumI p m:=sumI_same fun i hi=>pad_in i hi
   have HS:=Lib.hid (fun (x:World) (h:Below w.heap.size w x)=>sure_c a m n cap f (padF p m) x (HF.out x h) HO.out hpb2 (by rw [es]; exact hs))
   rw [es,sureN_same HO.out.n1 (fun i hi=>pad_in i hi)] at HS
   clear hL hlen hpb hs hpb2 es
   by_cases hK:planE lc n q=0
   ·have HK:=Lib.hid hK
    obtain ⟨hlen,hqb,hs⟩:=plan_ok hK
    have hqb2 : ∀ i,i<n→0≤padF q n i∧padF q n i≤100000000:=fun i hi=>by rw [pad_in i hi]; exact hqb i hi
    have es:sumI (padF q n) n=sumI q n:=sumI_same fun i hi=>pad_in i hi
    have hbb:=bound_bd HO.out hqb
    have HQb:=Lib.hid hqb2
    have Hes:=Lib.hid es
    have Hs:=Lib.hid hs
    have hN1:=tdiv_bd (b:=Int.gcd (boundN f m n q) (sumI q n)) hbb
    obtain ⟨pN,hpN⟩ : ∃ v,ratN (sureN f m n p) (sumI p m)=v:=⟨_,rfl⟩
    obtain ⟨pD,hpD⟩ : ∃ v,ratD (sureN f m n p) (sumI p m)=v:=⟨_,rfl⟩
    obtain ⟨qN,hqN⟩ : ∃ v,ratN (boundN f m n q) (sumI q n)=v:=⟨_,rfl⟩
    obtain ⟨qD,hqD⟩ : ∃ v,ratD (boundN f m n q) (sumI q n)=v:=⟨_,rfl⟩
    have hN2 : -40000000000≤qN∧qN≤40000000000:=by rw [← hqN]; exact hN1
    have HNg:=Lib.hid (fun (x:World)=>negative_c qN qD x (by omega) (by omega))
    unfold ratV at HS
    rw [hpN,hpD] at HS
    have Hres:=Lib.hid (show proofR m f lr p lc q=if (pN = -qN∧pD=qD) then (pN,pD,0) else (0,0,14) by unfold proofR; rw [if_neg (by simp [HE.out]),if_neg (by simp [HL.out]),Hn.out,if_neg (by simp [HK.out]),hpN,hpD,hqN,hqD])
    have HqN:=Lib.hid hqN
    have HqD:=Lib.hid hqD
    obtain ⟨rs,hrs⟩ : ∃ rs,proofR m f lr p lc q=rs:=⟨_,rfl⟩
    rw [hrs] at Hres ⊢
    have HPY:=Lib.hid (planP_yes hK)
    clear hK hlen hqb hs hqb2 es hbb hN1 hN2 hpN hpD hqN hqD hrs
    go_enter Try.func27,Try.ntmps27
    go_wp2_with fail
    refine HD.out.mono ?_
    rintro e w1 ⟨⟨L,f',rfl,hT',g1,g2⟩,hb1⟩
    clear hW HD r0
    obtain ⟨X,hX⟩ : ∃ X,(w1.alloc (.cells #[.slice a m cap] 73)).alloc (.cells #[.slice (some ⟨L,0,none⟩) n n] 73)=X:=⟨_,rfl⟩
    have hXb:Below w1.heap.size w1 X:=by rw [← hX]; exact Below.alloc1 (Below.alloc1 (Below.refl _ _) _ (Nat.le_refl _)) _ (Nat.le_refl _)
    have hX1:RowIs X w1.heap.size #[.slice a m cap] 73:=by rw [← hX]; exact RowIs.alloc (heap_new_at _ _ _ rfl) _
    have hX2:RowIs X (w1.heap.size+1) #[.slice (some ⟨L,0,none⟩) n n] 73:=by rw [← hX]; exact heap_new_at _ _ _ (by simp)
    have x0:X.cell? ⟨w1.heap.size,0,none⟩=some (.slice a m cap):=RowIs.cell hX1 0
    have xz:=hX1.lt
    have HX1:=Lib.hid hX1
    have HX2:=Lib.hid hX2
    have HBX:=Lib.hid (bup (bup HB.out hb1) hXb)
    have HQX:=Lib.hid ((HQ.out.below hb1).below hXb)
    have HTX:=Lib.hid (hT'.below hXb)
    have HO':=Lib.hid (okay_turn HO.out g1 g2)
    have HG2:=Lib.hid g2
    have hz1:W.heap.size≤w1.heap.size:=hb1.size
    clear hX1 hX2 hXb hb1 hT' g1 g2
    go_wp2_with fail
    refine (HN.out _ HBX.out).mono ?_
    rintro e w2 ⟨rfl,hb2⟩
    clear hX x0 xz
    obtain ⟨Y,hY⟩ : ∃ Y,w2.alloc (.cells #[.int .i64 (padF p m 0), .int .i64 (padF p m 1), .int .i64 (padF p m 2), .int .i64 (padF p m 3)] 77)=Y:=⟨_,rfl⟩
    have hYb:Below w2.heap.size w2 Y:=by rw [← hY]; exact Below.alloc1 (Below.refl _ _) _ (Nat.le_refl _)
    have hYr:RowIs Y w2.heap.size (planRow (padF p m)) 77:=by rw [← hY]; exact heap_new_at _ _ _ rfl
    have hY2:=(HX2.out.below hb2).below hYb
    have y2:Y.cell? ⟨w1.heap.size+1,0,none⟩=some (.slice (some ⟨L,0,none⟩) n n):=RowIs.cell hY2 0
    have yz2:=hY2.lt
    have HX1Y:=Lib.hid ((HX1.out.below hb2).below hYb)
    have HX2Y:=Lib.hid hY2
    have HYr:=Lib.hid hYr
    have HBY:=Lib.hid (bup (bup HBX.out hb2) hYb)
    have HQY:=Lib.hid ((HQX.out.below hb2).below hYb)
    have HTY:=Lib.hid ((HTX.out.below hb2).below hYb)
    have hNC:=newPlan_c (some ⟨L,0,none⟩) n m n f' qa lc qcap q Y HTY.out HO'.out (HQq.out _ HBY.out) hlq
    rw [HPY.out,HK.out] at hNC
    have HNC:=Lib.hid hNC
    clear hYb hYr hY2 hb2 hNC
    go_wp2_with fail
    refine HNC.out.mono ?_
    rintro e w3 ⟨rfl,hb3⟩
    clear hY y2 yz2
    obtain ⟨Z,hZ⟩ : ∃ Z,w3.alloc (.cells #[.int .i64 (padF q n 0), .int .i64 (padF q n 1), .int .i64 (padF q n 2), .int .i64 (padF q n 3)] 77)=Z:=⟨_,rfl⟩
    have hZb:Below w3.heap.size w3 Z:=by rw [← hZ]; exact Below.alloc1 (Below.refl _ _) _ (Nat.le_refl _)
    have hZr:RowIs Z w3.heap.size (planRow (padF q n)) 77:=by rw [← hZ]; exact heap_new_at _ _ _ rfl
    have hZ1:=(HX1Y.out.below hb3).below hZb
    have hZp:=(HYr.out.below hb3).below hZb
    obtain ⟨⟨p0,p1,p2,p3⟩,pz⟩:=row4 hZp
    have s0:Z.cell? ⟨w1.heap.size,0,none⟩=some (.slice a m cap):=RowIs.cell hZ1 0
    have sz:=hZ1.lt
    have HX2Z:=Lib.hid ((HX2Y.out.below hb3).below hZb)
    have HZr:=Lib.hid hZr
    have HBZ:=Lib.hid (bup (bup HBY.out hb3) hZb)
    have HQZ:=Lib.hid ((HQY.out.below hb3).below hZb)
    have HTZ:=Lib.hid ((HTY.out.below hb3).below hZb)
    clear hZb hZr hZ1 hZp hb3
    go_wp2_with fail
    refine (HS.out _ HBZ.out).mono ?_
    rintro e w4 ⟨rfl,hb4⟩
    clear hZ p0 p1 p2 p3 pz s0 sz
    obtain ⟨T,hT⟩ : ∃ T,w4.alloc (.cells #[.int .i64 pN, .int .i64 pD] 30)=T:=⟨_,rfl⟩
    have hTb:Below w4.heap.size w4 T:=by rw [← hT]; exact Below.alloc1 (Below.refl _ _) _ (Nat.le_refl _)
    have hTr:RowIs T w4.heap.size #[.int .i64 pN, .int .i64 pD] 30:=by rw [← hT]; exact heap_new_at _ _ _ rfl
    have t0:T.cell? ⟨w4.heap.size,0,none⟩=some (.int .i64 pN):=hTr.cell 0
    have t1:T.cell? ⟨w4.heap.size,1,none⟩=some (.int .i64 pD):=hTr.cell 1
    have tz:=hTr.lt
    have hT2:=(HX2Z.out.below hb4).below hTb
    have s2:T.cell? ⟨w1.heap.size+1,0,none⟩=some (.slice (some ⟨L,0,none⟩) n n):=RowIs.cell hT2 0
    have sz2:=hT2.lt
    have hTp:=(HZr.out.below hb4).below hTb
    obtain ⟨⟨k0,k1,k2,k3⟩,kz⟩:=row4 hTp
    have HTr:=Lib.hid hTr
    have HBT:=Lib.hid (bup (bup HBZ.out hb4) hTb)
    have HQT:=Lib.hid ((HQZ.out.below hb4).below hTb)
    have HTT:=Lib.hid ((HTZ.out.below hb4).below hTb)
    have hSC:=fun (x:Later T)=>sure_c (some ⟨L,0,none⟩) n m n f' (padF q n) x.w (HTT.out.below x.h) HO'.out HQb.out (by rw [Hes.out]; exact Hs.out)
    rw [Hes.out,bound_turn HO.out.m1 HG2.out] at hSC
    unfold ratV at hSC
    rw [HqN.out,HqD.out] at hSC
    have HSC:=Lib.hid hSC
    have HNL:=Lib.hid (fun (x:Later T)=>HNg.out x.w)
    have heq:=fun w=>eqRat pN pD (-qN) qD w
    obtain ⟨qq,hqq⟩ : ∃ qq,(pN == -qN && pD==qD)=qq:=⟨_,rfl⟩
    simp only [hqq] at heq
    have Hqq:=Lib.hid hqq
    have hlc:=fun (x:Later T)=>later_cell x
    clear hTb hTr hT2 hTp hb4 hqq hSC
    go_wp2_with fail
    refine wp_region_later (by kernel_rfl) (by kernel_rfl) ?_
    repeat (go_big_quiet_step ((first | (with_reducible refine calls_later (HSC.out _)) | (with_reducible refine calls_later (HNL.out _)))))
    refine wpQuiet_nil ?_
    clear hlc HSC HNL HNg heq
    rintro ⟨w5,hb5⟩
    dsimp only
    have HR5:=Lib.hid (HTr.out.below hb5)
    have HB5:=Lib.hid (bup HBT.out hb5)
    have HQ5:=Lib.hid (HQT.out.below hb5)
    have u0:=RowIs.cell HR5.out 0
    have u1:=RowIs.cell HR5.out 1
    have uz:=HR5.out.lt
    simp at u0 u1
    have q0:=RowIs.cell HQ5.out 0
    have q1:=RowIs.cell HQ5.out 1
    have z0:=RowIs.frozen HQ5.out 0
    have z1:=RowIs.frozen HQ5.out 1
    have qz:=HQ5.out.lt
    simp at q0 q1
    clear hb5 t0 t1 tz s2 sz2 k0 k1 k2 k3 kz
    cases qq with
    | true=>
      have hr:rs=(pN,pD,0):=Hres.out.trans (if_pos (by simpa using Hqq.out))
      clear Hres
      have Hr6:=Lib.hid hr
      clear hr
      go_wp2_with fail
      have hQ4:=(HQ5.out.set 0 (.int .i64 pN)).set 1 (.int .i64 pD)
      have y0:=RowIs.cell hQ4 0
      have y1:=RowIs.cell hQ4 1
      simp at y0 y1
      exact bodyPost_ret (v:=re2 (pN,pD,0)) (by simp [results,Try.results27,go_sem,y0,y1]) rfl ⟨by rw [Hr6.out],(HB5.out.setCell (p:=⟨w.heap.size+1,0,none⟩) (by show w.heap.size≤w.heap.size+1; omega) _).setCell (p:=⟨w.heap.size+1,1,none⟩) (by show w.heap.size≤w.heap.size+1; omega) _⟩
    | false=>
      have hr:rs=(0,0,14):=Hres.out.trans (if_neg (fun h=>by have:=Hqq.out; simp [h.1,h.2] at this))
      clear Hres
      have Hr6:=Lib.hid hr
      clear hr
      go_wp2_with fail
      have hQ4:=(HQ5.out.set 0 (.int .i64 0)).set 1 (.int .i64 0)
      have y0:=RowIs.cell hQ4 0
      have y1:=RowIs.cell hQ4 1
      simp at y0 y1
      exact bodyPost_ret (v:=re2 (0,0,14)) (by simp [results,Try.results27,go_sem,y0,y1]) rfl ⟨by rw [Hr6.out],(HB5.out.setCell (p:=⟨w.heap.size+1,0,none⟩) (by show w.heap.size≤w.heap.size+1; omega) _).setCell (p:=⟨w.heap.size+1,1,none⟩) (by show w.heap.size≤w.heap.size+1; omega) _⟩
   ·have Hres:=Lib.hid (show proofR m f lr p lc q=(0,0,planE lc n q) by unfold proofR; rw [if_neg (by simp [HE.out]),if_neg (by simp [HL.out]),Hn.out,if_pos hK])
    have t0:(planE lc n q != 0)=true:=by simpa using hK
    have HPN:=Lib.hid (planP_no hK)
    obtain ⟨E,hE2⟩ : ∃ E,planE lc n q=E:=⟨_,rfl⟩
    rw [hE2] at t0 Hres
    have HE2:=Lib.hid hE2
    rw [Hres.out]
    clear hK hE2 HS
    go_enter Try.func27,Try.ntmps27
    go_wp2_with fail
    refine HD.out.mono ?_
    rintro e w1 ⟨⟨L,f',rfl,hT',g1,g2⟩,hb1⟩
    clear hW HD r0
    obtain ⟨X,hX⟩ : ∃ X,(w1.alloc (.cells #[.slice a m cap] 73)).alloc (.cells #[.slice (some ⟨L,0,none⟩) n n] 73)=X:=⟨_,rfl⟩
    have hXb:Below w1.heap.size w1 X:=by rw [← hX]; exact Below.alloc1 (Below.alloc1 (Below.refl _ _) _ (Nat.le_refl _)) _ (Nat.le_refl _)
    have hX1:RowIs X w1.heap.size #[.slice a m cap] 73:=by rw [← hX]; exact RowIs.alloc (heap_new_at _ _ _ rfl) _
    have hX2:RowIs X (w1.heap.size+1) #[.slice (some ⟨L,0,none⟩) n n] 73:=by rw [← hX]; exact heap_new_at _ _ _ (by simp)
    have x0:X.cell? ⟨w1.heap.size,0,none⟩=some (.slice a m cap):=RowIs.cell hX1 0
    have xz:=hX1.lt
    have HX1:=Lib.hid hX1
    have HX2:=Lib.hid hX2
    have HBX:=Lib.hid (bup (bup HB.out hb1) hXb)
    have HQX:=Lib.hid ((HQ.out.below hb1).below hXb)
    have HTX:=Lib.hid (hT'.below hXb)
    have HO':=Lib.hid (okay_turn HO.out g1 g2)
    have HG2:=Lib.hid g2
    have hz1:W.heap.size≤w1.heap.size:=hb1.size
    clear hX1 hX2 hXb hb1 hT' g1 g2
    go_wp2_with fail
    refine (HN.out _ HBX.out).mono ?_
    rintro e w2 ⟨rfl,hb2⟩
    clear hX x0 xz
    obtain ⟨Y,hY⟩ : ∃ Y,w2.alloc (.cells #[.int .i64 (padF p m 0), .int .i64 (padF p m 1), .int .i64 (padF p m 2), .int .i64 (padF p m 3)] 77)=Y:=⟨_,rfl⟩
    have hYb:Below w2.heap.size w2 Y:=by rw [← hY]; exact Below.alloc1 (Below.refl _ _) _ (Nat.le_refl _)
    have hYr:RowIs Y w2.heap.size (planRow (padF p m)) 77:=by rw [← hY]; exact heap_new_at _ _ _ rfl
    have hY2:=(HX2.out.below hb2).below hYb
    have y2:Y.cell? ⟨w1.heap.size+1,0,none⟩=some (.slice (some ⟨L,0,none⟩) n n):=RowIs.cell hY2 0
    have yz2:=hY2.lt
    have HX1Y:=Lib.hid ((HX1.out.below hb2).below hYb)
    have HX2Y:=Lib.hid hY2
    have HYr:=Lib.hid hYr
    have HBY:=Lib.hid (bup (bup HBX.out hb2) hYb)
    have HQY:=Lib.hid ((HQX.out.below hb2).below hYb)
    have HTY:=Lib.hid ((HTX.out.below hb2).below hYb)
    have hNC:=newPlan_c (some ⟨L,0,none⟩) n m n f' qa lc qcap q Y HTY.out HO'.out (HQq.out _ HBY.out) hlq
    rw [HPN.out,HE2.out] at hNC
    have HNC:=Lib.hid hNC
    clear hYb hYr hY2 hb2 hNC
    go_wp2_with fail
    refine HNC.out.mono ?_
    rintro e w3 ⟨rfl,hb3⟩
    have HB3:=Lib.hid (bup HBY.out hb3)
    have HQ3:=Lib.hid (HQY.out.below hb3)
    clear hY y2 yz2 hb3
    have q0:=RowIs.cell HQ3.out 0
    have q1:=RowIs.cell HQ3.out 1
    have z0:=RowIs.frozen HQ3.out 0
    have z1:=RowIs.frozen HQ3.out 1
    have qz:=HQ3.out.lt
    simp at q0 q1
    go_wp2_with fail
    have hQ4:=((HQ3.out.set 0 (.int .i64 0)).set 1 (.int .i64 0)).alloc (.cells #[.int .i64 0, .int .i64 0, .int .i64 0, .int .i64 0] 77)
    have y0:=RowIs.cell hQ4 0
    have y1:=RowIs.cell hQ4 1
    simp at y0 y1
    exact bodyPost_ret (v:=re2 (0,0,E)) (by simp [results,Try.results27,go_sem,y0,y1]) rfl ⟨rfl,Below.alloc1 ((HB3.out.setCell (p:=⟨w.heap.size+1,0,none⟩) (by show w.heap.size≤w.heap.size+1; omega) _).setCell (p:=⟨w.heap.size+1,1,none⟩) (by show w.heap.size≤w.heap.size+1; omega) _) _ (Nat.le_refl _)⟩
  ·have Hres:=Lib.hid (show proofR m f lr p lc q=(0,0,planE lr m p) by unfold proofR; rw [if_neg (by simp [HE.out]),if_pos hL])
   have t0:(planE lr m p != 0)=true:=by simpa using hL
   rw [planP_no hL] at HN
   obtain ⟨E,hE2⟩ : ∃ E,planE lr m p=E:=⟨_,rfl⟩
   rw [hE2] at HN t0 Hres
   rw [Hres.out]
   clear hL hE2
   go_enter Try.func27,Try.ntmps27
   go_wp2_with fail
   refine HD.out.mono ?_
   rintro e w1 ⟨⟨L,f',rfl,hT',g1,g2⟩,hb1⟩
   clear hW HD r0
   obtain ⟨X,hX⟩ : ∃ X,(w1.alloc (.cells #[.slice a m cap] 73)).alloc (.cells #[.slice (some ⟨L,0,none⟩) n n] 73)=X:=⟨_,rfl⟩
   have hXb:Below w1.heap.size w1 X:=by rw [← hX]; exact Below.alloc1 (Below.alloc1 (Below.refl _ _) _ (Nat.le_refl _)) _ (Nat.le_refl _)
   have hX1:RowIs X w1.heap.size #[.slice a m cap] 73:=by rw [← hX]; exact RowIs.alloc (heap_new_at _ _ _ rfl) _
   have hX2:RowIs X (w1.heap.size+1) #[.slice (some ⟨L,0,none⟩) n n] 73:=by rw [← hX]; exact heap_new_at _ _ _ (by simp)
   have x0:X.cell? ⟨w1.heap.size,0,none⟩=some (.slice a m cap):=RowIs.cell hX1 0
   have xz:=hX1.lt
   have HX1:=Lib.hid hX1
   have HX2:=Lib.hid hX2
   have HBX:=Lib.hid (bup (bup HB.out hb1) hXb)
   have HQX:=Lib.hid ((HQ.out.below hb1).below hXb)
   have HTX:=Lib.hid (hT'.below hXb)
   have HO':=Lib.hid (okay_turn HO.out g1 g2)
   have HG2:=Lib.hid g2
   have hz1:W.heap.size≤w1.heap.size:=hb1.size
   clear hX1 hX2 hXb hb1 hT' g1 g2
   go_wp2_with fail
   refine (HN.out _ HBX.out).mono ?_
   rintro e w2 ⟨rfl,hb2⟩
   clear hX x0 xz
   have HQY:=Lib.hid (HQX.out.below hb2)
   have HBY:=Lib.hid (bup HBX.out hb2)
   clear hb2
   have q0:=RowIs.cell HQY.out 0
   have q1:=RowIs.cell HQY.out 1
   have z0:=RowIs.frozen HQY.out 0
   have z1:=RowIs.frozen HQY.out 1
   have qz:=HQY.out.lt
   simp at q0 q1
   go_wp2_with fail
   have hQ4:=((HQY.out.set 0 (.int .i64 0)).set 1 (.int .i64 0)).alloc (.cells #[.int .i64 0, .int .i64 0, .int .i64 0, .int .i64 0] 77)
   have y0:=RowIs.cell hQ4 0
   have y1:=RowIs.cell hQ4 1
   simp at y0 y1
   exact bodyPost_ret (v:=re2 (0,0,E)) (by simp [results,Try.results27,go_sem,y0,y1]) rfl ⟨rfl,Below.alloc1 ((HBY.out.setCell (p:=⟨w.heap.size+1,0,none⟩) (by show w.heap.size≤w.heap.size+1; omega) _).setCell (p:=⟨w.heap.size+1,1,none⟩) (by show w.heap.size≤w.heap.size+1; omega) _) _ (Nat.le_refl _)⟩
 ·have Hv:=Lib.hid (show proofR m f lr p lc q=(0,0,tableE m f) by unfold proofR; rw [if_pos hE])
  have HD:=Lib.hid (newDesks_no_c a m cap f W (hf.below hB) hm hr hE)
  have t0:(tableE m f != 0)=true:=by simpa using hE
  obtain ⟨E,hE2⟩ : ∃ E,tableE m f=E:=⟨_,rfl⟩
  rw [hE2] at HD Hv t0
  rw [Hv.out]
  clear hf hp hq hB hQ hR hE hE2 hr hm
  go_enter Try.func27,Try.ntmps27
  go_wp2_with fail
  refine HD.out.mono ?_
  rintro e w1 ⟨rfl,hb1⟩
  clear hW HD r0
  have HQX:=Lib.hid (((HQ.out.below hb1).alloc (.cells #[.slice none 0 0] 73)).alloc (.cells #[.slice none 0 0] 73))
  have HBX:=Lib.hid (Below.alloc1 (Below.alloc1 (bup HB.out hb1) (.cells #[.slice none 0 0] 73) (Nat.le_refl _)) (.cells #[.slice none 0 0] 73) (Nat.le_refl _))
  clear hb1
  have q0:=RowIs.cell HQX.out 0
  have q1:=RowIs.cell HQX.out 1
  have z0:=RowIs.frozen HQX.out 0
  have z1:=RowIs.frozen HQX.out 1
  have qz:=HQX.out.lt
  simp at q0 q1
  go_wp2_with fail
  have hQ4:=(HQX.out.set 0 (.int .i64 0)).set 1 (.int .i64 0)
  have y0:=RowIs.cell hQ4 0
  have y1:=RowIs.cell hQ4 1
  simp at y0 y1
  exact bodyPost_ret (v:=re2 (0,0,E)) (by simp [results,Try.results27,go_sem,y0,y1]) rfl ⟨rfl,(HBX.out.setCell (p:=⟨w.heap.size+1,0,none⟩) (by show w.heap.size≤w.heap.size+1; omega) _).setCell (p:=⟨w.heap.size+1,1,none⟩) (by show w.heap.size≤w.heap.size+1; omega) _⟩
end Go.Proofs.Ytkbbhihndigmeaa

namespace Go.Proofs.Ytkbbhihndigmeaa
open Go Go.RowKit Go.Shelf
open Classical in
noncomputable def valOf (A:Nat→Nat→Int) (m n:Nat):Int × Int:=if h : ∃ p:Int × Int,ValIs A m n p.1 p.2 then (ratN (Classical.choose h).1 (Classical.choose h).2,ratD (Classical.choose h).1 (Classical.choose h).2) else (0,1)
theorem rat_eqn (n:Int) {d:Int} (hd:0<d):n*ratD n d=ratN n d*d:=by
 obtain ⟨g,_,e1,e2,_⟩:=rat_parts n hd
 obtain ⟨x,hx⟩ : ∃ x,ratN n d=x:=⟨_,rfl⟩
 obtain ⟨y,hy⟩ : ∃ y,ratD n d=y:=⟨_,rfl⟩
 rw [hx] at e1
 rw [hy] at e2
 rw [hx,hy,e1,e2]
 grind
theorem rat_neg (n d:Int):ratN (-n) d = - ratN n d∧ratD (-n) d=ratD n d:=by
 unfold ratN ratD
 rw [Int.neg_gcd,Int.neg_tdiv]
 exact ⟨rfl,rfl⟩
theorem rat_idem (v:Int) {s:Int} (hs:0<s):ratN (ratN v s) (ratD v s)=ratN v s∧ratD (ratN v s) (ratD v s)=ratD v s:=
 rat_same (ratD_pos v hs) hs (rat_eqn v hs).symm
theorem val_of {A:Nat→Nat→Int} {m n:Nat} {v s:Int} (h:ValIs A m n v s):valOf A m n=(ratN v s,ratD v s):=by
 have hx : ∃ p:Int × Int,ValIs A m n p.1 p.2:=⟨(v,s),h⟩
 unfold valOf
 rw [dif_pos hx]
 have h2:=Classical.choose_spec hx
 obtain ⟨e1,e2⟩:=rat_same h2.1 h.1 (h2.one h)
 rw [e1,e2]
theorem ValIs.least {A:Nat→Nat→Int} {m n:Nat} {v s:Int} (h:ValIs A m n v s):ValIs A m n (ratN v s) (ratD v s):=
 h.eq (ratD_pos v h.1) (rat_eqn v h.1)
theorem valOf_is {f:Nat→Row3} {m n:Nat} (hO:Okay m n f):ValIs (lossA f) m n (valOf (lossA f) m n).1 (valOf (lossA f) m n).2:=by
 obtain ⟨v,s,h, -⟩:=val_exists (lossA f) hO.m1 hO.m4 hO.n1 hO.n4
 rw [val_of h]
 exact h.least
theorem val_same {A B:Nat→Nat→Int} {m n:Nat} {v s:Int} (h:ValIs A m n v s) (h':ValIs B m n v s):valOf A m n=valOf B m n:=by rw [val_of h,val_of h']
theorem val_at {A B:Nat→Nat→Int} {m n:Nat} {v s:Int} (h:ValIs A m n v s) (e : ∀ i,i<m → ∀ j,j<n→A i j=B i j):valOf A m n=valOf B m n:=val_same h (h.at e)
theorem planC_few {f:Nat→Row3} {m n:Nat} {R G:List Nat} {s:Int} (hO:Okay m n f) (h:Choice (lossA f) m n R G s) {p:Nat→Int} (e : ∀ j,j<m→p j=planC (lossA f) R G s j):Few m p:=by
 have hRn:R.Nodup:=List.nodup_range.sublist h.1
 have hk:R.length≤4:=by have:=h.1.length_le; rw [List.length_range] at this; have:=hO.m4; omega
 have ht:=h.plan.2
 refine ⟨fun i hi => ?_,?_⟩
 ·rw [e i hi]
  refine ⟨h.plan.1 i hi,?_⟩
  by_cases hiR:i ∈ R
  ·obtain ⟨a,ha,rfl⟩:=mem_getD hiR
   unfold planC
   rw [inj_in hRn ha (Nat.le_refl _), ← part_same f R G h.2.2.1]
   have:=partI_bd hO (fun i hi=>List.mem_range.1 (h.1.subset hi)) (fun i hi=>List.mem_range.1 (h.2.1.subset hi)) h.2.2.1 hk a ha
   rcases h.2.2.2.2.1 with rfl | rfl <;> omega
  ·unfold planC
   rw [inj_out fun s hs he=>hiR (by rw [← he]; exact getD_mem hs)]
   omega
 ·have:sumI p m=tot (planC (lossA f) R G s) m:=by
    rw [← tot_sumI]
    exact dotN_at e fun _ _=>rfl
  omega
theorem sure_at {f:Nat→Row3} {m n:Nat} {p q:Nat→Int} {v s:Int} (e : ∀ j,j<m→p j=q j) (h:Surely (lossA f) m n p v s):Surely (lossA f) m n q v s:=h.at (fun _ _ _ _=>rfl) e
theorem set_val {f F:Nat→Row3} {m n N:Nat} (hO:Okay m n f) (hS:PlanSet (lossA f) m n N F) {k:Nat} (hk:k<N) (hb : ∀ i,i<N→sureN f m n (F i).g*sumI (F k).g m≤sureN f m n (F k).g*sumI (F i).g m) :
 ValIs (lossA f) m n (sureN f m n (F k).g) (sumI (F k).g m):=by
 obtain ⟨R0,G0,s0,c0,e0⟩:=hS.1 k hk
 have fk:=planC_few hO c0 e0
 have hx:=sure_self (f:=f) (n:=n) (x:=(F k).g) (fun i hi=>(fk.part i hi).1) fk.pos
 rw [← tot_sum] at hx ⊢
 refine val_best hO.m1 hO.m4 hO.n1 hO.n4 hx fun R G s hc v t ht hv => ?_
 obtain ⟨i,hi,e⟩:=hS.2 R G s hc
 have fi:=planC_few hO hc e
 have h2:=sure_most hO.n1 (sure_at (fun j hj=>(e j hj).symm) hv)
 have h1:=hb i hi
 have hp:=fi.pos
 have h0:=fk.pos
 rw [tot_sum]
 obtain ⟨a,ha⟩ : ∃ a,sureN f m n (F k).g=a:=⟨_,rfl⟩
 obtain ⟨b,hb⟩ : ∃ a,sumI (F k).g m=a:=⟨_,rfl⟩
 obtain ⟨c,hc⟩ : ∃ a,sureN f m n (F i).g=a:=⟨_,rfl⟩
 obtain ⟨g,hg⟩ : ∃ a,sumI (F i).g m=a:=⟨_,rfl⟩
 rw [ha,hb,hc,hg] at h1
 rw [hc,hg] at h2
 rw [hg] at hp
 rw [hb] at h0
 rw [ha,hb]
 have a1:=Int.mul_le_mul_of_nonneg_right h2 (Int.le_of_lt h0)
 have a2:=Int.mul_le_mul_of_nonneg_left h1 (Int.le_of_lt ht)
 refine Int.le_of_mul_le_mul_right (a:=g) ?_ hp
 grind
theorem set_some {f F:Nat→Row3} {m n N:Nat} (hO:Okay m n f) (hS:PlanSet (lossA f) m n N F):0<N:=by
 obtain ⟨v,s, -,R,G,e,hc, -⟩:=val_exists (lossA f) hO.m1 hO.m4 hO.n1 hO.n4
 obtain ⟨i,hi, -⟩:=hS.2 R G e hc
 omega
theorem sure_val {f:Nat→Row3} {m n:Nat} {p:Nat→Int} (hO:Okay m n f) (hp : ∀ i,i<m→0≤p i) (h0:0<sumI p m) :
 (ratN (sureN f m n p) (sumI p m),ratD (sureN f m n p) (sumI p m))=valOf (lossA f) m n↔Surely (lossA f) m n p (valOf (lossA f) m n).1 (valOf (lossA f) m n).2:=by
 have hv:=valOf_is hO
 obtain ⟨hs, -,q,hq⟩:=id hv
 have hx:=sure_self (f:=f) (n:=n) hp h0
 constructor
 ·intro e
  rw [← e]
  exact hx.le h0 (ratD_pos _ h0) (by dsimp only; have:=rat_eqn (sureN f m n p) h0; omega)
 ·intro h
  have a:=sure_most hO.n1 h
  have b:=weak2 h0 hs hx hq
  have hV:ValIs (lossA f) m n (sureN f m n p) (sumI p m):=hv.eq h0 (by rw [Int.mul_comm (sureN f m n p)] at *; omega)
  rw [val_of hV]
theorem proof_val {f:Nat→Row3} {m n:Nat} {x q:Nat→Int} (hO:Okay m n f) (hx:Surely (lossA f) m n x (valOf (lossA f) m n).1 (valOf (lossA f) m n).2) (hq:Bounds (lossA f) m n q (valOf (lossA f) m n).1 (valOf (lossA f) m n).2)
 (hx8 : ∀ i,i<m→x i≤100000000) (hq8 : ∀ j,j<n→q j≤100000000):proofR m f m x n q=((valOf (lossA f) m n).1,(valOf (lossA f) m n).2,0):=by
 have hf0:(f 0).n=n:=hO.len 0 hO.m1
 have sx:0<sumI x m:=by rw [← tot_sum]; exact hx.2.1
 have sq:0<sumI q n:=by rw [← tot_sum]; exact hq.2.1
 have e1:=(sure_val hO hx.1 sx).2 hx
 have p1:planE m m x=0:=by
  unfold planE
  rw [if_pos rfl,if_pos ((allB_iff _ _).2 fun i hi=>by simp only [inB,decide_eq_true_eq]; exact ⟨hx.1 i hi,hx8 i hi⟩),if_neg (by omega)]
 have p2:planE n n q=0:=by
  unfold planE
  rw [if_pos rfl,if_pos ((allB_iff _ _).2 fun i hi=>by simp only [inB,decide_eq_true_eq]; exact ⟨hq.1 i hi,hq8 i hi⟩),if_neg (by omega)]
 have hO':Okay n m (fun j=>turnF f m j):=okay_turn hO (fun _ _=>rfl) (fun _=>rfl)
 have hl:lossA (fun j=>turnF f m j)=flip (lossA f):=loss_turn (f':=fun j=>turnF f m j) (fun _=>rfl)
 have hb:sureN (fun j=>turnF f m j) n m q=boundN f m n q:=by
  show leastF (ag (lossA fun j=>turnF f m j) q n) m=_
  rw [hl]
 have hqs:Surely (lossA fun j=>turnF f m j) n m q (-(valOf (lossA f) m n).1) (valOf (lossA f) m n).2:=by rw [hl]; exact surely_flip.2 hq
 have hv2:valOf (lossA fun j=>turnF f m j) n m=(-(valOf (lossA f) m n).1,(valOf (lossA f) m n).2):=by
  have hv:=valOf_is hO
  have h1:=hv.flip
  rw [← hl] at h1
  rw [val_of h1]
  obtain ⟨v0,s0,h, -⟩:=val_exists (lossA f) hO.m1 hO.m4 hO.n1 hO.n4
  rw [val_of h]
  have hs:=h.1
  obtain ⟨e1,e2⟩:=rat_idem v0 hs
  obtain ⟨e3,e4⟩:=rat_neg (ratN v0 s0) (ratD v0 s0)
  dsimp only
  rw [e3,e4,e1,e2]
 have e2:=(sure_val hO' hqs.1 sq).2 (by rw [hv2]; exact hqs)
 rw [hv2,hb] at e2
 have k1:ratN (sureN f m n x) (sumI x m)=(valOf (lossA f) m n).1:=congrArg Prod.fst e1
 have k2:ratD (sureN f m n x) (sumI x m)=(valOf (lossA f) m n).2:=congrArg Prod.snd e1
 have k3:ratN (boundN f m n q) (sumI q n) = -(valOf (lossA f) m n).1:=congrArg Prod.fst e2
 have k4:ratD (boundN f m n q) (sumI q n)=(valOf (lossA f) m n).2:=congrArg Prod.snd e2
 unfold proofR
 rw [hf0,p1,p2,okay_is hO,k1,k2,k3,k4,if_neg (by decide),if_neg (by decide),if_neg (by decide),if_pos ⟨by omega,rfl⟩]
end Go.Proofs.Ytkbbhihndigmeaa
