/- For whatever arguments, the law SearchScaled returns true, and each argument reads behind the call as it read before. No condition. -/
import Derived.Shelf.Abstract
import Derived.Shelf.RegionOpen
import Derived.Conc.Own4
import Derived.Test.YtkbbhihndigmeaaQscaa
import Derived.Test.YtkbbhihndigmeaaRows
import Derived.ProofKit
namespace Go.Proofs.Ytkbbhihndigmeaa
open Go Go.RowKit Go.Shelf
set_option maxRecDepth 100000 in
set_option maxHeartbeats 16000000 in
theorem law_scaled_c (a:Option Addr) (m cap:Nat) (f:Nat→Row3) (z y:Int) (w:World) (hf:Tab w a m f) (hz:0≤z∧z≤255) (hy : -128≤y∧y≤127) :
 Calls Try.prog 12 #[tabV a m cap, .int .u8 z, .int .i8 y] w fun e w'=>e = .returned (.bool true)∧Below w.heap.size w w':=by
 obtain ⟨W,hW⟩ : ∃ W,w.alloc (.cells #[.slice a m cap] 24)=W:=⟨_,rfl⟩
 have hB:Below w.heap.size w W:=by rw [← hW]; exact Below.alloc1 (Below.refl _ _) _ (Nat.le_refl _)
 have R1:=Lib.hid (show RowIs W w.heap.size #[.slice a m cap] 24 by rw [← hW]; exact heap_new_at _ _ _ rfl)
 have H1:=Lib.hid (hf.below hB)
 have B1:=Lib.hid hB
 clear hf hB
 cases hT:fineB m f with
 | false=>
   have HF:=Lib.hid hT
   clear hT
   go_enter Try.func12,Try.ntmps12
   have cc1:W.cell? ⟨w.heap.size,0,none⟩=some (.slice a m cap):=RowIs.cell R1.out 0
   have zz2:w.heap.size<W.heap.size:=RowIs.lt R1.out
   go_wp2_with fail
   clear cc1 zz2 hW
   refine (fine_c a m cap f _ H1.out).mono ?_
   rintro e w3 ⟨rfl,hbq⟩
   replace R1:=Lib.hid (RowIs.below R1.out hbq)
   replace H1:=Lib.hid (H1.out.below hbq)
   replace B1:=Lib.hid (bup B1.out hbq)
   clear hbq
   rw [HF.out]
   have cc4:w3.cell? ⟨w.heap.size,0,none⟩=some (.slice a m cap):=RowIs.cell R1.out 0
   have zz5:w.heap.size<w3.heap.size:=RowIs.lt R1.out
   go_wp2_with fail
   clear cc4 zz5
   refine (works_c _).mono ?_
   rintro e w6 ⟨rfl,hbq⟩
   go_wp2_with fail
   go_ret
   exact ⟨rfl,bup B1.out hbq⟩
 | true=>
   have HF:=Lib.hid hT
   have hE:tableE m f=0:=of_decide_eq_true hT
   have hO:=okay_of hE
   obtain ⟨n,hn⟩ : ∃ n,(f 0).n=n:=⟨_,rfl⟩
   rw [hn] at hO
   have hm4:=hO.m4
   have hm1:=hO.m1
   have hn4:=hO.n4
   have hn1:=hO.n1
   have hm2:m≤1048576:=by omega
   have hr2 : ∀ i,i<m→(f i).n≤1048576:=fun i hi=>by rw [hO.len i hi]; omega
   have KO:=Lib.hid hO
   have RR:=Lib.hid hr2
   obtain ⟨tb,ofs,ha0,htb, -⟩:=Tab.at H1.out 0 (by omega)
   subst ha0
   obtain ⟨cc,hcc⟩ : ∃ cc,1+z % 4=cc:=⟨_,rfl⟩
   have hcb:1≤cc∧cc≤4:=by omega
   obtain ⟨G,hG⟩ : ∃ G:Nat→Nat→Int,(fun i j=>cc*(f i).g j+y)=G:=⟨_,rfl⟩
   have hGe : ∀ i j,G i j=cc*(f i).g j+y:=fun i j=>by rw [← hG]
   have GE:=Lib.hid hGe
   have CB:=Lib.hid hcb
   have YB:=Lib.hid hy
   have HN:=Lib.hid hn
   clear hE hT hO hr2 hn hG hGe
   go_enter Try.func12,Try.ntmps12
   have cc7:W.cell? ⟨w.heap.size,0,none⟩=some (.slice (some ⟨tb,ofs,none⟩) m cap):=RowIs.cell R1.out 0
   have zz8:w.heap.size<W.heap.size:=RowIs.lt R1.out
   go_wp2_with fail
   clear cc7 zz8 hW
   refine (fine_c (some ⟨tb,ofs,none⟩) m cap f _ H1.out).mono ?_
   rintro e w9 ⟨rfl,hbq⟩
   replace R1:=Lib.hid (RowIs.below R1.out hbq)
   replace H1:=Lib.hid (H1.out.below hbq)
   replace B1:=Lib.hid (bup B1.out hbq)
   clear hbq
   rw [HF.out]
   have cc10:w9.cell? ⟨w.heap.size,0,none⟩=some (.slice (some ⟨tb,ofs,none⟩) m cap):=RowIs.cell R1.out 0
   have zz11:w.heap.size<w9.heap.size:=RowIs.lt R1.out
   have hTC : ∀ x,Below w9.heap.size w9 x→tb<x.heap.size ∧ ∀ i,i<m→x.cell? ⟨tb,ofs+i,none⟩=some (.slice (f i).a n (f i).cap):=fun x hx=>by
    obtain ⟨b2,o2,e2,hz2,hc2⟩:=Tab.at (H1.out.below hx) 0 (by omega)
    obtain ⟨rfl,rfl⟩:b2=tb∧o2=ofs:=by injection e2 with he; injection he with h1 h2 _; exact ⟨h1.symm,h2.symm⟩
    exact ⟨hz2,fun i hi=>by rw [hc2 i hi,KO.out.len i hi]⟩
   have hRC : ∀ i,i<m → ∃ rb ro,(f i).a=some ⟨rb,ro,none⟩ ∧ ∀ x,Below w9.heap.size w9 x→rb<x.heap.size ∧ ∀ q,q<n→x.cell? ⟨rb,ro+q,none⟩=some (.int .i64 ((f i).g q)):=fun i hi=>by
    obtain ⟨rb,ro,hra,hrz, -⟩:=Cells.at (H1.out.2 i hi) 0 (by rw [KO.out.len i hi]; omega)
    refine ⟨rb,ro,hra,fun x hx => ?_⟩
    obtain ⟨b2,o2,e2,hz2,hc2⟩:=Cells.at ((H1.out.below hx).2 i hi) 0 (by rw [KO.out.len i hi]; omega)
    obtain ⟨rfl,rfl⟩:b2=rb∧o2=ro:=by rw [hra] at e2; injection e2 with he; injection he with h1 h2 _; exact ⟨h1.symm,h2.symm⟩
    exact ⟨hz2,fun q hq=>hc2 q (by rw [KO.out.len i hi]; exact hq)⟩
   have HTC:=Lib.hid hTC
   have HRC:=Lib.hid hRC
   clear hTC hRC
   obtain ⟨Y,hY⟩ : ∃ Y,w9.alloc (.cells #[.slice none 0 0] 24)=Y:=⟨_,rfl⟩
   have BY:=Lib.hid (show Below w9.heap.size w9 Y by rw [← hY]; exact Below.alloc1 (Below.refl _ _) _ (Nat.le_refl _))
   have RX:=Lib.hid (show RowIs Y (w9.heap.size) #[.slice none 0 0] 24 by rw [← hY]; exact heap_new_at _ _ _ rfl)
   go_wp2_with fail
   clear cc10 zz11 hY
   go_loopw [10] (fun i wr=> ∃ k:Nat,k≤m∧i = .int .i64 k ∧ ∃ L v,L.length=k∧OwnV 25 wr (w9.heap.size+1) L v∧(∀ j,j<k→OwnV 2 wr (w9.heap.size+1) (numL (G j) n) (L.getD j undef))∧RowIs wr (w9.heap.size) #[v] 24∧Below w9.heap.size w9 wr) (fun i _=>m-(intOf i).toNat)
   case atStart=>exact ⟨0,Nat.zero_le _,rfl,[],_,rfl,ownV_nil _ _ _,fun j hj=>absurd hj (Nat.not_lt_zero _),RX.out,BY.out⟩
   case round=>
    obtain ⟨k,hk,rfl,L,v,hL,hv,hrows,hs,hb⟩:=hrel
    have hr:=R1.out.below hb
    have r0:wr.cell? ⟨w.heap.size,0,none⟩=some (.slice (some ⟨tb,ofs,none⟩) m cap):=RowIs.cell hr 0
    have rz:w.heap.size<wr.heap.size:=hr.lt
    have Hs:=Lib.hid hs
    have Hv:=Lib.hid hv
    have Hb:=Lib.hid hb
    have Hrows:=Lib.hid hrows
    have HL:=Lib.hid hL
    clear hs hv hb hrows hL hr
    by_cases hlt:k<m
    ·obtain ⟨X,hX⟩ : ∃ X:World,X=wr:=⟨_,rfl⟩
     subst hX
     go_wp2
     clear r0
     go_loopw [11,12] (fun x i wr=> ∃ (j:Nat) (u:Value),j≤n∧i = .int .i64 j∧x=u∧OwnV 2 wr X.heap.size (numL (G k) j) u∧Below X.heap.size X wr) (fun _ i _=>n-(intOf i).toNat)
     case atStart=>exact ⟨0,_,Nat.zero_le _,rfl,rfl,ownV_nil _ _ _,Below.refl _ _⟩
     case round=>
      obtain ⟨j,_,hj,rfl,rfl,hu,hbx⟩:=hrel
      have hb2:Below w9.heap.size w9 wr:=bup Hb.out hbx
      have hr2:=R1.out.below hb2
      have r0:wr.cell? ⟨w.heap.size,0,none⟩=some (.slice (some ⟨tb,ofs,none⟩) m cap):=RowIs.cell hr2 0
      have rz2:w.heap.size<wr.heap.size:=hr2.lt
      obtain ⟨tz,hc⟩:=HTC.out wr hb2
      have c1:=hc k hlt
      obtain ⟨rb,ro,hra,hrc⟩:=HRC.out k hlt
      rw [hra] at c1
      obtain ⟨rbz,hrc2⟩:=hrc wr hb2
      clear hc
      by_cases hlj:j<n
      ·have c2:=hrc2 j hlj
       have hx:=KO.out.num k hlt j hlj
       obtain ⟨l0,hl0⟩ : ∃ l0,(f k).g j=l0:=⟨_,rfl⟩
       rw [hl0] at c2 hx
       have hcb:=CB.out
       have hyb:=YB.out
       obtain ⟨hp1,hp2⟩:=mul_bds (x:=l0) (y:=cc) (A:=100) (B:=4) (by omega) (by omega) (by omega) hcb.2
       have hq:cc*l0=l0*cc:=Int.mul_comm _ _
       have hw1:IntKind.i64.wrap (cc*l0)=cc*l0:=IntWalk.i64_in _ (by omega)
       have hw2:IntKind.i64.wrap (cc*l0+y)=cc*l0+y:=IntWalk.i64_in _ (by omega)
       obtain ⟨Y2,hY2⟩ : ∃ Y2,wr.alloc (.cells #[.int .i64 (cc*l0+y)] 2)=Y2:=⟨_,rfl⟩
       have hyb2:Below wr.heap.size wr Y2:=by rw [← hY2]; exact Below.alloc1 (Below.refl _ _) _ (Nat.le_refl _)
       have hyr:RowIs Y2 wr.heap.size #[.int .i64 (cc*l0+y)] 2:=by rw [← hY2]; exact heap_new_at _ _ _ rfl
       obtain ⟨u',Z,hrun,ho,hgz,hbz, -⟩:=app64 (hu.below hyb2) (.int .i64 (cc*l0+y)) wr.heap.size (hyr.cell 0) rfl (Nat.le_trans hbx.size hyb2.size) (by rw [numL_len]; omega)
       rw [show (Value.int .i64 (cc*l0+y)) = .int .i64 (G k j) by rw [GE.out,hl0], ← numL_more] at ho
       have Ho:=Lib.hid ho
       have Hbz:=Lib.hid (hbx.trans ((hyb2.mono hbx.size).trans hbz))
       clear hu hbx hr2 hb2 hrc hx hyb2 hyr ho hgz hbz hp1 hp2 hq hcb hyb
       go_wp2_with (at_builtin; refine wpList_append_run rfl _ _ 25 rfl rfl rfl hrun ?_)
       clear hrun
       go_roundw
       case rel=>exact ⟨j+1,_,by omega,by go_num,rfl,Ho.out,Hbz.out⟩
       case measure=>simp [intOf]; omega
      ·obtain rfl:j=n:=by omega
       have hs2:=Hs.out.below hbx
       have s0:wr.cell? ⟨w9.heap.size,0,none⟩=some v:=RowIs.cell hs2 0
       obtain ⟨vp,vc,hvf, -⟩:=Hv.out.form
       have hsz:w9.heap.size<wr.heap.size:=hs2.lt
       obtain ⟨up,uc,huf, -⟩:=hu.form
       rw [numL_len] at huf
       rw [HL.out] at hvf
       obtain ⟨Y2,hY2⟩ : ∃ Y2,wr.alloc (.cells #[u11] 25)=Y2:=⟨_,rfl⟩
       have hyb2:Below wr.heap.size wr Y2:=by rw [← hY2]; exact Below.alloc1 (Below.refl _ _) _ (Nat.le_refl _)
       have hyr:RowIs Y2 wr.heap.size #[u11] 25:=by rw [← hY2]; exact heap_new_at _ _ _ rfl
       have hXY:Below X.heap.size X Y2:=hbx.trans (hyb2.mono hbx.size)
       have hDX:(w9.heap.size+1)≤X.heap.size:=Hs.out.lt
       obtain ⟨v',Z,hrun,ho,hgz,hbz, -⟩:=appS64 (Hv.out.below hXY) u11 wr.heap.size (hyr.cell 0) (by rw [huf]; rfl) (Nat.le_trans hDX hXY.size) (by rw [HL.out]; omega)
       have hvY:=Hv.out.below hXY
       have hsZ:=hvY.other hgz (hs2.below hyb2) (by decide)
       have huZ:=hvY.keep hgz (hu.below hyb2) (by decide)
       have hlZ : ∀ l,l<k→OwnV 2 Z (w9.heap.size+1) (numL (G l) j) (L.getD l undef):=fun l hl=>hvY.keep hgz ((Hrows.out l hl).below hXY) (by decide)
       have hbZ:Below w9.heap.size w9 Z:=(hb2.trans (hyb2.mono hb2.size)).trans (hbz.mono (by omega))
       have hfz:Z.frozen? ⟨w9.heap.size,0,none⟩=false:=hsZ.frozen 0
       have hcz:Z.cell? ⟨w9.heap.size,0,none⟩=some v:=hsZ.cell 0
       have hzz:w9.heap.size<Z.heap.size:=hsZ.lt
       have HsZ:=Lib.hid hsZ
       have HuZ:=Lib.hid (huZ.base hDX)
       have HlZ:=Lib.hid hlZ
       have HbZ:=Lib.hid hbZ
       have Ho:=Lib.hid ho
       clear hu hbx hr2 hb2 hs2 hyb2 hyr hXY hvY hsZ huZ hlZ hbZ ho hgz hbz hDX hrc hrc2
       obtain ⟨np,nc,hnf, -⟩:=Ho.out.form
       rw [show (L ++ [u11]).length=k+1 by simp [HL.out]] at hnf
       subst hnf
       subst hvf
       subst huf
       go_wp2_with (at_builtin; refine wpList_append_run rfl _ _ 22 rfl rfl rfl hrun ?_)
       clear hrun
       go_roundw
       case rel=>
        have hg:=getD_snoc (v:= .slice up j uc) (d:=undef) HL.out
        refine ⟨k+1,by omega,by go_num,L ++ [.slice up j uc], .slice np (k+1) nc,by simp [HL.out],Ho.out.far HsZ.out (by decide),?_,HsZ.out.set 0 _,HbZ.out.setCell (p:=⟨w9.heap.size,0,none⟩) (Nat.le_refl _) _⟩
        intro l hl
        by_cases e:l=k
        ·subst e
         rw [hg.1]
         exact HuZ.out.far HsZ.out (by decide)
        ·rw [hg.2 l (by omega)]
         exact (HlZ.out l (by omega)).far HsZ.out (by decide)
       case measure=>simp [intOf]; omega
    ·obtain rfl:k=m:=by omega
     clear r0 rz
     obtain ⟨xp,xc,f',e1,h1,h2,h3,h4,h5, -⟩:=tab_ownG HL.out Hv.out Hrows.out
     subst e1
     have hO' : ∀ j,j<n → ∀ i,i<k→(f' i).g j=cc*(f i).g j+y:=fun j _ i _=>by rw [h5,GE.out]
     have HE:=Lib.hid hO'
     have F4:=Lib.hid h4
     have HX:=Lib.hid h3
     clear hO' h1 h2 h3 h4 h5 Hv Hrows HL
     replace R1:=Lib.hid (R1.out.below Hb.out)
     replace H1:=Lib.hid (H1.out.below Hb.out)
     replace B1:=Lib.hid (bup B1.out Hb.out)
     have RX2:=Lib.hid Hs.out
     clear Hs Hb HTC HRC RX BY
     have cc12:wr.cell? ⟨w.heap.size,0,none⟩=some (.slice (some ⟨tb,ofs,none⟩) k cap):=RowIs.cell R1.out 0
     have zz13:w.heap.size<wr.heap.size:=RowIs.lt R1.out
     have cc14:wr.cell? ⟨w9.heap.size,0,none⟩=some (.slice xp k xc):=RowIs.cell RX2.out 0
     have zz15:w9.heap.size<wr.heap.size:=RowIs.lt RX2.out
     cases hT2:fineB k f' with
     | false=>
       have HF2:=Lib.hid hT2
       clear hT2
       go_wp2_with fail
       clear cc12 zz13 cc14 zz15
       refine (fine_c xp k xc f' _ HX.out).mono ?_
       rintro e w16 ⟨rfl,hbq⟩
       replace R1:=Lib.hid (RowIs.below R1.out hbq)
       replace H1:=Lib.hid (H1.out.below hbq)
       replace HX:=Lib.hid (HX.out.below hbq)
       replace RX2:=Lib.hid (RowIs.below RX2.out hbq)
       replace B1:=Lib.hid (bup B1.out hbq)
       clear hbq
       rw [HF2.out]
       have cc17:w16.cell? ⟨w.heap.size,0,none⟩=some (.slice (some ⟨tb,ofs,none⟩) k cap):=RowIs.cell R1.out 0
       have zz18:w.heap.size<w16.heap.size:=RowIs.lt R1.out
       have cc19:w16.cell? ⟨w9.heap.size,0,none⟩=some (.slice xp k xc):=RowIs.cell RX2.out 0
       have zz20:w9.heap.size<w16.heap.size:=RowIs.lt RX2.out
       go_wp2_with fail
       clear cc17 zz18 cc19 zz20
       refine (works_c _).mono ?_
       rintro e w21 ⟨rfl,hbq⟩
       go_wp2_with fail
       go_ret
       exact ⟨rfl,bup B1.out hbq⟩
     | true=>
       have HF2:=Lib.hid hT2
       have hE2:tableE k f'=0:=of_decide_eq_true hT2
       have hO2:=okay_of hE2
       rw [F4.out] at hO2
       have KX:=Lib.hid hO2
       obtain ⟨v1,hv1⟩ : ∃ v1,(valOf (lossA f) k n).1=v1:=⟨_,rfl⟩
       obtain ⟨v2,hv2⟩ : ∃ v2,(valOf (lossA f) k n).2=v2:=⟨_,rfl⟩
       obtain ⟨-,hsv⟩:=scaled_val (g:=f') KO.out (by have:=CB.out; omega) (fun i hi j hj=>HE.out j hj i hi)
       rw [hv1,hv2] at hsv
       obtain ⟨u1,hu1⟩ : ∃ u1,ratN (cc*v1+y*v2) v2=u1:=⟨_,rfl⟩
       obtain ⟨u2,hu2⟩ : ∃ u2,ratD (cc*v1+y*v2) v2=u2:=⟨_,rfl⟩
       rw [hu1,hu2] at hsv
       have V1:=Lib.hid hv1
       have V2:=Lib.hid hv2
       have SV:=Lib.hid hsv
       have U1:=Lib.hid hu1
       have U2:=Lib.hid hu2
       clear hT2 hE2 hO2 hv1 hv2 hsv hu1 hu2
       go_wp2_with fail
       clear cc12 zz13 cc14 zz15
       refine (fine_c xp k xc f' _ HX.out).mono ?_
       rintro e w22 ⟨rfl,hbq⟩
       replace R1:=Lib.hid (RowIs.below R1.out hbq)
       replace H1:=Lib.hid (H1.out.below hbq)
       replace HX:=Lib.hid (HX.out.below hbq)
       replace RX2:=Lib.hid (RowIs.below RX2.out hbq)
       replace B1:=Lib.hid (bup B1.out hbq)
       clear hbq
       rw [HF2.out]
       have cc23:w22.cell? ⟨w.heap.size,0,none⟩=some (.slice (some ⟨tb,ofs,none⟩) k cap):=RowIs.cell R1.out 0
       have zz24:w.heap.size<w22.heap.size:=RowIs.lt R1.out
       have cc25:w22.cell? ⟨w9.heap.size,0,none⟩=some (.slice xp k xc):=RowIs.cell RX2.out 0
       have zz26:w9.heap.size<w22.heap.size:=RowIs.lt RX2.out
       go_wp2_with fail
       clear cc23 zz24 cc25 zz26
       refine (value_c (some ⟨tb,ofs,none⟩) k n cap f _ H1.out KO.out).mono ?_
       rintro e w27 ⟨hres,hbq⟩
       obtain ⟨gr,xr,gk,xk,hbr,hbc,rfl,hrr,hrk⟩:=hres
       rw [V1.out,V2.out]
       replace R1:=Lib.hid (RowIs.below R1.out hbq)
       replace H1:=Lib.hid (H1.out.below hbq)
       replace HX:=Lib.hid (HX.out.below hbq)
       replace RX2:=Lib.hid (RowIs.below RX2.out hbq)
       replace B1:=Lib.hid (bup B1.out hbq)
       clear hbq
       have BR1:=Lib.hid hbr
       have BC1:=Lib.hid hbc
       have Ggr:=Lib.hid hrr
       have Ggk:=Lib.hid hrk
       clear hbr hbc hrr hrk
       obtain ⟨Y28,hY28⟩ : ∃ Y28,w27.alloc (.cells #[.int .i64 v1, .int .i64 v2] 30)=Y28:=⟨_,rfl⟩
       have hb29:Below w27.heap.size w27 Y28:=by rw [← hY28]; exact Below.alloc1 (Below.refl _ _) _ (Nat.le_refl _)
       have hr30:RowIs Y28 w27.heap.size #[.int .i64 v1, .int .i64 v2] 30:=by rw [← hY28]; exact heap_new_at _ _ _ rfl
       replace R1:=Lib.hid (RowIs.below R1.out hb29)
       replace H1:=Lib.hid (H1.out.below hb29)
       replace HX:=Lib.hid (HX.out.below hb29)
       replace RX2:=Lib.hid (RowIs.below RX2.out hb29)
       replace Ggr:=Lib.hid (RowIs.below Ggr.out hb29)
       replace Ggk:=Lib.hid (RowIs.below Ggk.out hb29)
       replace B1:=Lib.hid (bup B1.out hb29)
       have QV:=Lib.hid hr30
       clear hb29 hr30
       have cc31:Y28.cell? ⟨w.heap.size,0,none⟩=some (.slice (some ⟨tb,ofs,none⟩) k cap):=RowIs.cell R1.out 0
       have zz32:w.heap.size<Y28.heap.size:=RowIs.lt R1.out
       have cc33:Y28.cell? ⟨w9.heap.size,0,none⟩=some (.slice xp k xc):=RowIs.cell RX2.out 0
       have zz34:w9.heap.size<Y28.heap.size:=RowIs.lt RX2.out
       have hsm:=val_small KO.out BR1.out
       rw [V1.out,V2.out] at hsm
       have VS:=Lib.hid hsm
       clear hsm
       go_wp2_with fail
       clear hY28 cc31 zz32 cc33 zz34
       refine (value_c xp k n xc f' _ HX.out KX.out).mono ?_
       rintro e w35 ⟨hres,hbq⟩
       obtain ⟨gr2,xr2,gk2,xk2,hbr,hbc,rfl,hrr,hrk⟩:=hres
       rw [SV.out]
       replace R1:=Lib.hid (RowIs.below R1.out hbq)
       replace H1:=Lib.hid (H1.out.below hbq)
       replace HX:=Lib.hid (HX.out.below hbq)
       replace RX2:=Lib.hid (RowIs.below RX2.out hbq)
       replace Ggr:=Lib.hid (RowIs.below Ggr.out hbq)
       replace Ggk:=Lib.hid (RowIs.below Ggk.out hbq)
       replace QV:=Lib.hid (RowIs.below QV.out hbq)
       replace B1:=Lib.hid (bup B1.out hbq)
       clear hbq
       have BR2:=Lib.hid hbr
       have BC2:=Lib.hid hbc
       have Ggr2:=Lib.hid hrr
       have Ggk2:=Lib.hid hrk
       clear hbr hbc hrr hrk
       obtain ⟨Y36,hY36⟩ : ∃ Y36,w35.alloc (.cells #[.int .i64 u1, .int .i64 u2] 30)=Y36:=⟨_,rfl⟩
       have hb37:Below w35.heap.size w35 Y36:=by rw [← hY36]; exact Below.alloc1 (Below.refl _ _) _ (Nat.le_refl _)
       have hr38:RowIs Y36 w35.heap.size #[.int .i64 u1, .int .i64 u2] 30:=by rw [← hY36]; exact heap_new_at _ _ _ rfl
       replace R1:=Lib.hid (RowIs.below R1.out hb37)
       replace H1:=Lib.hid (H1.out.below hb37)
       replace HX:=Lib.hid (HX.out.below hb37)
       replace RX2:=Lib.hid (RowIs.below RX2.out hb37)
       replace Ggr:=Lib.hid (RowIs.below Ggr.out hb37)
       replace Ggk:=Lib.hid (RowIs.below Ggk.out hb37)
       replace QV:=Lib.hid (RowIs.below QV.out hb37)
       replace Ggr2:=Lib.hid (RowIs.below Ggr2.out hb37)
       replace Ggk2:=Lib.hid (RowIs.below Ggk2.out hb37)
       replace B1:=Lib.hid (bup B1.out hb37)
       have QU:=Lib.hid hr38
       clear hb37 hr38
       have cc39:Y36.cell? ⟨w.heap.size,0,none⟩=some (.slice (some ⟨tb,ofs,none⟩) k cap):=RowIs.cell R1.out 0
       have zz40:w.heap.size<Y36.heap.size:=RowIs.lt R1.out
       have cc41:Y36.cell? ⟨w9.heap.size,0,none⟩=some (.slice xp k xc):=RowIs.cell RX2.out 0
       have zz42:w9.heap.size<Y36.heap.size:=RowIs.lt RX2.out
       obtain ⟨sm1,sm2,sm3,sm4, -, -⟩:=VS.out
       have hcb:=CB.out
       have hyb:=YB.out
       obtain ⟨a1,a2⟩:=mul_bds (x:=v1) (y:=cc) (A:=9600000000) (B:=4) (by omega) (by omega) (by omega) hcb.2
       have a3:cc*v1=v1*cc:=Int.mul_comm _ _
       obtain ⟨a4,a5⟩:=mul_bds (x:=y) (y:=v2) (A:=128) (B:=96000000) (by omega) (by omega) (by omega) sm2
       have hw1:IntKind.i64.wrap (cc*v1)=cc*v1:=IntWalk.i64_in _ (by omega)
       have hw2:IntKind.i64.wrap (y*v2)=y*v2:=IntWalk.i64_in _ (by omega)
       have hw3:IntKind.i64.wrap (cc*v1+y*v2)=cc*v1+y*v2:=IntWalk.i64_in _ (by omega)
       have hby:=fun (x:World)=>rBy_c (cc*v1+y*v2) v2 x (by omega) (by omega) (by omega) (by omega)
       unfold ratV at hby
       rw [U1.out,U2.out] at hby
       have CBY:=Lib.hid hby
       clear hby a1 a2 a3 a4 a5 sm1 sm2 sm3 sm4 hcb hyb
       have eq43 : ∀ x,(Op.equalIn 10000 30 (.agg #[.int .i64 u1, .int .i64 u2]) (.agg #[.int .i64 u1, .int .i64 u2])).run Try.prog x = .ok true x:=fun x=>(eqRat u1 u2 u1 u2 x).trans (by simp)
       have cc44:Y36.cell? ⟨w27.heap.size,0,none⟩=some (.int .i64 v1):=RowIs.cell QV.out 0
       have cc45:Y36.cell? ⟨w27.heap.size,1,none⟩=some (.int .i64 v2):=RowIs.cell QV.out 1
       have zz46:w27.heap.size<Y36.heap.size:=RowIs.lt QV.out
       have cc47:Y36.cell? ⟨w35.heap.size,0,none⟩=some (.int .i64 u1):=RowIs.cell QU.out 0
       have cc48:Y36.cell? ⟨w35.heap.size,1,none⟩=some (.int .i64 u2):=RowIs.cell QU.out 1
       have zz49:w35.heap.size<Y36.heap.size:=RowIs.lt QU.out
       have hlc50:=fun (x:Later Y36)=>later_cell x
       go_wp2_with fail
       refine wp_region_later (by kernel_rfl) (by kernel_rfl) ?_
       repeat (go_big_quiet_step ((first | (with_reducible refine calls_later (CBY.out _)))))
       refine wpQuiet_nil ?_
       clear hlc50
       clear hY36 cc39 zz40 cc41 zz42 eq43 cc44 cc45 zz46 cc47 cc48 zz49
       rintro ⟨w51,hbl52⟩
       replace R1:=Lib.hid (RowIs.below R1.out hbl52)
       replace H1:=Lib.hid (H1.out.below hbl52)
       replace HX:=Lib.hid (HX.out.below hbl52)
       replace RX2:=Lib.hid (RowIs.below RX2.out hbl52)
       replace Ggr:=Lib.hid (RowIs.below Ggr.out hbl52)
       replace Ggk:=Lib.hid (RowIs.below Ggk.out hbl52)
       replace QV:=Lib.hid (RowIs.below QV.out hbl52)
       replace Ggr2:=Lib.hid (RowIs.below Ggr2.out hbl52)
       replace Ggk2:=Lib.hid (RowIs.below Ggk2.out hbl52)
       replace QU:=Lib.hid (RowIs.below QU.out hbl52)
       replace B1:=Lib.hid (bup B1.out hbl52)
       clear CBY hw1 hw2 hw3
       have hpr:=scaled_proof (g:=f') KO.out KX.out (by have:=CB.out; omega) (fun i hi j hj=>HE.out j hj i hi) BR1.out BC1.out
       rw [SV.out] at hpr
       have KR:=Lib.hid hpr
       clear hpr
       have cc53:w51.cell? ⟨w.heap.size,0,none⟩=some (.slice (some ⟨tb,ofs,none⟩) k cap):=RowIs.cell R1.out 0
       have zz54:w.heap.size<w51.heap.size:=RowIs.lt R1.out
       have cc55:w51.cell? ⟨w9.heap.size,0,none⟩=some (.slice xp k xc):=RowIs.cell RX2.out 0
       have zz56:w9.heap.size<w51.heap.size:=RowIs.lt RX2.out
       have C57:=CheckProof_c xp k xc f' (some ⟨gr,0,none⟩) k k xr (some ⟨gk,0,none⟩) n n xk w51 HX.out hm2 (fun i hi=>by rw [F4.out]; omega) (rowA_ints Ggr.out) hm2 (rowA_ints Ggk.out) (by omega)
       rw [KR.out] at C57
       replace C57:=Lib.hid C57
       go_wp2_with fail
       clear hbl52 cc53 zz54 cc55 zz56
       refine (C57.out).mono ?_
       rintro e w58 ⟨rfl,hbq⟩
       replace R1:=Lib.hid (RowIs.below R1.out hbq)
       replace H1:=Lib.hid (H1.out.below hbq)
       replace HX:=Lib.hid (HX.out.below hbq)
       replace RX2:=Lib.hid (RowIs.below RX2.out hbq)
       replace Ggr:=Lib.hid (RowIs.below Ggr.out hbq)
       replace Ggk:=Lib.hid (RowIs.below Ggk.out hbq)
       replace QV:=Lib.hid (RowIs.below QV.out hbq)
       replace Ggr2:=Lib.hid (RowIs.below Ggr2.out hbq)
       replace Ggk2:=Lib.hid (RowIs.below Ggk2.out hbq)
       replace QU:=Lib.hid (RowIs.below QU.out hbq)
       replace B1:=Lib.hid (bup B1.out hbq)
       clear hbq
       clear C57
       obtain ⟨Y59,hY59⟩ : ∃ Y59,w58.alloc (.cells #[.int .i64 u1, .int .i64 u2] 30)=Y59:=⟨_,rfl⟩
       have hb60:Below w58.heap.size w58 Y59:=by rw [← hY59]; exact Below.alloc1 (Below.refl _ _) _ (Nat.le_refl _)
       have hr61:RowIs Y59 w58.heap.size #[.int .i64 u1, .int .i64 u2] 30:=by rw [← hY59]; exact heap_new_at _ _ _ rfl
       replace R1:=Lib.hid (RowIs.below R1.out hb60)
       replace H1:=Lib.hid (H1.out.below hb60)
       replace HX:=Lib.hid (HX.out.below hb60)
       replace RX2:=Lib.hid (RowIs.below RX2.out hb60)
       replace Ggr:=Lib.hid (RowIs.below Ggr.out hb60)
       replace Ggk:=Lib.hid (RowIs.below Ggk.out hb60)
       replace QV:=Lib.hid (RowIs.below QV.out hb60)
       replace Ggr2:=Lib.hid (RowIs.below Ggr2.out hb60)
       replace Ggk2:=Lib.hid (RowIs.below Ggk2.out hb60)
       replace QU:=Lib.hid (RowIs.below QU.out hb60)
       replace B1:=Lib.hid (bup B1.out hb60)
       have QP:=Lib.hid hr61
       clear hb60 hr61
       have cc62:Y59.cell? ⟨w.heap.size,0,none⟩=some (.slice (some ⟨tb,ofs,none⟩) k cap):=RowIs.cell R1.out 0
       have zz63:w.heap.size<Y59.heap.size:=RowIs.lt R1.out
       have cc64:Y59.cell? ⟨w9.heap.size,0,none⟩=some (.slice xp k xc):=RowIs.cell RX2.out 0
       have zz65:w9.heap.size<Y59.heap.size:=RowIs.lt RX2.out
       have cc66:Y59.cell? ⟨w27.heap.size,0,none⟩=some (.int .i64 v1):=RowIs.cell QV.out 0
       have cc67:Y59.cell? ⟨w27.heap.size,1,none⟩=some (.int .i64 v2):=RowIs.cell QV.out 1
       have zz68:w27.heap.size<Y59.heap.size:=RowIs.lt QV.out
       have cc69:Y59.cell? ⟨w35.heap.size,0,none⟩=some (.int .i64 u1):=RowIs.cell QU.out 0
       have cc70:Y59.cell? ⟨w35.heap.size,1,none⟩=some (.int .i64 u2):=RowIs.cell QU.out 1
       have zz71:w35.heap.size<Y59.heap.size:=RowIs.lt QU.out
       have cc72:Y59.cell? ⟨w58.heap.size,0,none⟩=some (.int .i64 u1):=RowIs.cell QP.out 0
       have cc73:Y59.cell? ⟨w58.heap.size,1,none⟩=some (.int .i64 u2):=RowIs.cell QP.out 1
       have zz74:w58.heap.size<Y59.heap.size:=RowIs.lt QP.out
       have eq75 : ∀ x,(Op.equalIn 10000 30 (.agg #[.int .i64 u1, .int .i64 u2]) (.agg #[.int .i64 u1, .int .i64 u2])).run Try.prog x = .ok true x:=fun x=>(eqRat u1 u2 u1 u2 x).trans (by simp)
       go_wp2_with fail
       clear hY59 cc62 zz63 cc64 zz65 cc66 cc67 zz68 cc69 cc70 zz71 cc72 cc73 zz74 eq75
       refine (works_c _).mono ?_
       rintro e w76 ⟨rfl,hbq⟩
       go_wp2_with fail
       go_ret
       exact ⟨rfl,bup B1.out hbq⟩
end Go.Proofs.Ytkbbhihndigmeaa

namespace Go.Proofs.Ytkbbhihndigmeaa
open Go Go.RowKit Go.ChangeShapes Go.WideShapes Go.ChangeAt
theorem own_scaled:ownKnob Try.prog.godebug = .none:=by kernel_rfl
theorem laidOut_scaled:laidOutB Try.prog=true:=by kernel_rfl
set_option maxRecDepth 100000 in
theorem scaled_lifted (os:Os) (started:os.Started) (H:Type) (enc:TypeId × Value→H) :
 ReturnsInHanded {} Try.checked os 12 .any (Rows.searchScaledSpec.pre6 enc Try.prog Try.f12 Rows.searchScaledRow.domain false) (Rows.searchScaledSpec.post enc Try.prog Try.f12 false true false false):=by
 refine returnsInHanded_of_change (C:=Try.checked) own_scaled started (by kernel_rfl) Try.func12
  (ChangeSpec.witness6 (enc:=enc) (C:=Try.checked) false ⟨#[], #[.agg #[.slice .none 0 0], .int .u8 0, .int .i8 0],[]⟩ 8 (by kernel_rfl) (by kernel_rfl) (by kernel_rfl) (by kernel_rfl)) ?_
 intro W base args ds gs before hval0 hW hcnd _
 have hval : ∀ (j:Nat) t v,Try.f12.params[j]? = some t→args[j]? = some v→Value.okWide Try.prog W .any base t v:=hval0
 have hW':=hW
 obtain ⟨p,q,hA0,hV,rfl,hfz,hnd⟩:=hW
 have hA:DataW.TrodAll enc Try.prog W 0 (fun _=>true) true Try.f12.params.toList args.toList ds p:=hA0
 rw [Try.params12] at hA hval
 obtain ⟨v0,vs0,d0,ds0,p0,q0,hargs,rfl,rfl,h0,r0⟩:=trodAll_cons hA
 obtain ⟨v1,vs1,d1,ds1,p1,q1,rfl,rfl,rfl,h1,r1⟩:=trodAll_cons r0
 obtain ⟨v2,vs2,d2,ds2,p2,q2,rfl,rfl,rfl,h2,r2⟩:=trodAll_cons r1
 obtain ⟨rfl,rfl,rfl⟩:=trodAll_nil r2
 obtain rfl:args = #[v0,v1,v2]:=by cases args; simp_all
 obtain ⟨rfl,rfl⟩:=trodVars_none hV
 obtain ⟨a0,m0,cap0,f0,rfl,hT0⟩:=open_table (hval 0 24 v0 rfl rfl) h0
 obtain ⟨z1,hz1,_,_,hw1⟩:=open_int Try.underlying5 (hval 1 5 v1 rfl rfl) h1
 obtain ⟨z2,hz2,_,_,hw2⟩:=open_int Try.underlying65 (hval 2 65 v2 rfl rfl) h2
 subst hz1 hz2
 refine (law_scaled_c a0 m0 cap0 f0 z1 z2 W hT0 (wfu8 hw1) (wfi8 hw2)).mono fun e W' ⟨he,hb⟩ => ?_
 subst he
 have hlt:=hW'.lt
 simp only [List.append_nil,List.mem_append] at hlt
 refine ⟨_,rfl,_,_,_,[],p0 ++ (p1 ++ (p2 ++ [])),[],hW',trodAll_mk1 (shut_bool Try.underlying4 true),?_,rfl,hb.frame _,fun h=>Bool.noConfusion h⟩
 exact trodAll_cons_mk (Below.trod laidOut_scaled (by kernel_rfl) (of_decide_eq_true (by kernel_rfl)) h0 hb fun x hx=>hlt x (by simp [hx])) (trodAll_cons_mk (Below.trod laidOut_scaled (by kernel_rfl) (of_decide_eq_true (by kernel_rfl)) h1 hb fun x hx=>hlt x (by simp [hx])) (trodAll_cons_mk (Below.trod laidOut_scaled (by kernel_rfl) (of_decide_eq_true (by kernel_rfl)) h2 hb fun x hx=>hlt x (by simp [hx])) trodAll_mk0))
theorem scaled_holds:Rows.SearchScaledSaid:=
 OpenClaim.holds_of_wide 12 Try.f12 rfl rfl rfl rfl rfl rfl rfl ⟨rfl,rfl,rfl,rfl,rfl⟩ rfl rfl rfl rfl rfl (by kernel_rfl) Try.func12 (by kernel_rfl)
  (of_decide_eq_true (by kernel_rfl)) (by unfold Func.isWrapper; first | (rw [if_pos (by decide +kernel)]; kernel_rfl) | (rw [if_neg (by decide +kernel)]; exact ⟨rfl,rfl⟩))
  (fun os started H enc _=>scaled_lifted os started H enc)
end Go.Proofs.Ytkbbhihndigmeaa
