/- Contracts of layer 3: the plans that the document goes through. -/
import Derived.Shelf.Abstract
import Derived.Shelf.RegionOpen
import Derived.Test.YtkbbhihndigmeaaProg
import Derived.Test.YtkbbhihndigmeaaBasaa
import Derived.Test.YtkbbhihndigmeaaBasad
import Derived.Test.YtkbbhihndigmeaaBasap
import Derived.Test.YtkbbhihndigmeaaBasao
import Derived.Test.YtkbbhihndigmeaaBasas
import Derived.Test.YtkbbhihndigmeaaBasaf
import Derived.Test.YtkbbhihndigmeaaBasag
import Derived.Test.YtkbbhihndigmeaaBasac
import Derived.Test.YtkbbhihndigmeaaBasaj
namespace Go.Proofs.Ytkbbhihndigmeaa
open Go Go.RowKit Go.Shelf
set_option maxRecDepth 100000 in
set_option maxHeartbeats 16000000 in
theorem rPlans_c (a:Option Addr) (m n cap:Nat) (f:Nat→Row3) (w:World) (hf:Tab w a m f) (hO:Okay m n f) :
 Calls Try.prog 91 #[tabV a m cap] w fun e w'=>(∃ N p c F,e = .returned (.slice p N c)∧Tab w' p N F∧(∀ i,(F i).n=m)∧PlanSet (lossA f) m n N F∧N≤256∧(∀ b off,p=some ⟨b,off,none⟩→w.heap.size≤b) ∧ ∀ i,i<N → ∃ g,w.heap.size≤g∧(F i).a=some ⟨g,0,none⟩)∧Below w.heap.size w w':=by
 obtain ⟨W,hW⟩ : ∃ W,w.alloc (.cells #[.slice a m cap] 24)=W:=⟨_,rfl⟩
 have hB:Below w.heap.size w W:=by rw [← hW]; exact Below.alloc1 (Below.refl _ _) _ (Nat.le_refl _)
 have hRw:RowIs W w.heap.size #[.slice a m cap] 24:=by rw [← hW]; exact heap_new_at _ _ _ rfl
 have hm0:0<m:=hO.m1
 have hm4:=hO.m4
 have hn0:0<n:=hO.n1
 have hn4:=hO.n4
 obtain ⟨b,off,rfl,hbs, -⟩:=Tab.at hf 0 hm0
 have r0:W.cell? ⟨w.heap.size,0,none⟩=some (.slice (some ⟨b,off,none⟩) m cap):=RowIs.cell hRw 0
 have rz:w.heap.size<W.heap.size:=hRw.lt
 have c0:=tabC hf W hB 0 hm0
 rw [Nat.add_zero,hO.len 0 hm0] at c0
 have hbW:b<W.heap.size:=Nat.lt_of_lt_of_le hbs hB.size
 have HF:=Lib.hid (fun (x:World) (h:Below w.heap.size w x)=>hf.below h)
 have HO:=Lib.hid hO
 have HR:=Lib.hid hRw
 have HB:=Lib.hid hB
 obtain ⟨pm,hpm⟩ : ∃ pm:Nat,2 ^ m=pm:=⟨_,rfl⟩
 obtain ⟨pn,hpn⟩ : ∃ pn:Nat,2 ^ n=pn:=⟨_,rfl⟩
 have Hpm:=Lib.hid hpm
 have Hpn:=Lib.hid hpn
 have hpm16:2≤pm∧pm≤16:=by
  have:m=1∨m=2∨m=3∨m=4:=by omega
  rcases this with rfl | rfl | rfl | rfl <;> omega
 have hpn16:2≤pn∧pn≤16:=by
  have:n=1∨n=2∨n=3∨n=4:=by omega
  rcases this with rfl | rfl | rfl | rfl <;> omega
 have wm:wrap64 (2 ^ m)=(pm:Int):=by
  rw [show (2:Int) ^ m=(pm:Int) by rw [← hpm]; simp]
  exact IntWalk.wrap64_in _ ⟨by omega,by omega⟩
 have wn:wrap64 (2 ^ n)=(pn:Int):=by
  rw [show (2:Int) ^ n=(pn:Int) by rw [← hpn]; simp]
  exact IntWalk.wrap64_in _ ⟨by omega,by omega⟩
 have Wm:=Lib.hid wm
 have Wn:=Lib.hid wn
 clear wm wn
 have i1:(0:Int)≤(m:Int):=by omega
 have i2:(0:Int)≤(n:Int):=by omega
 clear hf hO hRw hB hpm hpn
 go_enter Try.func91,Try.ntmps91
 go_wp2_with fail
 go_quiet (fail)
 go_wp2_with fail
 obtain ⟨W2,hW2⟩ : ∃ W2,W.drewN nq=W2:=⟨_,rfl⟩
 have HB2:=Lib.hid (show Below w.heap.size w W2 by rw [← hW2]; exact below_drewN HB.out nq)
 have HR2:=Lib.hid (show RowIs W2 w.heap.size #[.slice (some ⟨b,off,none⟩) m cap] 24 by rw [← hW2]; exact HR.out.below (below_drewN (Below.refl _ _) nq))
 rw [hW2]
 clear hW hW2 c0 r0 rz hbW
 go_loopw [5,6] (fun x q wr=> ∃ (r:Nat) (L:List Value) (v:Value),1≤r∧r≤pm∧q = .int .i64 r∧x=v∧L.length≤(r-1)*15∧OwnV 25 wr w.heap.size L v∧PlanUpto (lossA f) m n w.heap.size wr r 1 L∧RowIs wr w.heap.size #[.slice (some ⟨b,off,none⟩) m cap] 24∧Below w.heap.size w wr) (fun _ q _=>pm-(intOf q).toNat)
 case atStart=>exact ⟨1,[],_,Nat.le_refl _,by omega,rfl,rfl,Nat.zero_le _,ownV_nil _ _ _,PlanUpto.first _ _ _ _ _,HR2.out,HB2.out⟩
 case round=>
  obtain ⟨r,L,v,hr1,hr,rfl,rfl,hL,hv,hp,hbox,hb⟩:=hrel
  have Hv:=Lib.hid hv
  have Hp:=Lib.hid hp
  have Hbox:=Lib.hid hbox
  have Hb:=Lib.hid hb
  clear hv hp hbox hb
  by_cases hlt:r<pm
  ·obtain ⟨X,hX⟩ : ∃ X:World,X=wr:=⟨_,rfl⟩
   subst hX
   have k1:((r:Int)<wrap64 (2 ^ m)):=by rw [Wm.out]; omega
   go_wp2_with fail
   go_loopw [5,7] (fun x q wr=> ∃ (c:Nat) (L:List Value) (v:Value),1≤c∧c≤pn∧q = .int .i64 c∧x=v∧L.length≤(r-1)*15+(c-1)∧OwnV 25 wr w.heap.size L v∧PlanUpto (lossA f) m n w.heap.size wr r c L∧RowIs wr w.heap.size #[.slice (some ⟨b,off,none⟩) m cap] 24∧Below w.heap.size w wr) (fun _ q _=>pn-(intOf q).toNat)
   case atStart=>exact ⟨1,L,_,Nat.le_refl _,by omega,rfl,rfl,by omega,Hv.out,Hp.out,Hbox.out,Hb.out⟩
   case round=>
    clear Hv Hp Hbox Hb hL L
    obtain ⟨c,L,v,hc1,hc,rfl,rfl,hL,hv,hp,hbox,hb⟩:=hrel
    have Hv:=Lib.hid hv
    have Hp:=Lib.hid hp
    have Hbox:=Lib.hid hbox
    have Hb:=Lib.hid hb
    clear hv hp hbox hb
    by_cases hlc:c<pn
    ·have k2:((c:Int)<wrap64 (2 ^ n)):=by rw [Wn.out]; omega
     have HA:=Lib.hid (rListed_c r m wr hm4)
     have bR:=bits_sub hm4 (show r<2 ^ m by rw [Hpm.out]; exact hlt)
     have bC:=bits_sub hn4 (show c<2 ^ n by rw [Hpn.out]; exact hlc)
     have HbR:=Lib.hid bR.1
     have HbC:=Lib.hid bC.1
     have hR0:=bR.2 hr1
     clear bR bC
     obtain ⟨R,hR⟩ : ∃ R,bitsL r m=R:=⟨_,rfl⟩
     obtain ⟨G,hG⟩ : ∃ G,bitsL c n=G:=⟨_,rfl⟩
     have HRe:=Lib.hid hR
     have HGe:=Lib.hid hG
     rw [hR] at HA HbR hR0
     rw [hG] at HbC
     have HG:=Lib.hid (fun (x:World)=>rListed_c c n x hn4)
     rw [hG] at HG
     have hlR:=HbR.out.length_le
     have hlG:=HbC.out.length_le
     rw [List.length_range] at hlR hlG
     clear hR hG
     go_wp2_with fail
     refine HA.out.mono ?_
     rintro e w1 ⟨⟨rp,rc,rfl,hRl⟩,hb1⟩
     have HRl:=Lib.hid hRl
     have Hb1:=Lib.hid hb1
     clear hRl hb1 HA
     go_wp2_with fail
     refine (HG.out w1).mono ?_
     rintro e w2 ⟨⟨gp,gc,rfl,hGl⟩,hb2⟩
     have HGl:=Lib.hid hGl
     replace HRl:=Lib.hid (HRl.out.below hb2)
     replace Hb1:=Lib.hid (bup Hb1.out hb2)
     replace Hv:=Lib.hid (Hv.out.below Hb1.out)
     replace Hp:=Lib.hid (Hp.out.below Hb1.out)
     replace Hbox:=Lib.hid (Hbox.out.below Hb1.out)
     replace Hb:=Lib.hid (bup Hb.out Hb1.out)
     have r0:w2.cell? ⟨w.heap.size,0,none⟩=some (.slice (some ⟨b,off,none⟩) m cap):=RowIs.cell Hbox.out 0
     have rz:w.heap.size<w2.heap.size:=Hbox.out.lt
     clear hGl hb2 HG Hb1
     by_cases hl:G.length=R.length
     ·have t1:((R.length:Int) != (G.length:Int))=false:=by rw [hl]; simp
      have hE:=rEven_c (some ⟨b,off,none⟩) m n cap f R G rp gp rc gc w2 (HF.out w2 Hb.out) HO.out HRl.out HGl.out HbR.out HbC.out hl hR0
      have HE:=Lib.hid hE
      clear hE
      go_wp2_with fail
      refine HE.out.mono ?_
      rintro e w3 ⟨he,hb3⟩
      replace Hv:=Lib.hid (Hv.out.below hb3)
      replace Hp:=Lib.hid (Hp.out.below hb3)
      replace Hbox:=Lib.hid (Hbox.out.below hb3)
      have hsz2:=Hb.out.size
      replace Hb:=Lib.hid (bup Hb.out hb3)
      clear HE hb3
      rcases he with ⟨hno,rfl⟩ | ⟨s,hc2,g,rfl,hg,hrow⟩
      ·have hp2:=Hp.out.no (by rw [HRe.out,HGe.out]; exact hno)
       have Hp2:=Lib.hid hp2
       clear hno hp2
       go_wp2_with fail
       go_roundw
       case rel=>exact ⟨c+1,L,_,by omega,by omega,by go_num,rfl,by omega,Hv.out,Hp2.out,Hbox.out,Hb.out⟩
       case measure=>simp [intOf]; omega
      ·have hgw:w.heap.size≤g:=by omega
       obtain ⟨vp,vc,hvf, -⟩:=Hv.out.form
       obtain ⟨Y,hY⟩ : ∃ Y,w3.alloc (.cells #[.slice (some ⟨g,0,none⟩) m m] 25)=Y:=⟨_,rfl⟩
       have hyb:Below w3.heap.size w3 Y:=by rw [← hY]; exact Below.alloc1 (Below.refl _ _) _ (Nat.le_refl _)
       have hyr:RowIs Y w3.heap.size #[.slice (some ⟨g,0,none⟩) m m] 25:=by rw [← hY]; exact heap_new_at _ _ _ rfl
       have hvY:=Hv.out.below hyb
       have hr15:(r-1)*15≤15*15:=Nat.mul_le_mul (by omega) (Nat.le_refl _)
       obtain ⟨v',Z,hrun,ho,hgz,hbz, -⟩:=appS64 hvY (.slice (some ⟨g,0,none⟩) m m) w3.heap.size (hyr.cell 0) rfl (Nat.le_trans Hb.out.size hyb.size) (by omega)
       have hrZ:=hvY.other hgz (hrow.below hyb) (by decide)
       have hxZ:=hvY.other hgz (Hbox.out.below hyb) (by decide)
       have hpZ:PlanUpto (lossA f) m n w.heap.size Z r c L:=(Hp.out.below hyb).keep fun _ _ h=>hvY.other hgz h (by decide)
       have hp2:=hpZ.yes (by rw [HRe.out,HGe.out]; exact hc2) hgw (by rw [HRe.out,HGe.out]; exact hrZ)
       have HpZ:=Lib.hid hp2
       have HxZ:=Lib.hid hxZ
       have HbZ:=Lib.hid ((bup Hb.out hyb).trans hbz)
       have Ho:=Lib.hid ho
       have t2:(0:Int)<(m:Int):=by omega
       clear hyb hyr hvY hrZ hxZ hpZ hp2 hc2 hrow hbz hgz ho
       obtain ⟨np,nc,hnf, -⟩:=Ho.out.form
       rw [List.length_append,List.length_singleton] at hnf
       subst hnf
       subst hvf
       go_wp2_with (at_builtin; refine wpList_append_run rfl _ _ 22 rfl rfl rfl hrun ?_)
       clear hrun hY
       go_roundw
       case rel=>exact ⟨c+1,_,_,by omega,by omega,by go_num,rfl,by simp; omega,Ho.out,HpZ.out,HxZ.out,HbZ.out⟩
       case measure=>simp [intOf]; omega
     ·have t1:((R.length:Int) != (G.length:Int))=true:=by simp; omega
      have hp2:=Hp.out.no (by rw [HRe.out,HGe.out]; exact fun s hs=>hl hs.2.2.1)
      have Hp2:=Lib.hid hp2
      clear hp2
      go_wp2_with fail
      go_roundw
      case rel=>exact ⟨c+1,L,_,by omega,by omega,by go_num,rfl,by omega,Hv.out,Hp2.out,Hbox.out,Hb.out⟩
      case measure=>simp [intOf]; omega
    ·obtain rfl:c=pn:=by omega
     have hp2:=Hp.out
     rw [← Hpn.out] at hp2
     have Hp2:=Lib.hid hp2.next
     have k2 : ¬ ((c:Int)<wrap64 (2 ^ n)):=by rw [Wn.out]; omega
     clear hp2
     go_wp2_with fail
     go_roundw
     case rel=>exact ⟨r+1,L,_,by omega,by omega,by go_num,rfl,by omega,Hv.out,Hp2.out,Hbox.out,Hb.out⟩
     case measure=>simp [intOf]; omega
  ·obtain rfl:r=pm:=by omega
   have hp2:=Hp.out
   rw [← Hpm.out] at hp2
   obtain ⟨p,c,F,rfl,h1,h2,h3,h4,h5⟩:=hp2.set hm4 hn4 Hv.out
   have H4:=Lib.hid h4
   have H5:=Lib.hid h5
   have H1:=Lib.hid h1
   have H3:=Lib.hid h3
   have hl:L.length≤256:=by
    have:(r-1)*15≤15*15:=Nat.mul_le_mul (by omega) (Nat.le_refl _)
    omega
   have k1 : ¬ ((r:Int)<wrap64 (2 ^ m)):=by rw [Wm.out]; omega
   clear h1 h3 hp2 h4 h5
   go_wp2_with fail
   go_ret
   exact ⟨⟨L.length,p,⟨c,rfl⟩,F,H1.out,h2,H3.out,hl,H4.out,H5.out⟩,Hb.out⟩
end Go.Proofs.Ytkbbhihndigmeaa

namespace Go.Proofs.Ytkbbhihndigmeaa
open Go Go.RowKit
set_option maxHeartbeats 4000000 in
theorem rBound_c (a:Option Addr) (m cap:Nat) (f:Nat→Row3) (pa:Option Addr) (len pcap:Nat) (p:Nat→Int) (w:World) (hf:Tab w a m f) (hm:m≤1048576) (hp:Ints w pa len p) (hl:len≤1048576) :
 Calls Try.prog 22 #[tabV a m cap, .slice pa len pcap] w fun e w'=>e = .returned (re2 (boundR m f len p))∧Below w.heap.size w w':=by
 obtain ⟨W,hW⟩ : ∃ W,(w.alloc (.cells #[.slice a m cap] 24)).alloc (.cells #[.int .i64 0, .int .i64 0] 30)=W:=⟨_,rfl⟩
 have hB:Below w.heap.size w W:=by rw [← hW]; exact Below.alloc1 (Below.alloc1 (Below.refl _ _) _ (Nat.le_refl _)) _ (Nat.le_refl _)
 have hQ:RowIs W (w.heap.size+1) #[.int .i64 0, .int .i64 0] 30:=by rw [← hW]; exact heap_new_at _ _ _ (by simp)
 have hR:RowIs W w.heap.size #[.slice a m cap] 24:=by rw [← hW]; exact RowIs.alloc (heap_new_at _ _ _ rfl) _
 have r0:W.cell? ⟨w.heap.size,0,none⟩=some (.slice a m cap):=RowIs.cell hR 0
 have rz:w.heap.size<W.heap.size:=hR.lt
 have HF:=Lib.hid (hf.below hB)
 have HT:=Lib.hid (fun (x:World) (h:Tab x a m f)=>rcheckTable_c a m cap f x h hm)
 have HP:=Lib.hid (Cells.below hp hB)
 have HQ:=Lib.hid hQ
 have HR:=Lib.hid hR
 have HB:=Lib.hid hB
 clear hf hB hQ hR hp
 by_cases hE:tableE m f=0
 ·have hO:=okay_of hE
  by_cases hL:planE len (f 0).n p=0
  ·obtain ⟨hlen,hb,hs⟩:=plan_ok hL
   have hn0:(f 0).n=len:=hlen.symm
   have Hv:=Lib.hid (show boundR m f len p=(- ratN (boundN f m len p) (sumI p len),ratD (boundN f m len p) (sumI p len),0) by unfold boundR; rw [if_neg (by simp [hE]),if_neg (by simp [hL]),hn0])
   rw [hn0] at hb hs hL
   have HS:=Lib.hid (fun (x:World) (h1:Tab x a m f) (h2:Ints x pa len p)=>rBoundOf_c a m len cap f pa pcap p x h1 (hn0 ▸ hO) h2 hb hs)
   have HL:=Lib.hid (fun (x:World) (h2:Ints x pa len p)=>rplanError_c pa len pcap len p x h2 hl hl)
   rw [hE] at HT
   rw [hL] at HL
   have hm0:0<m:=hO.m1
   have Hn0:=Lib.hid hn0
   clear hE hL hO hb hs hlen hn0
   obtain ⟨N,hN⟩ : ∃ N, - ratN (boundN f m len p) (sumI p len)=N:=⟨_,rfl⟩
   obtain ⟨d,hd⟩ : ∃ d,ratD (boundN f m len p) (sumI p len)=d:=⟨_,rfl⟩
   rw [hN,hd] at HS Hv
   clear hN hd
   rw [Hv.out]
   go_enter Try.func22,Try.ntmps22
   go_wp2_with fail
   refine (HT.out _ HF.out).mono ?_
   rintro e w1 ⟨rfl,hb1⟩
   clear hW
   have Hb1:=Lib.hid hb1
   obtain ⟨b,off,rfl,hbs,hc⟩:=Tab.at (HF.out.below hb1) 0 hm0
   have c0:=hc 0 hm0
   rw [Nat.add_zero,Hn0.out] at c0
   have s0:w1.cell? ⟨w.heap.size,0,none⟩=some (.slice (some ⟨b,off,none⟩) m cap):=RowIs.cell (HR.out.below hb1) 0
   have sz:=(HR.out.below hb1).lt
   clear hb1 r0 hc
   go_wp2_with fail
   refine (HL.out _ (Cells.below HP.out Hb1.out)).mono ?_
   rintro e w2 ⟨rfl,rfl⟩
   go_wp2_with fail
   refine (HS.out _ (HF.out.below Hb1.out) (Cells.below HP.out Hb1.out)).mono ?_
   rintro e w3 ⟨rfl,hb3⟩
   have hQ3:=HQ.out.below (bup Hb1.out hb3)
   have q0:=RowIs.cell hQ3 0
   have q1:=RowIs.cell hQ3 1
   have z0:=RowIs.frozen hQ3 0
   have z1:=RowIs.frozen hQ3 1
   have qz:=hQ3.lt
   simp at q0 q1
   have HB3:=Lib.hid (bup HB.out (bup Hb1.out hb3))
   have HQ3:=Lib.hid hQ3
   clear hQ3 hb3
   go_wp2_with fail
   have hQ4:=(HQ3.out.set 0 (.int .i64 N)).set 1 (.int .i64 d)
   have y0:=RowIs.cell hQ4 0
   have y1:=RowIs.cell hQ4 1
   simp at y0 y1
   exact bodyPost_ret (v:=re2 (N,d,0)) (by simp [results,Try.results22,go_sem,y0,y1]) rfl ⟨rfl,(HB3.out.setCell (p:=⟨w.heap.size+1,0,none⟩) (by show w.heap.size≤w.heap.size+1; omega) _).setCell (p:=⟨w.heap.size+1,1,none⟩) (by show w.heap.size≤w.heap.size+1; omega) _⟩
  ·have Hv:=Lib.hid (show boundR m f len p=(0,0,planE len (f 0).n p) by unfold boundR; rw [if_neg (by simp [hE]),if_pos hL])
   have HL:=Lib.hid (fun (x:World) (h2:Ints x pa len p)=>rplanError_c pa len pcap (f 0).n p x h2 hl (by have:=hO.n4; omega))
   have t0:(planE len (f 0).n p != 0)=true:=by simpa using hL
   rw [hE] at HT
   have hm0:0<m:=hO.m1
   clear hE hL hO
   obtain ⟨E,hE⟩ : ∃ E,planE len (f 0).n p=E:=⟨_,rfl⟩
   rw [hE] at HL Hv t0
   clear hE
   rw [Hv.out]
   go_enter Try.func22,Try.ntmps22
   go_wp2_with fail
   refine (HT.out _ HF.out).mono ?_
   rintro e w1 ⟨rfl,hb1⟩
   clear hW
   obtain ⟨b,off,rfl,hbs,hc⟩:=Tab.at (HF.out.below hb1) 0 hm0
   have c0:=hc 0 hm0
   rw [Nat.add_zero] at c0
   have s0:w1.cell? ⟨w.heap.size,0,none⟩=some (.slice (some ⟨b,off,none⟩) m cap):=RowIs.cell (HR.out.below hb1) 0
   clear hc
   have sz:=(HR.out.below hb1).lt
   have hQ3:=HQ.out.below hb1
   have q0:=RowIs.cell hQ3 0
   have q1:=RowIs.cell hQ3 1
   have z0:=RowIs.frozen hQ3 0
   have z1:=RowIs.frozen hQ3 1
   have qz:=hQ3.lt
   simp at q0 q1
   have Hb1:=Lib.hid hb1
   have HQ3:=Lib.hid hQ3
   clear hb1 r0 hQ3
   go_wp2_with fail
   refine (HL.out _ (Cells.below HP.out Hb1.out)).mono ?_
   rintro e w2 ⟨rfl,rfl⟩
   go_wp2_with fail
   refine (HL.out _ (Cells.below HP.out Hb1.out)).mono ?_
   rintro e w2 ⟨rfl,rfl⟩
   go_wp2_with fail
   have hQ4:=(HQ3.out.set 0 (.int .i64 0)).set 1 (.int .i64 0)
   have y0:=RowIs.cell hQ4 0
   have y1:=RowIs.cell hQ4 1
   simp at y0 y1
   exact bodyPost_ret (v:=re2 (0,0,E)) (by simp [results,Try.results22,go_sem,y0,y1]) rfl ⟨rfl,((bup HB.out Hb1.out).setCell (p:=⟨w.heap.size+1,0,none⟩) (by show w.heap.size≤w.heap.size+1; omega) _).setCell (p:=⟨w.heap.size+1,1,none⟩) (by show w.heap.size≤w.heap.size+1; omega) _⟩
 ·have Hv:=Lib.hid (show boundR m f len p=(0,0,tableE m f) by unfold boundR; rw [if_pos hE])
  have t0:(tableE m f != 0)=true:=by simpa using hE
  clear hE
  obtain ⟨E,hE⟩ : ∃ E,tableE m f=E:=⟨_,rfl⟩
  rw [hE] at HT Hv t0
  clear hE
  rw [Hv.out]
  go_enter Try.func22,Try.ntmps22
  go_wp2_with fail
  refine (HT.out _ HF.out).mono ?_
  rintro e w1 ⟨rfl,hb1⟩
  clear hW
  have s0:w1.cell? ⟨w.heap.size,0,none⟩=some (.slice a m cap):=RowIs.cell (HR.out.below hb1) 0
  have sz:=(HR.out.below hb1).lt
  have Hb1:=Lib.hid hb1
  clear hb1 r0
  go_wp2_with fail
  refine (HT.out _ (HF.out.below Hb1.out)).mono ?_
  rintro e w2 ⟨rfl,hb2⟩
  have hQ3:=HQ.out.below (bup Hb1.out hb2)
  have q0:=RowIs.cell hQ3 0
  have q1:=RowIs.cell hQ3 1
  have z0:=RowIs.frozen hQ3 0
  have z1:=RowIs.frozen hQ3 1
  have qz:=hQ3.lt
  simp at q0 q1
  have HB3:=Lib.hid (bup HB.out (bup Hb1.out hb2))
  have HQ3:=Lib.hid hQ3
  clear hb2 hQ3
  go_wp2_with fail
  have hQ4:=(HQ3.out.set 0 (.int .i64 0)).set 1 (.int .i64 0)
  have y0:=RowIs.cell hQ4 0
  have y1:=RowIs.cell hQ4 1
  simp at y0 y1
  exact bodyPost_ret (v:=re2 (0,0,E)) (by simp [results,Try.results22,go_sem,y0,y1]) rfl ⟨rfl,(HB3.out.setCell (p:=⟨w.heap.size+1,0,none⟩) (by show w.heap.size≤w.heap.size+1; omega) _).setCell (p:=⟨w.heap.size+1,1,none⟩) (by show w.heap.size≤w.heap.size+1; omega) _⟩
end Go.Proofs.Ytkbbhihndigmeaa

namespace Go.Proofs.Ytkbbhihndigmeaa
open Go Go.RowKit Go.Shelf
structure Mid (w y:World) (f:Nat→Row3) (L D n k:Nat) (a:Option Addr) (m cap:Nat) (c:Nat→Nat) (vs:List Value) (v:Value):Prop where
 row:RowIs y L vs.toArray 25
 own:OwnV 2 y D (colL f k (c k+1)) v
 other : ∀ j,j<n→j ≠ k→OwnV 2 y D (colL f j (c j)) (vs.getD j undef)
 far : ∀ j b,j<n→j ≠ k→(vs.getD j undef).ownBlock=some b→v.ownBlock=some b→False
 q:RowIs y (w.heap.size+1+1) #[.slice (some ⟨L,0,none⟩) n n] 73
 s:RowIs y (w.heap.size+1) #[.slice a m cap] 73
 r:RowIs y w.heap.size #[.slice a m cap] 24
 b:Below w.heap.size w y
 z:D≤y.heap.size
theorem Mid.below {w y y':World} {f:Nat→Row3} {L D n k:Nat} {a:Option Addr} {m cap:Nat} {c:Nat→Nat} {vs:List Value} {v:Value} (h:Mid w y f L D n k a m cap c vs v) (hb:Below y.heap.size y y'):Mid w y' f L D n k a m cap c vs v:=
 ⟨h.row.below hb,h.own.below hb,fun j hj hn=>(h.other j hj hn).below hb,h.far,h.q.below hb,h.s.below hb,h.r.below hb,h.b.trans (hb.mono h.b.size),Nat.le_trans h.z hb.size⟩
theorem Mid.of {w y A:World} {f:Nat→Row3} {L D n k:Nat} {a:Option Addr} {m cap:Nat} {c:Nat→Nat} {vs:List Value} {v:Value} (h:Cols y f L D n c vs) (hk:k<n) (hq:RowIs y (w.heap.size+1+1) #[.slice (some ⟨L,0,none⟩) n n] 73) (hs:RowIs y (w.heap.size+1) #[.slice a m cap] 73) (hr:RowIs y w.heap.size #[.slice a m cap] 24) (hb:Below w.heap.size w y) (hz:D≤y.heap.size)
 (hwD:w.heap.size≤D) (hg:y.grownBy A (vs.getD k undef).ownBlock) (ho:OwnV 2 A D (colL f k (c k+1)) v) (hB:Below D y A) (hv:v.ownBlock=(vs.getD k undef).ownBlock∨v.ownBlock=some y.heap.size):Mid w A f L D n k a m cap c vs v:=
 ⟨(h.own k hk).other hg h.row (by decide),ho,fun j hj hn=>OwnV.block (h.own j hj) fun g hgi=>hg.block g ((h.own j hj).lt hgi).2 fun he=>hn (h.apart j k g hj hk hgi he.symm),
  fun i b hi hij h1 h2=>by
   rcases hv with h3 | h3
   ·rw [h3] at h2
    exact hij (h.apart i k b hi hk h1 h2)
   ·rw [h3] at h2
    have:=((h.own i hi).lt h1).2
    have:=Option.some.inj h2
    omega,
  h.other hk hg hq (by decide),h.other hk hg hs (by decide),h.other hk hg hr (by decide),hb.trans (hB.mono hwD),Nat.le_trans hz hB.size⟩
theorem Mid.done {w y:World} {f:Nat→Row3} {L D n k:Nat} {a:Option Addr} {m cap:Nat} {c:Nat→Nat} {vs:List Value} {v:Value} (h:Mid w y f L D n k a m cap c vs v) (hn:vs.length=n) (hk:k<n) (hap : ∀ j l b,j<n→l<n→(vs.getD j undef).ownBlock=some b→(vs.getD l undef).ownBlock=some b→j=l) :
 Cols (y.setCell ⟨L,k,none⟩ v) f L D n (fun i=>if i=k then c k+1 else c i) (vs.set k v):=by
 have hkl:k<vs.length:=by rw [hn]; exact hk
 refine ⟨by rw [List.length_set]; exact hn,?_,fun i hi => ?_,fun i l b hi hl h1 h2 => ?_⟩
 ·have:=h.row.set k v
  rw [List.setIfInBounds_toArray] at this
  exact this
 ·rw [getD_set hkl]
  by_cases e:i=k
  ·subst e
   rw [if_pos rfl,if_pos rfl]
   exact h.own.far h.row (by decide)
  ·rw [if_neg e,if_neg e]
   exact (h.other i hi e).far h.row (by decide)
 ·rw [getD_set hkl] at h1 h2
  by_cases e1:i=k
  ·by_cases e2:l=k
   ·rw [e1,e2]
   ·rw [if_pos e1] at h1
    rw [if_neg e2] at h2
    exact (h.far l b hl e2 h2 h1).elim
  ·by_cases e2:l=k
   ·rw [if_neg e1] at h1
    rw [if_pos e2] at h2
    exact (h.far i b hi e1 h1 h2).elim
   ·rw [if_neg e1] at h1
    rw [if_neg e2] at h2
    exact hap i l b hi hl h1 h2
set_option maxRecDepth 100000 in
set_option maxHeartbeats 16000000 in
theorem newDesks_yes_c (a:Option Addr) (m n cap:Nat) (f:Nat→Row3) (w:World) (hf:Tab w a m f) (hO:Okay m n f) :
 Calls Try.prog 61 #[tabV a m cap] w fun e w'=>(∃ L f',e = .returned (.tuple #[tabV a m cap,tabV (some ⟨L,0,none⟩) n n, .int .i64 0])∧Tab w' (some ⟨L,0,none⟩) n f'∧(∀ j,j<n→(f' j).n=m) ∧ ∀ j,(f' j).g=fun i=> - (f i).g j)∧Below w.heap.size w w':=by
 obtain ⟨W,hW⟩ : ∃ W,((w.alloc (.cells #[.slice a m cap] 24)).alloc (.cells #[.slice none 0 0] 73)).alloc (.cells #[.slice none 0 0] 73)=W:=⟨_,rfl⟩
 have hB:Below w.heap.size w W:=by rw [← hW]; exact Below.alloc1 (Below.alloc1 (Below.alloc1 (Below.refl _ _) _ (Nat.le_refl _)) _ (Nat.le_refl _)) _ (Nat.le_refl _)
 have hR:RowIs W w.heap.size #[.slice a m cap] 24:=by rw [← hW]; exact RowIs.alloc (RowIs.alloc (heap_new_at _ _ _ rfl) _) _
 have hS:RowIs W (w.heap.size+1) #[.slice none 0 0] 73:=by rw [← hW]; exact RowIs.alloc (heap_new_at _ _ _ (by simp)) _
 have hQ:RowIs W (w.heap.size+1+1) #[.slice none 0 0] 73:=by rw [← hW]; exact heap_new_at _ _ _ (by simp)
 have r0:W.cell? ⟨w.heap.size,0,none⟩=some (.slice a m cap):=RowIs.cell hR 0
 have rz:=hR.lt
 have HC:=Lib.hid (CheckTable_c a m cap f W (hf.below hB) (by have:=hO.m4; omega) (fun i hi=>by rw [hO.len i hi]; have:=hO.n4; omega))
 rw [okay_is hO] at HC
 have HF:=Lib.hid (fun (x:World) (h:Below w.heap.size w x)=>hf.below h)
 have HWd:=Lib.hid (fun (x:World) (h:Tab x a m f)=>width_c a m n cap f x h hO.m1 (hO.len 0 hO.m1))
 have mk:=make_rows n hO.n4
 have HR:=Lib.hid hR
 have HS:=Lib.hid hS
 have HQ:=Lib.hid hQ
 have HB:=Lib.hid hB
 have HO:=Lib.hid hO
 have hm4:=hO.m4
 have hn4:=hO.n4
 clear hf hB hR hS hQ hO
 go_enter Try.func61,Try.ntmps61
 go_wp2_with fail
 refine HC.out.mono ?_
 rintro e w1 ⟨rfl,hb1⟩
 clear hW HC r0
 have hS1:=HS.out.below hb1
 have hR1:=HR.out.below hb1
 have s0:=RowIs.cell hS1 0
 have s1:=RowIs.frozen hS1 0
 have sz:=hS1.lt
 have c0:=RowIs.cell hR1 0
 have cz:=hR1.lt
 simp at s0 c0
 obtain ⟨X,hX⟩ : ∃ X,w1.setCell ⟨w.heap.size+1,0,none⟩ (.slice a m cap)=X:=⟨_,rfl⟩
 have hSX:RowIs X (w.heap.size+1) #[.slice a m cap] 73:=by rw [← hX]; exact hS1.set 0 _
 have hRX:RowIs X w.heap.size #[.slice a m cap] 24:=by rw [← hX]; exact hR1.other 0 _ (by omega)
 have hQX:RowIs X (w.heap.size+1+1) #[.slice none 0 0] 73:=by rw [← hX]; exact (HQ.out.below hb1).other 0 _ (by omega)
 have hbX:Below w.heap.size w X:=by rw [← hX]; exact (bup HB.out hb1).setCell (p:=⟨w.heap.size+1,0,none⟩) (by show w.heap.size≤w.heap.size+1; omega) _
 have x0:X.cell? ⟨w.heap.size+1,0,none⟩=some (.slice a m cap):=RowIs.cell hSX 0
 have xz:=hSX.lt
 have HWX:=Lib.hid (HWd.out X (HF.out X hbX))
 have HSX:=Lib.hid hSX
 have HRX:=Lib.hid hRX
 have HQX:=Lib.hid hQX
 have HbX:=Lib.hid hbX
 clear hS1 hR1 hSX hRX hQX hbX hb1 HWd
 go_wp2_with fail
 refine HWX.out.mono ?_
 rintro e w2 ⟨rfl,hb2⟩
 clear HWX hX s0 c0 x0
 obtain ⟨V,hV⟩ : ∃ V,w2.alloc (.cells (Array.replicate n (Value.slice none 0 0)) 25)=V:=⟨_,rfl⟩
 have hVb:Below w2.heap.size w2 V:=by rw [← hV]; exact Below.alloc1 (Below.refl _ _) _ (Nat.le_refl _)
 have hVr:RowIs V w2.heap.size (Array.replicate n (Value.slice none 0 0)) 25:=by rw [← hV]; exact heap_new_at _ _ _ rfl
 have hQV:=(HQX.out.below hb2).below hVb
 have q0:V.cell? ⟨w.heap.size+1+1,0,none⟩=some (.slice none 0 0):=RowIs.cell hQV 0
 have q1:=RowIs.frozen hQV 0
 have qz:=hQV.lt
 have hLz:w.heap.size+1+1<w2.heap.size:=(HQX.out.below hb2).lt
 obtain ⟨L,hL⟩ : ∃ L,w2.heap.size=L:=⟨_,rfl⟩
 obtain ⟨Y,hY⟩ : ∃ Y,V.setCell ⟨w.heap.size+1+1,0,none⟩ (.slice (some ⟨L,0,none⟩) n n)=Y:=⟨_,rfl⟩
 have hQY:RowIs Y (w.heap.size+1+1) #[.slice (some ⟨L,0,none⟩) n n] 73:=by rw [← hY]; exact hQV.set 0 _
 have hSY:RowIs Y (w.heap.size+1) #[.slice a m cap] 73:=by rw [← hY]; exact ((HSX.out.below hb2).below hVb).other 0 _ (by omega)
 have hRY:RowIs Y w.heap.size #[.slice a m cap] 24:=by rw [← hY]; exact ((HRX.out.below hb2).below hVb).other 0 _ (by omega)
 have hVY:RowIs Y L (Array.replicate n (Value.slice none 0 0)) 25:=by rw [← hY, ← hL]; exact hVr.other 0 _ (by omega)
 have hbY:Below w.heap.size w Y:=by rw [← hY]; exact (bup (bup HbX.out hb2) hVb).setCell (p:=⟨w.heap.size+1+1,0,none⟩) (by show w.heap.size≤w.heap.size+1+1; omega) _
 have e0:Y.cell? ⟨w.heap.size,0,none⟩=some (.slice a m cap):=RowIs.cell hRY 0
 have ez:=hRY.lt
 obtain ⟨D,hD⟩ : ∃ D,Y.heap.size=D:=⟨_,rfl⟩
 have hLD:L<D:=by rw [← hD]; exact hVY.lt
 have HQY:=Lib.hid hQY
 have HSY:=Lib.hid hSY
 have HRY:=Lib.hid hRY
 have HCY:=Lib.hid (cols_start (f:=f) (D:=D) hVY)
 have HbY:=Lib.hid hbY
 clear hVb hVr hQV hQY hSY hRY hVY hbY hb2 HSX HRX HQX HbX HS HR HQ
 go_wp2_with fail
 clear hV hY mk q0 q1
 go_loopw [27] (fun x wr=> ∃ i:Nat,i≤m∧x = .int .i64 i ∧ ∃ vs,Cols wr f L D n (fun _=>i) vs∧RowIs wr (w.heap.size+1+1) #[.slice (some ⟨L,0,none⟩) n n] 73∧RowIs wr (w.heap.size+1) #[.slice a m cap] 73∧RowIs wr w.heap.size #[.slice a m cap] 24∧Below w.heap.size w wr∧D≤wr.heap.size) (fun x _=>m-(intOf x).toNat)
 case atStart=>exact ⟨0,Nat.zero_le _,rfl,_,HCY.out,HQY.out,HSY.out,HRY.out,HbY.out,by omega⟩
 case round=>
  obtain ⟨i,hi,rfl,vs,hC,hQ,hS,hR,hb,hDz⟩:=hrel
  have HC:=Lib.hid hC
  have HQ:=Lib.hid hQ
  have HS:=Lib.hid hS
  have HR:=Lib.hid hR
  have Hb:=Lib.hid hb
  have hT:=HF.out wr hb
  clear hC hQ hS hR hb e0
  by_cases hlt:i<m
  ·obtain ⟨b,off,rfl,hbs,hc⟩:=Tab.at hT i hlt
   have c1:=hc i hlt
   rw [HO.out.len i hlt] at c1
   clear hc hT
   go_wp2_with fail
   go_loopw [8,9,33] (fun _ _ x wr=> ∃ k:Nat,k≤n∧x = .int .i64 k ∧ ∃ vs,Cols wr f L D n (fun c=>if c<k then i+1 else i) vs∧RowIs wr (w.heap.size+1+1) #[.slice (some ⟨L,0,none⟩) n n] 73∧RowIs wr (w.heap.size+1) #[.slice (some ⟨b,off,none⟩) m cap] 73∧RowIs wr w.heap.size #[.slice (some ⟨b,off,none⟩) m cap] 24∧Below w.heap.size w wr∧D≤wr.heap.size) (fun _ _ x _=>n-(intOf x).toNat)
   case atStart=>exact ⟨0,Nat.zero_le _,rfl,_,HC.out.same fun j _=>by rw [if_neg (Nat.not_lt_zero _)],HQ.out,HS.out,HR.out,Hb.out,hDz⟩
   case round=>
    obtain ⟨k,hk,rfl,vs,hC,hQ,hS,hR,hb,hDz⟩:=hrel
    by_cases hlk:k<n
    ·have hT:=HF.out wr hb
     obtain ⟨rb,ro,hra,hrs,hrc⟩:=Cells.at (hT.2 i hlt) k (by rw [HO.out.len i hlt]; exact hlk)
     have c2:=hrc k (by rw [HO.out.len i hlt]; exact hlk)
     have hx:=HO.out.num i hlt k hlk
     have hw:IntKind.i64.wrap (-(f i).g k) = -(f i).g k:=IntWalk.i64_in _ (by omega)
     have q0:wr.cell? ⟨w.heap.size+1+1,0,none⟩=some (.slice (some ⟨L,0,none⟩) n n):=RowIs.cell hQ 0
     have qz:=hQ.lt
     have hok:=hC.own k hlk
     rw [if_neg (Nat.lt_irrefl _)] at hok
     obtain ⟨p,cp,hv, -⟩:=hok.form
     rw [colL_len] at hv
     have l0:=rowL_at hC.row k (by rw [hC.len]; exact hlk)
     rw [hv] at l0
     have lz:=hC.row.lt
     have hv0:=hv
     have hfin : ∀ (bb:Nat) (y:World),Below wr.heap.size wr y→y.heap[bb]? = some (.cells #[.int .i64 (-(f i).g k)] 2 (0,0)) → ∃ v y',(Builtin.append_ #[25,25] 25 #[.slice p i cp, .slice (some ⟨bb,0,none⟩) 1 1]).run Try.prog y = .ok v y'∧Mid w y' f L D n k (some ⟨b,off,none⟩) m cap (fun c=>if c<k then i+1 else i) vs v:=fun bb y hy hbb=>by
      have hok:=(hC.own k hlk).below hy
      rw [if_neg (Nat.lt_irrefl _)] at hok
      obtain ⟨v',A,hrun,ho,hgA,hbA,hvo⟩:=app64 hok (.int .i64 (-(f i).g k)) bb (RowIs.cell hbb 0) rfl (Nat.le_trans hDz hy.size) (by rw [colL_len]; omega)
      rw [← colL_more] at ho
      rw [hv0] at hrun
      exact ⟨v',A,hrun,Mid.of (hC.below hy) hlk (hQ.below hy) (hS.below hy) (hR.below hy) (hb.trans (hy.mono hb.size)) (Nat.le_trans hDz hy.size) (by omega) hgA (by rw [if_neg (Nat.lt_irrefl _)]; exact ho) hbA hvo⟩
     have HFin:=Lib.hid hfin
     have HC:=Lib.hid hC
     have HQ2:=Lib.hid hQ
     have Hbw:=Lib.hid hb
     have HVs:=Lib.hid hv
     clear hT hrc hx hok hC hQ hS hR hb hfin HQ HS HR Hb hv
     simp only [hra]
     go_wp2_with fail
     have hFC : ∀ y,Below wr.heap.size wr y→Below w.heap.size w y∧y.cell? ⟨w.heap.size+1+1,0,none⟩=some (.slice (some ⟨L,0,none⟩) n n):=fun y hy=>⟨Hbw.out.trans (hy.mono Hbw.out.size),(HQ2.out.below hy).cell 0⟩
     refine wp_region_runF (C:=fun y=>Below w.heap.size w y∧y.cell? ⟨w.heap.size+1+1,0,none⟩=some (.slice (some ⟨L,0,none⟩) n n)) (fun x=>Below wr.heap.size wr x) (by kernel_rfl) (stable_below wr) (Below.refl _ _) ?_
     change Run _ _ _ _ _ 16 _ _ _
     refine run_take (i:=0) (.pointer (some ⟨w.heap.size+1+1,0,none⟩)) rfl (by kernel_rfl) (by kernel_rfl) (by kernel_rfl) rfl hFC (fun y hy=>by obtain ⟨-,q0⟩:=hy; go_simp) ?_
     simp only [puts]
     refine run_take (i:=1) (.pointer (some ⟨w.heap.size+1+1,0,none⟩)) rfl (by kernel_rfl) (by kernel_rfl) (by kernel_rfl) rfl hFC (fun y hy=>by obtain ⟨-,q0⟩:=hy; go_simp) ?_
     simp only [puts]
     refine run_take (i:=2) (.slice (some ⟨L,0,none⟩) n n) rfl (by kernel_rfl) (by kernel_rfl) (by kernel_rfl) rfl hFC (fun y hy=>by obtain ⟨-,q0⟩:=hy; go_simp) ?_
     simp only [puts]
     refine run_take (i:=3) (.int .i64 (k:Int)) rfl (by kernel_rfl) (by kernel_rfl) (by kernel_rfl) rfl hFC (fun y hy=>by obtain ⟨-,q0⟩:=hy; go_simp) ?_
     simp only [puts]
     refine run_take (i:=4) (.pointer (some ⟨w.heap.size+1+1,0,none⟩)) rfl (by kernel_rfl) (by kernel_rfl) (by kernel_rfl) rfl hFC (fun y hy=>by obtain ⟨-,q0⟩:=hy; go_simp) ?_
     simp only [puts]
     refine run_take (i:=5) (.pointer (some ⟨w.heap.size+1+1,0,none⟩)) rfl (by kernel_rfl) (by kernel_rfl) (by kernel_rfl) rfl hFC (fun y hy=>by obtain ⟨-,q0⟩:=hy; go_simp) ?_
     simp only [puts]
     refine run_take (i:=6) (.slice (some ⟨L,0,none⟩) n n) rfl (by kernel_rfl) (by kernel_rfl) (by kernel_rfl) rfl hFC (fun y hy=>by obtain ⟨-,q0⟩:=hy; go_simp) ?_
     simp only [puts]
     refine run_take (i:=7) (.int .i64 (k:Int)) rfl (by kernel_rfl) (by kernel_rfl) (by kernel_rfl) rfl hFC (fun y hy=>by obtain ⟨-,q0⟩:=hy; go_simp) ?_
     simp only [puts]
     refine run_take (i:=8) (.pointer (some ⟨L,k,none⟩)) rfl (by kernel_rfl) (by kernel_rfl) (by kernel_rfl) rfl hFC (fun y hy=>by obtain ⟨-,q0⟩:=hy; go_simp) ?_
     simp only [puts]
     refine run_take (i:=10) (.int .i64 ((f i).g k)) rfl (by kernel_rfl) (by kernel_rfl) (by kernel_rfl) rfl hFC (fun y hy=>by obtain ⟨-,q0⟩:=hy; go_simp) ?_
     simp only [puts]
     refine run_take (i:=11) (.int .i64 (-(f i).g k)) rfl (by kernel_rfl) (by kernel_rfl) (by kernel_rfl) rfl hFC (fun y hy=>by obtain ⟨-,q0⟩:=hy; go_simp) ?_
     simp only [puts]
     refine run_both (i:=9) (j:=12) (by kernel_rfl) ?_ ?_
     ·refine at_quiet (.slice p i cp) rfl (quiet_read rfl (fun y hy => ?_)) ?_
      ·have l1:=rowL_at (HC.out.row.below hy) k (by rw [HC.out.len]; exact hlk)
       rw [hv0] at l1
       go_simp
      simp only [puts]
      refine run_only (i:=12) (by kernel_rfl) (at_make (w0:=wr) (t:=50) (z:= .cells #[.int .i64 (-(f i).g k)] 2 (0,0)) (fun q=> .slice (some ⟨q,0,none⟩) 1 1) (fun _=>False) slice_inj rfl rfl rfl (fun y _=>by go_simp) (fun y h=>h.size) (fun _ _ _ h=>h.elim) ?_)
      intro bb hbb _
      simp only [Act.put,List.setIfInBounds_toArray,List.set_cons_zero,List.set_cons_succ]
      refine run_only (i:=13) (by kernel_rfl) (at_upd (fun v y=>Mid w y f L D n k (some ⟨b,off,none⟩) m cap (fun c=>if c<k then i+1 else i) vs v) rfl rfl (fun v y y1 h hb=>h.below hb) (fun v y h=>⟨h.b,h.q.cell 0⟩) (fun y hy => ?_) ?_)
      ·obtain ⟨v,y',hrun,h3⟩:=HFin.out bb y hy.1 hy.2
       exact ⟨v,y',exec_app _ _ _ rfl _ _ rfl rfl hrun,h3⟩
      intro v hv
      simp only [puts]
      refine run_quiet (i:=14) (.pointer (some ⟨L,k,none⟩)) (by kernel_rfl) rfl rfl (fun y _=>by go_simp) ?_
      simp only [puts]
      refine run_store (i:=15) (fun y=>(∃ vs,Cols y f L D n (fun c=>if c<k+1 then i+1 else i) vs)∧RowIs y (w.heap.size+1+1) #[.slice (some ⟨L,0,none⟩) n n] 73∧RowIs y (w.heap.size+1) #[.slice (some ⟨b,off,none⟩) m cap] 73∧RowIs y w.heap.size #[.slice (some ⟨b,off,none⟩) m cap] 24∧Below w.heap.size w y∧D≤y.heap.size) (by kernel_rfl) rfl rfl (fun y y1 h hb=>⟨h.1.imp fun _ hc=>hc.below hb,h.2.1.below hb,h.2.2.1.below hb,h.2.2.2.1.below hb,h.2.2.2.2.1.trans (hb.mono h.2.2.2.2.1.size),Nat.le_trans h.2.2.2.2.2 hb.size⟩) (fun y h=>⟨h.2.2.2.2.1,h.2.1.cell 0⟩) (fun y hy => ?_) ?_
      ·obtain ⟨np,nc,hnf, -⟩:=hy.own.form
       subst hnf
       have l2:=rowL_at hy.row k (by rw [HC.out.len]; exact hlk)
       rw [hv0] at l2
       have l3:=RowIs.frozen hy.row k
       have hdn:=Mid.done hy HC.out.len hlk HC.out.apart
       refine ⟨_,(by go_simp),⟨_,hdn.same fun c hc => ?_⟩,hy.q.other k _ (by omega),hy.s.other k _ (by omega),hy.r.other k _ (by omega),hy.b.setCell (p:=⟨L,k,none⟩) (by show w.heap.size≤L; omega) _,by simpa using hy.z⟩
       by_cases e1:c=k
       ·rw [if_pos e1,if_neg (Nat.lt_irrefl _),if_pos (by omega)]
       ·rw [if_neg e1]
        by_cases e2:c<k
        ·rw [if_pos e2,if_pos (by omega)]
        ·rw [if_neg e2,if_neg (by omega)]
      simp only [puts]
      refine ⟨by kernel_rfl,fun y hy => ?_⟩
      obtain ⟨⟨vs2,h1⟩,h2,h3,h4,h5,h6⟩:=hy
      have G1:=Lib.hid h1
      have G2:=Lib.hid h2
      have G3:=Lib.hid h3
      have G4:=Lib.hid h4
      have G5:=Lib.hid h5
      clear h1 h2 h3 h4 h5
      go_wp2_with fail
      go_roundw
      case rel=>exact ⟨k+1,by omega,by go_num,vs2,G1.out,G2.out,G3.out,G4.out,G5.out,h6⟩
      case measure=>simp [intOf]; omega
     ·refine at_make (w0:=wr) (t:=50) (z:= .cells #[.int .i64 (-(f i).g k)] 2 (0,0)) (fun q=> .slice (some ⟨q,0,none⟩) 1 1) (fun _=>False) slice_inj rfl rfl rfl (fun y _=>by go_simp) (fun y h=>h.size) (fun _ _ _ h=>h.elim) ?_
      intro bb hbb _
      simp only [Act.put,List.setIfInBounds_toArray,List.set_cons_zero,List.set_cons_succ]
      refine run_quiet (i:=9) (.slice p i cp) (by kernel_rfl) rfl rfl (fun y hy=>by
       have l1:=rowL_at (HC.out.row.below hy.1) k (by rw [HC.out.len]; exact hlk)
       rw [hv0] at l1
       go_simp) ?_
      simp only [puts]
      refine run_only (i:=13) (by kernel_rfl) (at_upd (fun v y=>Mid w y f L D n k (some ⟨b,off,none⟩) m cap (fun c=>if c<k then i+1 else i) vs v) rfl rfl (fun v y y1 h hb=>h.below hb) (fun v y h=>⟨h.b,h.q.cell 0⟩) (fun y hy => ?_) ?_)
      ·obtain ⟨v,y',hrun,h3⟩:=HFin.out bb y hy.1 hy.2
       exact ⟨v,y',exec_app _ _ _ rfl _ _ rfl rfl hrun,h3⟩
      intro v hv
      simp only [puts]
      refine run_quiet (i:=14) (.pointer (some ⟨L,k,none⟩)) (by kernel_rfl) rfl rfl (fun y _=>by go_simp) ?_
      simp only [puts]
      refine run_store (i:=15) (fun y=>(∃ vs,Cols y f L D n (fun c=>if c<k+1 then i+1 else i) vs)∧RowIs y (w.heap.size+1+1) #[.slice (some ⟨L,0,none⟩) n n] 73∧RowIs y (w.heap.size+1) #[.slice (some ⟨b,off,none⟩) m cap] 73∧RowIs y w.heap.size #[.slice (some ⟨b,off,none⟩) m cap] 24∧Below w.heap.size w y∧D≤y.heap.size) (by kernel_rfl) rfl rfl (fun y y1 h hb=>⟨h.1.imp fun _ hc=>hc.below hb,h.2.1.below hb,h.2.2.1.below hb,h.2.2.2.1.below hb,h.2.2.2.2.1.trans (hb.mono h.2.2.2.2.1.size),Nat.le_trans h.2.2.2.2.2 hb.size⟩) (fun y h=>⟨h.2.2.2.2.1,h.2.1.cell 0⟩) (fun y hy => ?_) ?_
      ·obtain ⟨np,nc,hnf, -⟩:=hy.own.form
       subst hnf
       have l2:=rowL_at hy.row k (by rw [HC.out.len]; exact hlk)
       rw [hv0] at l2
       have l3:=RowIs.frozen hy.row k
       have hdn:=Mid.done hy HC.out.len hlk HC.out.apart
       refine ⟨_,(by go_simp),⟨_,hdn.same fun c hc => ?_⟩,hy.q.other k _ (by omega),hy.s.other k _ (by omega),hy.r.other k _ (by omega),hy.b.setCell (p:=⟨L,k,none⟩) (by show w.heap.size≤L; omega) _,by simpa using hy.z⟩
       by_cases e1:c=k
       ·rw [if_pos e1,if_neg (Nat.lt_irrefl _),if_pos (by omega)]
       ·rw [if_neg e1]
        by_cases e2:c<k
        ·rw [if_pos e2,if_pos (by omega)]
        ·rw [if_neg e2,if_neg (by omega)]
      simp only [puts]
      refine ⟨by kernel_rfl,fun y hy => ?_⟩
      obtain ⟨⟨vs2,h1⟩,h2,h3,h4,h5,h6⟩:=hy
      have G1:=Lib.hid h1
      have G2:=Lib.hid h2
      have G3:=Lib.hid h3
      have G4:=Lib.hid h4
      have G5:=Lib.hid h5
      clear h1 h2 h3 h4 h5
      go_wp2_with fail
      go_roundw
      case rel=>exact ⟨k+1,by omega,by go_num,vs2,G1.out,G2.out,G3.out,G4.out,G5.out,h6⟩
      case measure=>simp [intOf]; omega
    ·obtain rfl:k=n:=by omega
     have HC:=Lib.hid hC
     have HQ:=Lib.hid hQ
     have HS:=Lib.hid hS
     have HR:=Lib.hid hR
     have Hb:=Lib.hid hb
     clear hC hQ hS hR hb
     go_wp2_with fail
     go_roundw
     case rel=>exact ⟨i+1,by omega,by go_num,vs,HC.out.same fun j hj=>by rw [if_pos hj],HQ.out,HS.out,HR.out,Hb.out,hDz⟩
     case measure=>simp [intOf]; omega
  ·obtain rfl:i=m:=by omega
   have s0:wr.cell? ⟨w.heap.size+1,0,none⟩=some (.slice a i cap):=RowIs.cell HS.out 0
   have s1:=RowIs.frozen HS.out 0
   have sz:=HS.out.lt
   have q0:wr.cell? ⟨w.heap.size+1+1,0,none⟩=some (.slice (some ⟨L,0,none⟩) n n):=RowIs.cell HQ.out 0
   have q1:=RowIs.frozen HQ.out 0
   have qz:=HQ.out.lt
   clear hT
   go_wp2_with fail
   go_region
   all_goals
    go_wp2_with fail
    have y1:=RowIs.cell ((HS.out.set 0 (.slice a i cap)).other (b':=w.heap.size+1+1) 0 (.slice (some ⟨L,0,none⟩) n n) (by omega)) 0
    have y2:=RowIs.cell ((HQ.out.other (b':=w.heap.size+1) 0 (.slice a i cap) (by omega)).set 0 (.slice (some ⟨L,0,none⟩) n n)) 0
    simp at y1 y2
    have hC2:=(HC.out.far (o:=0) (u:= .slice a i cap) HS.out (by decide) (by omega)).far (o:=0) (u:= .slice (some ⟨L,0,none⟩) n n) (HQ.out.other (b':=w.heap.size+1) 0 (.slice a i cap) (by omega)) (by decide) (by omega)
    obtain ⟨f',t1,t2,t3⟩:=cols_tab hC2.drew (by omega) hn4
    exact bodyPost_ret (v:= .tuple #[tabV a i cap,tabV (some ⟨L,0,none⟩) n n, .int .i64 0]) (by simp [results,Try.results61,go_sem,y1,y2]) rfl ⟨⟨L,f',rfl,t1,t2,t3⟩,((Hb.out.setCell (p:=⟨w.heap.size+1,0,none⟩) (by show w.heap.size≤w.heap.size+1; omega) _).setCell (p:=⟨w.heap.size+1+1,0,none⟩) (by show w.heap.size≤w.heap.size+1+1; omega) _).drew⟩
end Go.Proofs.Ytkbbhihndigmeaa

namespace Go.Proofs.Ytkbbhihndigmeaa
open Go Go.RowKit
theorem sureN_same {f:Nat→Row3} {m n:Nat} {p q:Nat→Int} (hn:0<n) (e : ∀ i,i<m→p i=q i):sureN f m n p=sureN f m n q:=leastF_same hn fun j _=>by
 unfold ag
 rw [dotN_comm,dotN_comm q]
 exact dotN_same e
set_option maxHeartbeats 8000000 in
theorem Sure_c (a:Option Addr) (m cap:Nat) (f:Nat→Row3) (pa:Option Addr) (len pcap:Nat) (p:Nat→Int) (w:World) (hf:Tab w a m f) (hm:m≤1048576) (hr : ∀ i,i<m→(f i).n≤1048576) (hp:Ints w pa len p) (hl:len≤1048576) :
 Calls Try.prog 19 #[tabV a m cap, .slice pa len pcap] w fun e w'=>e = .returned (re2 (sureR m f len p))∧Below w.heap.size w w':=by
 obtain ⟨W,hW⟩ : ∃ W,(w.alloc (.cells #[.slice a m cap] 24)).alloc (.cells #[.int .i64 0, .int .i64 0] 30)=W:=⟨_,rfl⟩
 have hB:Below w.heap.size w W:=by rw [← hW]; exact Below.alloc1 (Below.alloc1 (Below.refl _ _) _ (Nat.le_refl _)) _ (Nat.le_refl _)
 have hQ:RowIs W (w.heap.size+1) #[.int .i64 0, .int .i64 0] 30:=by rw [← hW]; exact heap_new_at _ _ _ (by simp)
 have hR:RowIs W w.heap.size #[.slice a m cap] 24:=by rw [← hW]; exact RowIs.alloc (heap_new_at _ _ _ rfl) _
 have r0:W.cell? ⟨w.heap.size,0,none⟩=some (.slice a m cap):=RowIs.cell hR 0
 have rz:w.heap.size<W.heap.size:=hR.lt
 have HF:=Lib.hid (fun (x:World) (h:Below w.heap.size w x)=>hf.below h)
 have HP:=Lib.hid (fun (x:World) (h:Below w.heap.size w x)=>Cells.below hp h)
 have HQ:=Lib.hid hQ
 have HB:=Lib.hid hB
 have hzW:=hB.size
 by_cases hE:tableE m f=0
 ·have hO:=okay_of hE
  have HD:=Lib.hid (newDesks_yes_c a m (f 0).n cap f W (hf.below hB) hO)
  obtain ⟨n,hn⟩ : ∃ n,(f 0).n=n:=⟨_,rfl⟩
  rw [hn] at hO HD
  have HO:=Lib.hid hO
  have HN:=Lib.hid (fun (x:World) (h:Below w.heap.size w x)=>newPlan_c a m n cap f pa len pcap p x (hf.below h) hO (Cells.below hp h) hl)
  have Hn:=Lib.hid hn
  by_cases hL:planE len m p=0
  ·obtain ⟨hlen,hb,hs⟩:=plan_ok hL
   subst hlen
   have Hv:=Lib.hid (show sureR len f len p=(ratN (sureN f len n p) (sumI p len),ratD (sureN f len n p) (sumI p len),0) by unfold sureR; rw [if_neg (by simp [hE]),if_neg (by simp [hL]),hn])
   have hpb : ∀ i,i<len→0≤padF p len i∧padF p len i≤100000000:=fun i hi=>by rw [pad_in i hi]; exact hb i hi
   have es:sumI (padF p len) len=sumI p len:=sumI_same fun i hi=>pad_in i hi
   have HS:=Lib.hid (fun (x:World) (h:Below w.heap.size w x)=>sure_c a len n cap f (padF p len) x (hf.below h) hO hpb (by rw [es]; exact hs))
   rw [es,sureN_same hO.n1 (fun i hi=>pad_in i hi)] at HS
   rw [planP_yes hL,hL] at HN
   obtain ⟨N,hN⟩ : ∃ N,ratN (sureN f len n p) (sumI p len)=N:=⟨_,rfl⟩
   obtain ⟨d,hd⟩ : ∃ d,ratD (sureN f len n p) (sumI p len)=d:=⟨_,rfl⟩
   unfold ratV at HS
   rw [hN,hd] at HS Hv
   rw [Hv.out]
   clear hf hp hB hQ hR hE hL hO hb hs hn hpb es hN hd
   go_enter Try.func19,Try.ntmps19
   go_wp2_with fail
   refine HD.out.mono ?_
   rintro e w1 ⟨⟨L,f',rfl,hT',g1,g2⟩,hb1⟩
   clear hW HD r0
   obtain ⟨X,hX⟩ : ∃ X,(w1.alloc (.cells #[.slice a len cap] 73)).alloc (.cells #[.slice (some ⟨L,0,none⟩) n n] 73)=X:=⟨_,rfl⟩
   have hXb:Below w1.heap.size w1 X:=by rw [← hX]; exact Below.alloc1 (Below.alloc1 (Below.refl _ _) _ (Nat.le_refl _)) _ (Nat.le_refl _)
   have hX1:RowIs X w1.heap.size #[.slice a len cap] 73:=by rw [← hX]; exact RowIs.alloc (heap_new_at _ _ _ rfl) _
   have hX2:RowIs X (w1.heap.size+1) #[.slice (some ⟨L,0,none⟩) n n] 73:=by rw [← hX]; exact heap_new_at _ _ _ (by simp)
   have hBX:Below w.heap.size w X:=bup (bup HB.out hb1) hXb
   have hQX:=(HQ.out.below hb1).below hXb
   have x0:X.cell? ⟨w1.heap.size,0,none⟩=some (.slice a len cap):=RowIs.cell hX1 0
   have xz:=hX1.lt
   have x2:X.cell? ⟨w1.heap.size+1,0,none⟩=some (.slice (some ⟨L,0,none⟩) n n):=RowIs.cell hX2 0
   have xz2:=hX2.lt
   have HX1:=Lib.hid hX1
   have HX2:=Lib.hid hX2
   have HBX:=Lib.hid hBX
   have HQX:=Lib.hid hQX
   have hz1:W.heap.size≤w1.heap.size:=hb1.size
   clear hX1 hX2 hBX hQX hXb hb1 hT' g1 g2 x2 xz2
   go_wp2_with fail
   refine (HN.out _ HBX.out).mono ?_
   rintro e w2 ⟨rfl,hb2⟩
   clear hX x0
   obtain ⟨Y,hY⟩ : ∃ Y,w2.alloc (.cells #[.int .i64 (padF p len 0), .int .i64 (padF p len 1), .int .i64 (padF p len 2), .int .i64 (padF p len 3)] 77)=Y:=⟨_,rfl⟩
   have hYb:Below w2.heap.size w2 Y:=by rw [← hY]; exact Below.alloc1 (Below.refl _ _) _ (Nat.le_refl _)
   have hYr:RowIs Y w2.heap.size (planRow (padF p len)) 77:=by rw [← hY]; exact heap_new_at _ _ _ rfl
   obtain ⟨⟨p0,p1,p2,p3⟩,pz⟩:=row4 hYr
   have hY1:=(HX1.out.below hb2).below hYb
   have s0:Y.cell? ⟨w1.heap.size,0,none⟩=some (.slice a len cap):=RowIs.cell hY1 0
   have sz:=hY1.lt
   have HBY:=Lib.hid (bup (bup HBX.out hb2) hYb)
   have HQY:=Lib.hid ((HQX.out.below hb2).below hYb)
   clear hYb hYr hY1 hb2
   go_wp2_with fail
   refine (HS.out _ HBY.out).mono ?_
   rintro e w3 ⟨rfl,hb3⟩
   have HB3:=Lib.hid (bup HBY.out hb3)
   have HQ3:=Lib.hid (HQY.out.below hb3)
   clear hY p0 p1 p2 p3 s0 hb3
   have q0:=RowIs.cell HQ3.out 0
   have q1:=RowIs.cell HQ3.out 1
   have z0:=RowIs.frozen HQ3.out 0
   have z1:=RowIs.frozen HQ3.out 1
   have qz:=HQ3.out.lt
   simp at q0 q1
   go_wp2_with fail
   have hQ4:=(HQ3.out.set 0 (.int .i64 N)).set 1 (.int .i64 d)
   have y0:=RowIs.cell hQ4 0
   have y1:=RowIs.cell hQ4 1
   simp at y0 y1
   exact bodyPost_ret (v:=re2 (N,d,0)) (by simp [results,Try.results19,go_sem,y0,y1]) rfl ⟨rfl,(HB3.out.setCell (p:=⟨w.heap.size+1,0,none⟩) (by show w.heap.size≤w.heap.size+1; omega) _).setCell (p:=⟨w.heap.size+1,1,none⟩) (by show w.heap.size≤w.heap.size+1; omega) _⟩
  ·have Hv:=Lib.hid (show sureR m f len p=(0,0,planE len m p) by unfold sureR; rw [if_neg (by simp [hE]),if_pos hL])
   have t0:(planE len m p != 0)=true:=by simpa using hL
   rw [planP_no hL] at HN
   obtain ⟨E,hE2⟩ : ∃ E,planE len m p=E:=⟨_,rfl⟩
   rw [hE2] at HN Hv t0
   rw [Hv.out]
   clear hf hp hB hQ hR hE hL hO hn hE2
   go_enter Try.func19,Try.ntmps19
   go_wp2_with fail
   refine HD.out.mono ?_
   rintro e w1 ⟨⟨L,f',rfl,hT',g1,g2⟩,hb1⟩
   clear hW HD r0
   obtain ⟨X,hX⟩ : ∃ X,(w1.alloc (.cells #[.slice a m cap] 73)).alloc (.cells #[.slice (some ⟨L,0,none⟩) n n] 73)=X:=⟨_,rfl⟩
   have hXb:Below w1.heap.size w1 X:=by rw [← hX]; exact Below.alloc1 (Below.alloc1 (Below.refl _ _) _ (Nat.le_refl _)) _ (Nat.le_refl _)
   have hX1:RowIs X w1.heap.size #[.slice a m cap] 73:=by rw [← hX]; exact RowIs.alloc (heap_new_at _ _ _ rfl) _
   have hX2:RowIs X (w1.heap.size+1) #[.slice (some ⟨L,0,none⟩) n n] 73:=by rw [← hX]; exact heap_new_at _ _ _ (by simp)
   have hBX:Below w.heap.size w X:=bup (bup HB.out hb1) hXb
   have hQX:=(HQ.out.below hb1).below hXb
   have x0:X.cell? ⟨w1.heap.size,0,none⟩=some (.slice a m cap):=RowIs.cell hX1 0
   have xz:=hX1.lt
   have x2:X.cell? ⟨w1.heap.size+1,0,none⟩=some (.slice (some ⟨L,0,none⟩) n n):=RowIs.cell hX2 0
   have xz2:=hX2.lt
   have HX1:=Lib.hid hX1
   have HX2:=Lib.hid hX2
   have HBX:=Lib.hid hBX
   have HQX:=Lib.hid hQX
   have hz1:W.heap.size≤w1.heap.size:=hb1.size
   clear hX1 hX2 hBX hQX hXb hb1 hT' g1 g2 x2 xz2
   go_wp2_with fail
   refine (HN.out _ HBX.out).mono ?_
   rintro e w2 ⟨rfl,hb2⟩
   clear hX x0
   have HQY:=Lib.hid (HQX.out.below hb2)
   have HBY:=Lib.hid (bup HBX.out hb2)
   clear hb2
   have q0:=RowIs.cell HQY.out 0
   have q1:=RowIs.cell HQY.out 1
   have z0:=RowIs.frozen HQY.out 0
   have z1:=RowIs.frozen HQY.out 1
   have qz:=HQY.out.lt
   simp at q0 q1
   go_wp2_with fail
   have hQ4:=((HQY.out.set 0 (.int .i64 0)).set 1 (.int .i64 0)).alloc (.cells #[.int .i64 0, .int .i64 0, .int .i64 0, .int .i64 0] 77)
   have y0:=RowIs.cell hQ4 0
   have y1:=RowIs.cell hQ4 1
   simp at y0 y1
   exact bodyPost_ret (v:=re2 (0,0,E)) (by simp [results,Try.results19,go_sem,y0,y1]) rfl ⟨rfl,Below.alloc1 ((HBY.out.setCell (p:=⟨w.heap.size+1,0,none⟩) (by show w.heap.size≤w.heap.size+1; omega) _).setCell (p:=⟨w.heap.size+1,1,none⟩) (by show w.heap.size≤w.heap.size+1; omega) _) _ (Nat.le_refl _)⟩
 ·have Hv:=Lib.hid (show sureR m f len p=(0,0,tableE m f) by unfold sureR; rw [if_pos hE])
  have HD:=Lib.hid (newDesks_no_c a m cap f W (hf.below hB) hm hr hE)
  have t0:(tableE m f != 0)=true:=by simpa using hE
  obtain ⟨E,hE2⟩ : ∃ E,tableE m f=E:=⟨_,rfl⟩
  rw [hE2] at HD Hv t0
  rw [Hv.out]
  clear hf hp hB hQ hR hE hE2
  go_enter Try.func19,Try.ntmps19
  go_wp2_with fail
  refine HD.out.mono ?_
  rintro e w1 ⟨rfl,hb1⟩
  clear hW HD r0
  have HQX:=Lib.hid (((HQ.out.below hb1).alloc (.cells #[.slice none 0 0] 73)).alloc (.cells #[.slice none 0 0] 73))
  have HBX:=Lib.hid (Below.alloc1 (Below.alloc1 (bup HB.out hb1) (.cells #[.slice none 0 0] 73) (Nat.le_refl _)) (.cells #[.slice none 0 0] 73) (Nat.le_refl _))
  clear hb1
  have q0:=RowIs.cell HQX.out 0
  have q1:=RowIs.cell HQX.out 1
  have z0:=RowIs.frozen HQX.out 0
  have z1:=RowIs.frozen HQX.out 1
  have qz:=HQX.out.lt
  simp at q0 q1
  go_wp2_with fail
  have hQ4:=(HQX.out.set 0 (.int .i64 0)).set 1 (.int .i64 0)
  have y0:=RowIs.cell hQ4 0
  have y1:=RowIs.cell hQ4 1
  simp at y0 y1
  exact bodyPost_ret (v:=re2 (0,0,E)) (by simp [results,Try.results19,go_sem,y0,y1]) rfl ⟨rfl,(HBX.out.setCell (p:=⟨w.heap.size+1,0,none⟩) (by show w.heap.size≤w.heap.size+1; omega) _).setCell (p:=⟨w.heap.size+1,1,none⟩) (by show w.heap.size≤w.heap.size+1; omega) _⟩
end Go.Proofs.Ytkbbhihndigmeaa
