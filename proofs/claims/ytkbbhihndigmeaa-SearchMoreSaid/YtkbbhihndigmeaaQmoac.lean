/- The law SearchMore answers true: without a row a table has no greater value, without a column no lesser one, and with a greater loss no lesser one. Written by tools/law3more.py. -/
import Derived.Shelf.Abstract
import Derived.Shelf.RegionOpen
import Derived.Conc.Own4
import Derived.Test.YtkbbhihndigmeaaQmoaa
import Derived.Test.YtkbbhihndigmeaaBasac
import Derived.Test.YtkbbhihndigmeaaQmoab
namespace Go.Proofs.Ytkbbhihndigmeaa
open Go Go.RowKit Go.Shelf
theorem cutV {p:Prop} (H:Nat→World→Prop) {Q2:Nat→Nat→Nat→Option Addr→Nat→Option Addr→Nat→World→Prop} (main:(∀ b r k p1 q1 p2 q2 y,H b y→Q2 b r k p1 q1 p2 q2 y)→p) (fin : ∀ b r k p1 q1 p2 q2 y,H b y→Q2 b r k p1 q1 p2 q2 y):p:=main fin
set_option maxRecDepth 100000 in
set_option maxHeartbeats 16000000 in
theorem law_more_c (a:Option Addr) (m cap:Nat) (f:Nat→Row3) (z y q:Int) (w:World) (hf:Tab w a m f) (hz:0≤z∧z≤255) (hy:0≤y∧y≤255) (hq:0≤q∧q≤255) :
 Calls Try.prog 14 #[tabV a m cap, .int .u8 z, .int .u8 y, .int .u8 q] w fun e w'=>e = .returned (.bool true)∧Below w.heap.size w w':=by
 obtain ⟨W,hW⟩ : ∃ W,w.alloc (.cells #[.slice a m cap] 24)=W:=⟨_,rfl⟩
 have hB:Below w.heap.size w W:=by rw [← hW]; exact Below.alloc1 (Below.refl _ _) _ (Nat.le_refl _)
 have R1:=Lib.hid (show RowIs W w.heap.size #[.slice a m cap] 24 by rw [← hW]; exact heap_new_at _ _ _ rfl)
 have H1:=Lib.hid (hf.below hB)
 have B1:=Lib.hid hB
 clear hf hB
 cases hT:fineB m f with
 | false=>
   have HF:=Lib.hid hT
   clear hT
   go_enter Try.func14,Try.ntmps14
   have cc1:W.cell? ⟨w.heap.size,0,none⟩=some (.slice a m cap):=RowIs.cell R1.out 0
   have zz2:w.heap.size<W.heap.size:=RowIs.lt R1.out
   go_wp2_with fail
   clear cc1 zz2 hW
   refine (fine_c a m cap f _ H1.out).mono ?_
   rintro e w3 ⟨rfl,hbq⟩
   replace R1:=Lib.hid (RowIs.below R1.out hbq)
   replace H1:=Lib.hid (H1.out.below hbq)
   replace B1:=Lib.hid (bup B1.out hbq)
   clear hbq
   rw [HF.out]
   have cc4:w3.cell? ⟨w.heap.size,0,none⟩=some (.slice a m cap):=RowIs.cell R1.out 0
   have zz5:w.heap.size<w3.heap.size:=RowIs.lt R1.out
   go_wp2_with fail
   clear cc4 zz5
   refine (works_c _).mono ?_
   rintro e w6 ⟨rfl,hbq⟩
   go_wp2_with fail
   go_ret
   exact ⟨rfl,bup B1.out hbq⟩
 | true=>
   have HF:=Lib.hid hT
   have hE:tableE m f=0:=of_decide_eq_true hT
   have hO:=okay_of hE
   obtain ⟨n,hn⟩ : ∃ n,(f 0).n=n:=⟨_,rfl⟩
   rw [hn] at hO
   have hm4:=hO.m4
   have hm1:=hO.m1
   have hn4:=hO.n4
   have hn1:=hO.n1
   have hm2:m≤1048576:=by omega
   have hr2 : ∀ i,i<m→(f i).n≤1048576:=fun i hi=>by rw [hO.len i hi]; omega
   have KO:=Lib.hid hO
   have RR:=Lib.hid hr2
   have HN:=Lib.hid hn
   have KE:=Lib.hid hE
   obtain ⟨tb,ofs,ha0,htb, -⟩:=Tab.at H1.out 0 (by omega)
   subst ha0
   obtain ⟨v1,hv1⟩ : ∃ v1,(valOf (lossA f) m n).1=v1:=⟨_,rfl⟩
   obtain ⟨v2,hv2⟩ : ∃ v2,(valOf (lossA f) m n).2=v2:=⟨_,rfl⟩
   have V1:=Lib.hid hv1
   have V2:=Lib.hid hv2
   clear hE hT hO hr2 hn hv1 hv2
   obtain ⟨i,hjr⟩ : ∃ jr:Nat,z % (m:Int)=jr:=⟨(z % (m:Int)).toNat,by have:=Int.emod_nonneg z (show (m:Int) ≠ 0 by omega); omega⟩
   have him:i<m:=by have:=Int.emod_lt_of_pos z (show (0:Int)<(m:Int) by omega); omega
   obtain ⟨k,hjc⟩ : ∃ jc:Nat,y % (n:Int)=jc:=⟨(y % (n:Int)).toNat,by have:=Int.emod_nonneg y (show (n:Int) ≠ 0 by omega); omega⟩
   have hkn:k<n:=by have:=Int.emod_lt_of_pos y (show (0:Int)<(n:Int) by omega); omega
   have htr:Int.tmod z (m:Int)=i:=by rw [Int.tmod_eq_emod_of_nonneg hz.1]; exact hjr
   have htc:Int.tmod y (n:Int)=k:=by rw [Int.tmod_eq_emod_of_nonneg hy.1]; exact hjc
   have hmz : ¬ m=0:=by omega
   have hnz : ¬ n=0:=by omega
   have hmi : ¬ (m:Int)=0:=by omega
   have hni : ¬ (n:Int)=0:=by omega
   obtain ⟨G,hG⟩ : ∃ G,moreG (lossA f) i k q=G:=⟨_,rfl⟩
   have GE:=Lib.hid hG
   clear hG
   go_enter Try.func14,Try.ntmps14
   have cc7:W.cell? ⟨w.heap.size,0,none⟩=some (.slice (some ⟨tb,ofs,none⟩) m cap):=RowIs.cell R1.out 0
   have zz8:w.heap.size<W.heap.size:=RowIs.lt R1.out
   go_wp2_with fail
   clear cc7 zz8 hW
   refine (fine_c (some ⟨tb,ofs,none⟩) m cap f _ H1.out).mono ?_
   rintro e w9 ⟨rfl,hbq⟩
   replace R1:=Lib.hid (RowIs.below R1.out hbq)
   replace H1:=Lib.hid (H1.out.below hbq)
   replace B1:=Lib.hid (bup B1.out hbq)
   clear hbq
   rw [HF.out]
   have cc10:w9.cell? ⟨w.heap.size,0,none⟩=some (.slice (some ⟨tb,ofs,none⟩) m cap):=RowIs.cell R1.out 0
   have zz11:w.heap.size<w9.heap.size:=RowIs.lt R1.out
   obtain ⟨rw12,rz13⟩:w9.cell? ⟨tb,ofs,none⟩=some (.slice (f 0).a n (f 0).cap)∧tb<w9.heap.size:=by
    obtain ⟨b2,o2,e2,hz2,hc2⟩:=Tab.at H1.out 0 (by omega)
    obtain ⟨rfl,rfl⟩:b2=tb∧o2=ofs:=by injection e2 with he; injection he with h1 h2 _; exact ⟨h1.symm,h2.symm⟩
    have:=hc2 0 (by omega)
    rw [Nat.add_zero,HN.out] at this
    exact ⟨this,hz2⟩
   have hlc14:=fun (x:Later w9)=>later_cell x
   go_wp2_with fail
   refine wp_region_later (by kernel_rfl) (by kernel_rfl) ?_
   repeat (go_big_quiet_step (fail))
   refine wpQuiet_nil ?_
   clear hlc14
   clear cc10 zz11 rw12 rz13
   rintro ⟨w15,hbl16⟩
   replace R1:=Lib.hid (RowIs.below R1.out hbl16)
   replace H1:=Lib.hid (H1.out.below hbl16)
   replace B1:=Lib.hid (bup B1.out hbl16)
   have cc17:w15.cell? ⟨w.heap.size,0,none⟩=some (.slice (some ⟨tb,ofs,none⟩) m cap):=RowIs.cell R1.out 0
   have zz18:w.heap.size<w15.heap.size:=RowIs.lt R1.out
   have hlc19:=fun (x:Later w15)=>later_cell x
   go_wp2_with fail
   refine wp_region_later (by kernel_rfl) (by kernel_rfl) ?_
   repeat (go_big_quiet_step (fail))
   refine wpQuiet_nil ?_
   clear hlc19
   clear hbl16 cc17 zz18
   rintro ⟨w20,hbl21⟩
   replace R1:=Lib.hid (RowIs.below R1.out hbl21)
   replace H1:=Lib.hid (H1.out.below hbl21)
   replace B1:=Lib.hid (bup B1.out hbl21)
   clear hjr hjc htr htc
   have cc22:w20.cell? ⟨w.heap.size,0,none⟩=some (.slice (some ⟨tb,ofs,none⟩) m cap):=RowIs.cell R1.out 0
   have zz23:w.heap.size<w20.heap.size:=RowIs.lt R1.out
   go_wp2_with fail
   clear hbl21 cc22 zz23
   refine (value_c (some ⟨tb,ofs,none⟩) m n cap f _ H1.out KO.out).mono ?_
   rintro e w24 ⟨hres,hbq⟩
   obtain ⟨gr,xr,gk,xk,hbr,hbc,rfl,hrr,hrk⟩:=hres
   rw [V1.out,V2.out]
   replace R1:=Lib.hid (RowIs.below R1.out hbq)
   replace H1:=Lib.hid (H1.out.below hbq)
   replace B1:=Lib.hid (bup B1.out hbq)
   clear hbq
   have BR1:=Lib.hid hbr
   have BC1:=Lib.hid hbc
   have Ggr:=Lib.hid hrr
   have Ggk:=Lib.hid hrk
   clear hbr hbc hrr hrk
   obtain ⟨Y25,hY25⟩ : ∃ Y25,w24.alloc (.cells #[.int .i64 v1, .int .i64 v2] 30)=Y25:=⟨_,rfl⟩
   have hb26:Below w24.heap.size w24 Y25:=by rw [← hY25]; exact Below.alloc1 (Below.refl _ _) _ (Nat.le_refl _)
   have hr27:RowIs Y25 w24.heap.size #[.int .i64 v1, .int .i64 v2] 30:=by rw [← hY25]; exact heap_new_at _ _ _ rfl
   replace R1:=Lib.hid (RowIs.below R1.out hb26)
   replace H1:=Lib.hid (H1.out.below hb26)
   replace Ggr:=Lib.hid (RowIs.below Ggr.out hb26)
   replace Ggk:=Lib.hid (RowIs.below Ggk.out hb26)
   replace B1:=Lib.hid (bup B1.out hb26)
   have QV:=Lib.hid hr27
   clear hb26 hr27
   have cc28:Y25.cell? ⟨w.heap.size,0,none⟩=some (.slice (some ⟨tb,ofs,none⟩) m cap):=RowIs.cell R1.out 0
   have zz29:w.heap.size<Y25.heap.size:=RowIs.lt R1.out
   have hsm:=val_small KO.out BR1.out
   rw [V1.out,V2.out] at hsm
   have VS:=Lib.hid hsm
   clear hsm
   have hTC : ∀ x,Below Y25.heap.size Y25 x→tb<x.heap.size ∧ ∀ i,i<m→x.cell? ⟨tb,ofs+i,none⟩=some (.slice (f i).a n (f i).cap):=fun x hx=>by
    obtain ⟨b2,o2,e2,hz2,hc2⟩:=Tab.at (H1.out.below hx) 0 (by omega)
    obtain ⟨rfl,rfl⟩:b2=tb∧o2=ofs:=by injection e2 with he; injection he with h1 h2 _; exact ⟨h1.symm,h2.symm⟩
    exact ⟨hz2,fun i hi=>by rw [hc2 i hi,KO.out.len i hi]⟩
   have hRC : ∀ i,i<m → ∃ rb ro,(f i).a=some ⟨rb,ro,none⟩ ∧ ∀ x,Below Y25.heap.size Y25 x→rb<x.heap.size ∧ ∀ q,q<n→x.cell? ⟨rb,ro+q,none⟩=some (.int .i64 ((f i).g q)):=fun i hi=>by
    obtain ⟨rb,ro,hra,hrz, -⟩:=Cells.at (H1.out.2 i hi) 0 (by rw [KO.out.len i hi]; omega)
    refine ⟨rb,ro,hra,fun x hx => ?_⟩
    obtain ⟨b2,o2,e2,hz2,hc2⟩:=Cells.at ((H1.out.below hx).2 i hi) 0 (by rw [KO.out.len i hi]; omega)
    obtain ⟨rfl,rfl⟩:b2=rb∧o2=ro:=by rw [hra] at e2; injection e2 with he; injection he with h1 h2 _; exact ⟨h1.symm,h2.symm⟩
    exact ⟨hz2,fun q hq=>hc2 q (by rw [KO.out.len i hi]; exact hq)⟩
   have HTC:=Lib.hid hTC
   have HRC:=Lib.hid hRC
   clear hTC hRC
   obtain ⟨Y,hY⟩ : ∃ Y,Y25.alloc (.cells #[.slice none 0 0] 24)=Y:=⟨_,rfl⟩
   have BY:=Lib.hid (show Below Y25.heap.size Y25 Y by rw [← hY]; exact Below.alloc1 (Below.refl _ _) _ (Nat.le_refl _))
   have RX:=Lib.hid (show RowIs Y (Y25.heap.size) #[.slice none 0 0] 24 by rw [← hY]; exact heap_new_at _ _ _ rfl)
   go_wp2_with fail
   clear hY25 cc28 zz29 hY
   go_loopw [18,20] (fun x c wr=> ∃ a:Nat,a≤m∧c = .int .i64 a ∧ ∃ L v,L.length=a∧OwnV 25 wr (Y25.heap.size+1) L v∧(∀ j,j<a→OwnV 2 wr (Y25.heap.size+1) (numL (G j) n) (L.getD j undef))∧Own wr (Y25.heap.size+1) (butL i a) x∧RowIs wr (Y25.heap.size) #[v] 24∧Below Y25.heap.size Y25 wr) (fun _ c _=>m-(intOf c).toNat)
   case atStart=>exact ⟨0,Nat.zero_le _,rfl,[],_,rfl,ownV_nil _ _ _,fun j hj=>absurd hj (Nat.not_lt_zero _),own_nil _ _,RX.out,BY.out⟩
   case round=>
    obtain ⟨a,ha,rfl,L,v,hL,hv,hrows,hown,hs,hb⟩:=hrel
    have hr:=R1.out.below hb
    have r0:wr.cell? ⟨w.heap.size,0,none⟩=some (.slice (some ⟨tb,ofs,none⟩) m cap):=RowIs.cell hr 0
    have rz:w.heap.size<wr.heap.size:=hr.lt
    have Hs:=Lib.hid hs
    have Hv:=Lib.hid hv
    have Hb:=Lib.hid hb
    have Hrows:=Lib.hid hrows
    have HL:=Lib.hid hL
    have HO:=Lib.hid hown
    clear hs hv hb hrows hL hr hown
    by_cases hlt:a<m
    ·skip
     obtain ⟨rb,ro,hra,hrc⟩:=HRC.out a hlt
     have HRD:=Lib.hid hrc
     clear hrc
     have hTA : ∀ y,Below wr.heap.size wr y→Below Y25.heap.size Y25 y:=fun y hy=>bup Hb.out hy
     have HTA:=Lib.hid hTA
     clear hTA
     go_wp2_with fail
     clear r0 rz
     refine RC.wp_region_runF (C:=fun y=>Below wr.heap.size wr y) (fun y=>Below wr.heap.size wr y) (by kernel_rfl) (stable_below wr) (Below.refl _ _) ?_
     change RC.Run _ _ _ _ _ 8 _ _ _
     refine RC.run_take (i:=1) (.pointer (some ⟨w.heap.size,0,none⟩)) rfl (by kernel_rfl) (by kernel_rfl) (by kernel_rfl) rfl (fun y h=>h) (fun y hy=>by have hw:=HTA.out y hy; have k0:=R1.out.below hw; have q0:=RowIs.cell k0 0; have qz:=RowIs.lt k0; obtain ⟨z1,e1⟩:=HTC.out y hw; have e2:=e1 a hlt; rw [hra] at e2; clear e1; go_simp) ?_
     simp only [puts]
     refine RC.run_take (i:=2) (.slice (some ⟨tb,ofs,none⟩) m cap) rfl (by kernel_rfl) (by kernel_rfl) (by kernel_rfl) rfl (fun y h=>h) (fun y hy=>by have hw:=HTA.out y hy; have k0:=R1.out.below hw; have q0:=RowIs.cell k0 0; have qz:=RowIs.lt k0; obtain ⟨z1,e1⟩:=HTC.out y hw; have e2:=e1 a hlt; rw [hra] at e2; clear e1; go_simp) ?_
     simp only [puts]
     refine RC.run_take (i:=3) (.int .i64 a) rfl (by kernel_rfl) (by kernel_rfl) (by kernel_rfl) rfl (fun y h=>h) (fun y hy=>by go_simp) ?_
     simp only [puts]
     refine RC.run_take (i:=4) (.pointer (some ⟨tb,ofs+a,none⟩)) rfl (by kernel_rfl) (by kernel_rfl) (by kernel_rfl) rfl (fun y h=>h) (fun y hy=>by have hw:=HTA.out y hy; have k0:=R1.out.below hw; have q0:=RowIs.cell k0 0; have qz:=RowIs.lt k0; obtain ⟨z1,e1⟩:=HTC.out y hw; have e2:=e1 a hlt; rw [hra] at e2; clear e1; go_simp) ?_
     simp only [puts]
     refine RC.run_take (i:=5) (.slice (some ⟨rb,ro,none⟩) n (f a).cap) rfl (by kernel_rfl) (by kernel_rfl) (by kernel_rfl) rfl (fun y h=>h) (fun y hy=>by have hw:=HTA.out y hy; have k0:=R1.out.below hw; have q0:=RowIs.cell k0 0; have qz:=RowIs.lt k0; obtain ⟨z1,e1⟩:=HTC.out y hw; have e2:=e1 a hlt; rw [hra] at e2; clear e1; go_simp) ?_
     simp only [puts]
     refine RC.run_only (i:=0) (by kernel_rfl) (RC.at_quiet (.slice none 0 0) rfl (quiet_call (fn:=56) (args := #[.slice none 0 0]) (by rfl) (fun y hy=>(Go.Conc.run_call_body (fn:=Try.f56) rfl Try.func56 (by kernel_rfl) (by kernel_rfl)).trans (by simp [Act.eval])) (fun y hy=>(longs_c _ _ _ y).mono (by rintro e y1 ⟨rfl,rfl⟩; exact ⟨rfl,Below.refl _ _⟩))) ?_)
     simp only [puts]
     refine RC.run_only (i:=6) (by kernel_rfl) (RC.at_upd (fun v y=>Below wr.heap.size wr y∧OwnV 2 y wr.heap.size (numL (f a).g n) v) rfl rfl (fun v y y1 h hb=>⟨h.1.trans (hb.mono h.1.size),h.2.below hb⟩) (fun v y h=>h.1) (fun y hy => ?_) ?_)
     ·obtain ⟨v',A',hrun,ho,hbl⟩:=app64L (news:=numL (f a).g n) (n:=n) (cap:=(f a).cap) (ad:=⟨rb,ro,none⟩) (ownV_nil 2 y wr.heap.size) (numL_len _ _) (fun j u hu=>by
          by_cases h:j<n
          ·rw [numL_get _ _ _ h] at hu
           obtain rfl:=Option.some.inj hu
           rw [addr_plainS]
           exact (HRD.out y (HTA.out y hy)).2 j h
          ·rw [List.getElem?_eq_none (by rw [numL_len]; omega)] at hu
           cases hu) (numL_one _ _) hy.size (by simp) (by omega)
      exact ⟨v',A',exec_app _ _ _ rfl _ _ rfl rfl hrun,hy.trans hbl,by rw [List.nil_append] at ho; exact ho⟩
     rintro ln ⟨_, -⟩
     simp only [puts]
     refine RC.run_quiet (i:=7) ln (by kernel_rfl) rfl rfl (fun y hy=>by go_simp) ?_
     simp only [puts]
     refine ⟨by kernel_rfl,fun y hy => ?_⟩
     obtain ⟨hby,hln⟩:=hy
     obtain ⟨gl,cl,hlf,hgl⟩:=own_form hln (by rw [numL_len]; omega)
     rw [numL_len] at hlf
     subst hlf
     by_cases hai:a=i
     ·subst hai
      obtain ⟨l0,hl0⟩ : ∃ l0,(f a).g k=l0:=⟨_,rfl⟩
      have hown2:y.ownsRow wr.heap.size 2 1 (.slice (some ⟨gl,0,none⟩) n cl) n (numL (f a).g n):=by
       have h:=hln
       unfold OwnV at h
       rwa [numL_len] at h
      have c0:y.cell? ⟨gl,k,none⟩=some (.int .i64 l0):=by rw [hown2.cellAt k (by omega),numL_get _ _ _ hkn,hl0]
      have f0:=hown2.frozenAt k
      have hgw:wr.heap.size≤gl:=(hln.lt (g:=gl) rfl).1
      have hlb:=KO.out.num a hlt k hkn
      rw [hl0] at hlb
      have hwq:IntKind.i64.wrap (l0+q)=l0+q:=IntWalk.i64_in _ (by omega)
      have hkz:k<n:=hkn
      by_cases hle:(100:Int)≤l0+q
      ·skip
       have hnv:min 100 (l0+q)=100:=by omega
       obtain ⟨o1, -⟩:=hown2.stored k (.int .i64 100)
       obtain ⟨V,hV⟩ : ∃ V,y.setCell ⟨gl,k,none⟩ (.int .i64 100)=V:=⟨_,rfl⟩
       have hbV:Below wr.heap.size wr V:=hby.trans (by rw [← hV]; exact (Below.refl _ _).setCell (p:=⟨gl,k,none⟩) hgw _)
       have hlV:OwnV 2 V (Y25.heap.size+1) (numL (G a) n) (.slice (some ⟨gl,0,none⟩) n cl):=by
        have e:=more_set (A:=lossA f) (i:=a) (q:=q) hkn
        rw [show lossA f a k=l0 from hl0,hnv,GE.out] at e
        rw [hV,show (numL (f a).g n).set k (.int .i64 100)=numL (G a) n from e] at o1
        have h2:OwnV 2 V wr.heap.size (numL (G a) n) (.slice (some ⟨gl,0,none⟩) n cl):=by unfold OwnV; rw [numL_len]; exact o1
        exact h2.base Hs.out.lt
       have HLN:=Lib.hid hlV
       have Hs2:=Lib.hid (Hs.out.below hbV)
       have Hv2:=Lib.hid (Hv.out.below hbV)
       have Hrows2:=Lib.hid (fun l (hl:l<a)=>(Hrows.out l hl).below hbV)
       have HO2:=Lib.hid (show Own V (Y25.heap.size+1) (butL a (a+1)) u18 by rw [but_same rfl]; exact HO.out.below hbV)
       have Hb2:=Lib.hid (bup Hb.out hbV)
       clear hlV hbV hown2 o1 hby hln hl0 hnv
       obtain ⟨vp,vc,hvf, -⟩:=Hv2.out.form
       rw [HL.out] at hvf
       have s0:V.cell? ⟨Y25.heap.size,0,none⟩=some v:=RowIs.cell Hs2.out 0
       have hsz:Y25.heap.size<V.heap.size:=Hs2.out.lt
       obtain ⟨Y2,hY2⟩ : ∃ Y2,V.alloc (.cells #[.slice (some ⟨gl,0,none⟩) n cl] 25)=Y2:=⟨_,rfl⟩
       have hyb2:Below V.heap.size V Y2:=by rw [← hY2]; exact Below.alloc1 (Below.refl _ _) _ (Nat.le_refl _)
       have hyr:RowIs Y2 V.heap.size #[.slice (some ⟨gl,0,none⟩) n cl] 25:=by rw [← hY2]; exact heap_new_at _ _ _ rfl
       have hDX:(Y25.heap.size+1)≤V.heap.size:=Hs2.out.lt
       obtain ⟨v',Z,hrun,ho,hgz,hbz, -⟩:=appS64 (Hv2.out.below hyb2) (.slice (some ⟨gl,0,none⟩) n cl) V.heap.size (hyr.cell 0) rfl (Nat.le_trans hDX hyb2.size) (by rw [HL.out]; omega)
       have hvY:=Hv2.out.below hyb2
       have hsZ:=hvY.other hgz (Hs2.out.below hyb2) (by decide)
       have hlnZ:=hvY.keep hgz (HLN.out.below hyb2) (by decide)
       have hoZ:=hvY.keep hgz (HO2.out.toV.below hyb2) (by decide)
       have hlZ : ∀ l,l<a→OwnV 2 Z (Y25.heap.size+1) (numL (G l) n) (L.getD l undef):=fun l hl=>hvY.keep hgz ((Hrows2.out l hl).below hyb2) (by decide)
       have hbZ:Below Y25.heap.size Y25 Z:=(bup Hb2.out hyb2).trans (hbz.mono (by omega))
       have hfz:Z.frozen? ⟨Y25.heap.size,0,none⟩=false:=hsZ.frozen 0
       have hcz:Z.cell? ⟨Y25.heap.size,0,none⟩=some v:=hsZ.cell 0
       have hzz:Y25.heap.size<Z.heap.size:=hsZ.lt
       have HsZ:=Lib.hid hsZ
       have HuZ:=Lib.hid hlnZ
       have HlZ:=Lib.hid hlZ
       have HbZ:=Lib.hid hbZ
       have HoZ:=Lib.hid hoZ
       have Ho:=Lib.hid ho
       clear hyb2 hyr hvY hsZ hlnZ hlZ hbZ hoZ ho hgz hbz hDX
       obtain ⟨np,nc,hnf, -⟩:=Ho.out.form
       rw [show (L ++ [(.slice (some ⟨gl,0,none⟩) n cl:Value)]).length=a+1 by simp [HL.out]] at hnf
       subst hnf
       subst hvf
       go_wp2_with (at_builtin; refine wpList_append_run rfl _ _ 22 rfl rfl rfl hrun ?_)
       clear hrun
       go_roundw
       case rel=>
        have hg:=getD_snoc (v:= .slice (some ⟨gl,0,none⟩) n cl) (d:=undef) HL.out
        refine ⟨a+1,by omega,by go_num,L ++ [.slice (some ⟨gl,0,none⟩) n cl], .slice np (a+1) nc,by simp [HL.out],Ho.out.far HsZ.out (by decide),?_,OwnV.toN (HoZ.out.far HsZ.out (by decide)),HsZ.out.set 0 _,HbZ.out.setCell (p:=⟨Y25.heap.size,0,none⟩) (Nat.le_refl _) _⟩
        intro l hl
        by_cases e:l=a
        ·subst e
         rw [hg.1]
         exact HuZ.out.far HsZ.out (by decide)
        ·rw [hg.2 l (by omega)]
         exact (HlZ.out l (by omega)).far HsZ.out (by decide)
       case measure=>simp [intOf]; omega
      ·skip
       have hnv:min 100 (l0+q)=(l0+q):=by omega
       obtain ⟨o1, -⟩:=hown2.stored k (.int .i64 (l0+q))
       obtain ⟨V,hV⟩ : ∃ V,y.setCell ⟨gl,k,none⟩ (.int .i64 (l0+q))=V:=⟨_,rfl⟩
       have hbV:Below wr.heap.size wr V:=hby.trans (by rw [← hV]; exact (Below.refl _ _).setCell (p:=⟨gl,k,none⟩) hgw _)
       have hlV:OwnV 2 V (Y25.heap.size+1) (numL (G a) n) (.slice (some ⟨gl,0,none⟩) n cl):=by
        have e:=more_set (A:=lossA f) (i:=a) (q:=q) hkn
        rw [show lossA f a k=l0 from hl0,hnv,GE.out] at e
        rw [hV,show (numL (f a).g n).set k (.int .i64 (l0+q))=numL (G a) n from e] at o1
        have h2:OwnV 2 V wr.heap.size (numL (G a) n) (.slice (some ⟨gl,0,none⟩) n cl):=by unfold OwnV; rw [numL_len]; exact o1
        exact h2.base Hs.out.lt
       have HLN:=Lib.hid hlV
       have Hs2:=Lib.hid (Hs.out.below hbV)
       have Hv2:=Lib.hid (Hv.out.below hbV)
       have Hrows2:=Lib.hid (fun l (hl:l<a)=>(Hrows.out l hl).below hbV)
       have HO2:=Lib.hid (show Own V (Y25.heap.size+1) (butL a (a+1)) u18 by rw [but_same rfl]; exact HO.out.below hbV)
       have Hb2:=Lib.hid (bup Hb.out hbV)
       clear hlV hbV hown2 o1 hby hln hl0 hnv
       obtain ⟨vp,vc,hvf, -⟩:=Hv2.out.form
       rw [HL.out] at hvf
       have s0:V.cell? ⟨Y25.heap.size,0,none⟩=some v:=RowIs.cell Hs2.out 0
       have hsz:Y25.heap.size<V.heap.size:=Hs2.out.lt
       obtain ⟨Y2,hY2⟩ : ∃ Y2,V.alloc (.cells #[.slice (some ⟨gl,0,none⟩) n cl] 25)=Y2:=⟨_,rfl⟩
       have hyb2:Below V.heap.size V Y2:=by rw [← hY2]; exact Below.alloc1 (Below.refl _ _) _ (Nat.le_refl _)
       have hyr:RowIs Y2 V.heap.size #[.slice (some ⟨gl,0,none⟩) n cl] 25:=by rw [← hY2]; exact heap_new_at _ _ _ rfl
       have hDX:(Y25.heap.size+1)≤V.heap.size:=Hs2.out.lt
       obtain ⟨v',Z,hrun,ho,hgz,hbz, -⟩:=appS64 (Hv2.out.below hyb2) (.slice (some ⟨gl,0,none⟩) n cl) V.heap.size (hyr.cell 0) rfl (Nat.le_trans hDX hyb2.size) (by rw [HL.out]; omega)
       have hvY:=Hv2.out.below hyb2
       have hsZ:=hvY.other hgz (Hs2.out.below hyb2) (by decide)
       have hlnZ:=hvY.keep hgz (HLN.out.below hyb2) (by decide)
       have hoZ:=hvY.keep hgz (HO2.out.toV.below hyb2) (by decide)
       have hlZ : ∀ l,l<a→OwnV 2 Z (Y25.heap.size+1) (numL (G l) n) (L.getD l undef):=fun l hl=>hvY.keep hgz ((Hrows2.out l hl).below hyb2) (by decide)
       have hbZ:Below Y25.heap.size Y25 Z:=(bup Hb2.out hyb2).trans (hbz.mono (by omega))
       have hfz:Z.frozen? ⟨Y25.heap.size,0,none⟩=false:=hsZ.frozen 0
       have hcz:Z.cell? ⟨Y25.heap.size,0,none⟩=some v:=hsZ.cell 0
       have hzz:Y25.heap.size<Z.heap.size:=hsZ.lt
       have HsZ:=Lib.hid hsZ
       have HuZ:=Lib.hid hlnZ
       have HlZ:=Lib.hid hlZ
       have HbZ:=Lib.hid hbZ
       have HoZ:=Lib.hid hoZ
       have Ho:=Lib.hid ho
       clear hyb2 hyr hvY hsZ hlnZ hlZ hbZ hoZ ho hgz hbz hDX
       obtain ⟨np,nc,hnf, -⟩:=Ho.out.form
       rw [show (L ++ [(.slice (some ⟨gl,0,none⟩) n cl:Value)]).length=a+1 by simp [HL.out]] at hnf
       subst hnf
       subst hvf
       go_wp2_with (at_builtin; refine wpList_append_run rfl _ _ 22 rfl rfl rfl hrun ?_)
       clear hrun
       go_roundw
       case rel=>
        have hg:=getD_snoc (v:= .slice (some ⟨gl,0,none⟩) n cl) (d:=undef) HL.out
        refine ⟨a+1,by omega,by go_num,L ++ [.slice (some ⟨gl,0,none⟩) n cl], .slice np (a+1) nc,by simp [HL.out],Ho.out.far HsZ.out (by decide),?_,OwnV.toN (HoZ.out.far HsZ.out (by decide)),HsZ.out.set 0 _,HbZ.out.setCell (p:=⟨Y25.heap.size,0,none⟩) (Nat.le_refl _) _⟩
        intro l hl
        by_cases e:l=a
        ·subst e
         rw [hg.1]
         exact HuZ.out.far HsZ.out (by decide)
        ·rw [hg.2 l (by omega)]
         exact (HlZ.out l (by omega)).far HsZ.out (by decide)
       case measure=>simp [intOf]; omega
     ·have hai2 : ¬ (a:Int)=(i:Int):=by omega
      have hai3:((a:Int)==(i:Int))=false:=by simpa using hai2
      have hlw:OwnV 2 y (Y25.heap.size+1) (numL (G a) n) (.slice (some ⟨gl,0,none⟩) n cl):=by rw [← GE.out,more_row hai]; exact hln.base Hs.out.lt
      have hoY:=HO.out.below hby
      obtain ⟨Y3,hY3⟩ : ∃ Y3,y.alloc (.cells #[.int .i64 (a:Int)] 3)=Y3:=⟨_,rfl⟩
      have hyb3:Below y.heap.size y Y3:=by rw [← hY3]; exact Below.alloc1 (Below.refl _ _) _ (Nat.le_refl _)
      have hyr3:RowIs Y3 y.heap.size #[.int .i64 (a:Int)] 3:=by rw [← hY3]; exact heap_new_at _ _ _ rfl
      have hDy:(Y25.heap.size+1)≤y.heap.size:=Nat.le_trans Hs.out.lt hby.size
      obtain ⟨vr,V,hrun3,ho3,hg3,hb3⟩:=(hoY.below hyb3).append y.heap.size a hyr3 (Nat.le_trans hDy hyb3.size) (by have:=rising_len (but_rising i a); omega)
      rw [← but_more hai] at ho3
      have hV3:=hoY.below hyb3
      have HLN:=Lib.hid (OwnV.keep hV3.toV hg3 (hlw.below hyb3) (by decide))
      have Hs2:=Lib.hid (OwnV.other hV3.toV hg3 ((Hs.out.below hby).below hyb3) (by decide))
      have Hv2:=Lib.hid (OwnV.keep hV3.toV hg3 ((Hv.out.below hby).below hyb3) (by decide))
      have Hrows2:=Lib.hid (fun l (hl:l<a)=>OwnV.keep hV3.toV hg3 (((Hrows.out l hl).below hby).below hyb3) (by decide))
      have HO2:=Lib.hid ho3
      have Hb2:=Lib.hid (show Below Y25.heap.size Y25 V from (bup Hb.out (hby.trans (hyb3.mono hby.size))).trans (hb3.mono (Nat.le_succ _)))
      clear hlw hoY hyb3 hyr3 ho3 hg3 hb3 hV3 hby hln hDy
      skip
      obtain ⟨vp,vc,hvf, -⟩:=Hv2.out.form
      rw [HL.out] at hvf
      have s0:V.cell? ⟨Y25.heap.size,0,none⟩=some v:=RowIs.cell Hs2.out 0
      have hsz:Y25.heap.size<V.heap.size:=Hs2.out.lt
      obtain ⟨Y2,hY2⟩ : ∃ Y2,V.alloc (.cells #[.slice (some ⟨gl,0,none⟩) n cl] 25)=Y2:=⟨_,rfl⟩
      have hyb2:Below V.heap.size V Y2:=by rw [← hY2]; exact Below.alloc1 (Below.refl _ _) _ (Nat.le_refl _)
      have hyr:RowIs Y2 V.heap.size #[.slice (some ⟨gl,0,none⟩) n cl] 25:=by rw [← hY2]; exact heap_new_at _ _ _ rfl
      have hDX:(Y25.heap.size+1)≤V.heap.size:=Hs2.out.lt
      obtain ⟨v',Z,hrun,ho,hgz,hbz, -⟩:=appS64 (Hv2.out.below hyb2) (.slice (some ⟨gl,0,none⟩) n cl) V.heap.size (hyr.cell 0) rfl (Nat.le_trans hDX hyb2.size) (by rw [HL.out]; omega)
      have hvY:=Hv2.out.below hyb2
      have hsZ:=hvY.other hgz (Hs2.out.below hyb2) (by decide)
      have hlnZ:=hvY.keep hgz (HLN.out.below hyb2) (by decide)
      have hoZ:=hvY.keep hgz (HO2.out.toV.below hyb2) (by decide)
      have hlZ : ∀ l,l<a→OwnV 2 Z (Y25.heap.size+1) (numL (G l) n) (L.getD l undef):=fun l hl=>hvY.keep hgz ((Hrows2.out l hl).below hyb2) (by decide)
      have hbZ:Below Y25.heap.size Y25 Z:=(bup Hb2.out hyb2).trans (hbz.mono (by omega))
      have hfz:Z.frozen? ⟨Y25.heap.size,0,none⟩=false:=hsZ.frozen 0
      have hcz:Z.cell? ⟨Y25.heap.size,0,none⟩=some v:=hsZ.cell 0
      have hzz:Y25.heap.size<Z.heap.size:=hsZ.lt
      have HsZ:=Lib.hid hsZ
      have HuZ:=Lib.hid hlnZ
      have HlZ:=Lib.hid hlZ
      have HbZ:=Lib.hid hbZ
      have HoZ:=Lib.hid hoZ
      have Ho:=Lib.hid ho
      clear hyb2 hyr hvY hsZ hlnZ hlZ hbZ hoZ ho hgz hbz hDX
      obtain ⟨np,nc,hnf, -⟩:=Ho.out.form
      rw [show (L ++ [(.slice (some ⟨gl,0,none⟩) n cl:Value)]).length=a+1 by simp [HL.out]] at hnf
      subst hnf
      subst hvf
      go_wp2_with (at_builtin; first | (refine wpList_append_run rfl _ _ 42 rfl rfl rfl hrun3 ?_) | (refine wpList_append_run rfl _ _ 22 rfl rfl rfl hrun ?_))
      clear hrun
      go_roundw
      case rel=>
       have hg:=getD_snoc (v:= .slice (some ⟨gl,0,none⟩) n cl) (d:=undef) HL.out
       refine ⟨a+1,by omega,by go_num,L ++ [.slice (some ⟨gl,0,none⟩) n cl], .slice np (a+1) nc,by simp [HL.out],Ho.out.far HsZ.out (by decide),?_,OwnV.toN (HoZ.out.far HsZ.out (by decide)),HsZ.out.set 0 _,HbZ.out.setCell (p:=⟨Y25.heap.size,0,none⟩) (Nat.le_refl _) _⟩
       intro l hl
       by_cases e:l=a
       ·subst e
        rw [hg.1]
        exact HuZ.out.far HsZ.out (by decide)
       ·rw [hg.2 l (by omega)]
        exact (HlZ.out l (by omega)).far HsZ.out (by decide)
      case measure=>simp [intOf]; omega
    ·obtain rfl:m=a:=by omega
     obtain ⟨X,hX⟩ : ∃ X:World,X=wr:=⟨_,rfl⟩
     subst hX
     obtain ⟨xp,xc,f',e1,h1,h2,h3,h4,h5, -⟩:=tab_ownG HL.out Hv.out Hrows.out
     subst e1
     obtain ⟨rp,rc,er,hrl, -⟩:=HO.out.lst
     subst er
     have hO2:Okay m n f':=⟨hm1,hm4,hn1,hn4,fun j _=>h4 j,fun a ha c hc=>by rw [h5, ← GE.out]; exact (more_bd KO.out hq.1 a c ha hc).2⟩
     have HE:=Lib.hid (show ∀ a c,(f' a).g c=moreG (lossA f) i k q a c from fun a c=>by rw [h5,GE.out])
     have KX:=Lib.hid hO2
     have HX:=Lib.hid h3
     have HRL:=Lib.hid hrl
     have RX2:=Lib.hid Hs.out
     have hb:=Hb.out
     clear h1 h2 h3 h4 h5 hO2 hrl Hs Hv Hb Hrows HL HO HTC HRC RX BY r0 rz
     replace R1:=Lib.hid (RowIs.below R1.out hb)
     replace H1:=Lib.hid (H1.out.below hb)
     replace Ggr:=Lib.hid (RowIs.below Ggr.out hb)
     replace Ggk:=Lib.hid (RowIs.below Ggk.out hb)
     replace QV:=Lib.hid (RowIs.below QV.out hb)
     replace B1:=Lib.hid (bup B1.out hb)
     clear hb
     go_wp2_with fail
     go_loopw [19,22] (fun x c wz=> ∃ b:Nat,b≤n∧c = .int .i64 b∧Own wz X.heap.size (butL k b) x∧Below X.heap.size X wz) (fun _ c _=>n-(intOf c).toNat)
     case atStart=>exact ⟨0,Nat.zero_le _,rfl,own_nil _ _,Below.refl _ _⟩
     case round=>
      obtain ⟨b,hb,rfl,ho,hbw⟩:=hrel
      have HOB:=Lib.hid ho
      have HBW:=Lib.hid hbw
      clear ho hbw
      by_cases hlt:b<n
      ·by_cases hbk:b=k
       ·subst hbk
        go_wp2_with fail
        go_roundw
        case rel=>exact ⟨b+1,by omega,by go_num,by rw [but_same rfl]; exact HOB.out,HBW.out⟩
        case measure=>simp [intOf]; omega
       ·have hb2 : ¬ (b:Int)=(k:Int):=by omega
        have hb3:((b:Int) != (k:Int))=true:=by simpa using hb2
        obtain ⟨Y3,hY3⟩ : ∃ Y3,wr.alloc (.cells #[.int .i64 (b:Int)] 3)=Y3:=⟨_,rfl⟩
        have hyb3:Below wr.heap.size wr Y3:=by rw [← hY3]; exact Below.alloc1 (Below.refl _ _) _ (Nat.le_refl _)
        have hyr3:RowIs Y3 wr.heap.size #[.int .i64 (b:Int)] 3:=by rw [← hY3]; exact heap_new_at _ _ _ rfl
        obtain ⟨vr,V,hrun3,ho3, -,hb4⟩:=(HOB.out.below hyb3).append wr.heap.size b hyr3 (Nat.le_trans HBW.out.size hyb3.size) (by have:=rising_len (but_rising k b); omega)
        rw [← but_more hbk] at ho3
        have HO3:=Lib.hid ho3
        have HB3:=Lib.hid ((HBW.out.trans (hyb3.mono HBW.out.size)).trans hb4)
        clear hyb3 hyr3 ho3 hb4
        go_wp2_with (at_builtin; refine wpList_append_run rfl _ _ 42 rfl rfl rfl hrun3 ?_)
        clear hrun3
        go_roundw
        case rel=>exact ⟨b+1,by omega,by go_num,HO3.out,HB3.out⟩
        case measure=>simp [intOf]; omega
      ·obtain rfl:n=b:=by omega
       obtain ⟨cp,cc,er,hcl, -⟩:=HOB.out.lst
       subst er
       have HCL:=Lib.hid hcl
       have hb:=HBW.out
       clear hcl HOB HBW
       replace R1:=Lib.hid (RowIs.below R1.out hb)
       replace H1:=Lib.hid (H1.out.below hb)
       replace Ggr:=Lib.hid (RowIs.below Ggr.out hb)
       replace Ggk:=Lib.hid (RowIs.below Ggk.out hb)
       replace QV:=Lib.hid (RowIs.below QV.out hb)
       replace HX:=Lib.hid (HX.out.below hb)
       replace RX2:=Lib.hid (RowIs.below RX2.out hb)
       replace HRL:=Lib.hid (HRL.out.below hb)
       replace B1:=Lib.hid (bup B1.out hb)
       clear hb
       have cc30:wr.cell? ⟨w.heap.size,0,none⟩=some (.slice (some ⟨tb,ofs,none⟩) m cap):=RowIs.cell R1.out 0
       have zz31:w.heap.size<wr.heap.size:=RowIs.lt R1.out
       have cc32:wr.cell? ⟨Y25.heap.size,0,none⟩=some (.slice xp m xc):=RowIs.cell RX2.out 0
       have zz33:Y25.heap.size<wr.heap.size:=RowIs.lt RX2.out
       obtain ⟨w1,hw1⟩ : ∃ w1,(valOf (lossA f') m n).1=w1:=⟨_,rfl⟩
       obtain ⟨w2,hw2⟩ : ∃ w2,(valOf (lossA f') m n).2=w2:=⟨_,rfl⟩
       have W1E:=Lib.hid hw1
       have W2E:=Lib.hid hw2
       have hml:=more_lt KO.out KX.out hq.1 HE.out
       rw [hw1,hw2,V1.out,V2.out] at hml
       have hfx:=val_fit KX.out
       rw [hw1,hw2] at hfx
       obtain ⟨x1,x2,x3,x4, -, -⟩:=hfx
       obtain ⟨y1,y2,y3,y4, -, -⟩:=VS.out
       have hle:=fun (x:World)=>less_fit w1 w2 v1 v2 x x1 x2 x3 x4 y1 y2 y3 y4
       rw [hml] at hle
       have CL:=Lib.hid hle
       clear hle hml x1 x2 x3 x4 y1 y2 y3 y4 hw1 hw2
       go_wp2_with fail
       clear cc30 zz31 cc32 zz33
       refine (value_c xp m n xc f' _ HX.out KX.out).mono ?_
       rintro e w34 ⟨hres,hbq⟩
       obtain ⟨gr2,xr2,gk2,xk2,hbr,hbc,rfl,hrr,hrk⟩:=hres
       rw [W1E.out,W2E.out]
       replace R1:=Lib.hid (RowIs.below R1.out hbq)
       replace H1:=Lib.hid (H1.out.below hbq)
       replace Ggr:=Lib.hid (RowIs.below Ggr.out hbq)
       replace Ggk:=Lib.hid (RowIs.below Ggk.out hbq)
       replace QV:=Lib.hid (RowIs.below QV.out hbq)
       replace HX:=Lib.hid (HX.out.below hbq)
       replace RX2:=Lib.hid (RowIs.below RX2.out hbq)
       replace HRL:=Lib.hid (HRL.out.below hbq)
       replace HCL:=Lib.hid (HCL.out.below hbq)
       replace B1:=Lib.hid (bup B1.out hbq)
       clear hbq
       have BR2:=Lib.hid hbr
       have BC2:=Lib.hid hbc
       have Ggr2:=Lib.hid hrr
       have Ggk2:=Lib.hid hrk
       clear hbr hbc hrr hrk
       obtain ⟨Y35,hY35⟩ : ∃ Y35,w34.alloc (.cells #[.int .i64 w1, .int .i64 w2] 30)=Y35:=⟨_,rfl⟩
       have hb36:Below w34.heap.size w34 Y35:=by rw [← hY35]; exact Below.alloc1 (Below.refl _ _) _ (Nat.le_refl _)
       have hr37:RowIs Y35 w34.heap.size #[.int .i64 w1, .int .i64 w2] 30:=by rw [← hY35]; exact heap_new_at _ _ _ rfl
       replace R1:=Lib.hid (RowIs.below R1.out hb36)
       replace H1:=Lib.hid (H1.out.below hb36)
       replace Ggr:=Lib.hid (RowIs.below Ggr.out hb36)
       replace Ggk:=Lib.hid (RowIs.below Ggk.out hb36)
       replace QV:=Lib.hid (RowIs.below QV.out hb36)
       replace HX:=Lib.hid (HX.out.below hb36)
       replace RX2:=Lib.hid (RowIs.below RX2.out hb36)
       replace HRL:=Lib.hid (HRL.out.below hb36)
       replace HCL:=Lib.hid (HCL.out.below hb36)
       replace Ggr2:=Lib.hid (RowIs.below Ggr2.out hb36)
       replace Ggk2:=Lib.hid (RowIs.below Ggk2.out hb36)
       replace B1:=Lib.hid (bup B1.out hb36)
       have QW:=Lib.hid hr37
       clear hb36 hr37
       have cc38:Y35.cell? ⟨w.heap.size,0,none⟩=some (.slice (some ⟨tb,ofs,none⟩) m cap):=RowIs.cell R1.out 0
       have zz39:w.heap.size<Y35.heap.size:=RowIs.lt R1.out
       have cc40:Y35.cell? ⟨Y25.heap.size,0,none⟩=some (.slice xp m xc):=RowIs.cell RX2.out 0
       have zz41:Y25.heap.size<Y35.heap.size:=RowIs.lt RX2.out
       have cc42:Y35.cell? ⟨w24.heap.size,0,none⟩=some (.int .i64 v1):=RowIs.cell QV.out 0
       have cc43:Y35.cell? ⟨w24.heap.size,1,none⟩=some (.int .i64 v2):=RowIs.cell QV.out 1
       have zz44:w24.heap.size<Y35.heap.size:=RowIs.lt QV.out
       have cc45:Y35.cell? ⟨w34.heap.size,0,none⟩=some (.int .i64 w1):=RowIs.cell QW.out 0
       have cc46:Y35.cell? ⟨w34.heap.size,1,none⟩=some (.int .i64 w2):=RowIs.cell QW.out 1
       have zz47:w34.heap.size<Y35.heap.size:=RowIs.lt QW.out
       go_wp2_with fail
       clear hY35 cc38 zz39 cc40 zz41 cc42 cc43 zz44 cc45 cc46 zz47
       refine (CL.out _).mono ?_
       rintro e w48 ⟨rfl,hbq⟩
       replace R1:=Lib.hid (RowIs.below R1.out hbq)
       replace H1:=Lib.hid (H1.out.below hbq)
       replace Ggr:=Lib.hid (RowIs.below Ggr.out hbq)
       replace Ggk:=Lib.hid (RowIs.below Ggk.out hbq)
       replace QV:=Lib.hid (RowIs.below QV.out hbq)
       replace HX:=Lib.hid (HX.out.below hbq)
       replace RX2:=Lib.hid (RowIs.below RX2.out hbq)
       replace HRL:=Lib.hid (HRL.out.below hbq)
       replace HCL:=Lib.hid (HCL.out.below hbq)
       replace Ggr2:=Lib.hid (RowIs.below Ggr2.out hbq)
       replace Ggk2:=Lib.hid (RowIs.below Ggk2.out hbq)
       replace QW:=Lib.hid (RowIs.below QW.out hbq)
       replace B1:=Lib.hid (bup B1.out hbq)
       clear hbq
       clear CL
       have cc49:w48.cell? ⟨w.heap.size,0,none⟩=some (.slice (some ⟨tb,ofs,none⟩) m cap):=RowIs.cell R1.out 0
       have zz50:w.heap.size<w48.heap.size:=RowIs.lt R1.out
       have cc51:w48.cell? ⟨Y25.heap.size,0,none⟩=some (.slice xp m xc):=RowIs.cell RX2.out 0
       have zz52:Y25.heap.size<w48.heap.size:=RowIs.lt RX2.out
       obtain ⟨pn1,pn2⟩:=pow_wrap n hn4
       obtain ⟨pm1,pm2⟩:=pow_wrap m hm4
       have SN:=Lib.hid (sub_rising (List.Sublist.refl (List.range n)))
       have SM:=Lib.hid (sub_rising (List.Sublist.refl (List.range m)))
       have SR:=Lib.hid (but_rising i m)
       have SC:=Lib.hid (but_rising k n)
       by_cases hm:1<m
       ·have hm3:(1:Int)<(m:Int):=by omega
        have hm5:decide ((1:Int)<(m:Int))=true:=decide_eq_true hm3
        have hm6:decide (1<m)=true:=decide_eq_true hm
        obtain ⟨u1,u2,uv,ua,ub,uc,ud,ue,uf⟩:=sub_val KO.out (R:=butL i m) (C:=List.range n) SR.out SN.out (but_some hm) (by rw [List.length_range]; exact hn1)
        have hlt2:=rows_lt KO.out SR.out uv
        rw [V1.out,V2.out] at hlt2
        obtain ⟨y1,y2,y3,y4, -, -⟩:=VS.out
        have hle:=fun (x:World)=>less_fit v1 v2 u1 u2 x y1 y2 y3 y4 ua ub uc ud
        rw [hlt2] at hle
        have CL:=Lib.hid hle
        have UV:=Lib.hid uv
        have UE:=Lib.hid ue
        have UF:=Lib.hid uf
        clear hle hlt2 y1 y2 y3 y4 ua ub uc ud uv ue uf
        go_wp2_with fail
        clear cc49 zz50 cc51 zz52
        apply cutV (fun b y=>Below w48.heap.size w48 y∧RowIs y b #[.int .i64 u1, .int .i64 u2] 30)
        case main=>
         intro fin
         refine RC.wp_region_runF (C:=fun y=>Below w48.heap.size w48 y) (fun y=>Below w48.heap.size w48 y∧True) (by kernel_rfl) (fun _ _ h hb=>⟨h.1.trans (hb.mono h.1.size),trivial⟩) ⟨Below.refl _ _,trivial⟩ ?_
         change RC.Run _ _ _ _ _ 19 _ _ _
         refine RC.run_take (i:=0) (tabV (some ⟨tb,ofs,none⟩) m cap) rfl (by kernel_rfl) (by kernel_rfl) (by kernel_rfl) rfl (fun y h=>h.1) (fun y hy=>by have k0:=R1.out.below hy; have q0:=RowIs.cell k0 0; have qz:=RowIs.lt k0; go_simp) ?_
         simp only [puts]
         refine RC.run_take (i:=1) (.slice rp (butL i m).length rc) rfl (by kernel_rfl) (by kernel_rfl) (by kernel_rfl) rfl (fun y h=>h.1) (fun y hy=>by have k0:=R1.out.below hy; have q0:=RowIs.cell k0 0; have qz:=RowIs.lt k0; go_simp) ?_
         simp only [puts]
         refine RC.run_take (i:=2) (.int .i64 n) rfl (by kernel_rfl) (by kernel_rfl) (by kernel_rfl) rfl (fun y h=>h.1) (fun y hy=>by have k0:=R1.out.below hy; have q0:=RowIs.cell k0 0; have qz:=RowIs.lt k0; go_simp) ?_
         simp only [puts]
         refine RC.run_take (i:=3) (.int .i64 ((2:Int) ^ n)) rfl (by kernel_rfl) (by kernel_rfl) (by kernel_rfl) rfl (fun y h=>h.1) (fun y hy=>by have k0:=R1.out.below hy; have q0:=RowIs.cell k0 0; have qz:=RowIs.lt k0; go_simp) ?_
         simp only [puts]
         refine RC.run_take (i:=4) (.int .i64 ((2 ^ n-1:Nat):Int)) rfl (by kernel_rfl) (by kernel_rfl) (by kernel_rfl) rfl (fun y h=>h.1) (fun y hy=>by have k0:=R1.out.below hy; have q0:=RowIs.cell k0 0; have qz:=RowIs.lt k0; go_simp) ?_
         simp only [puts]
         refine RC.run_take (i:=5) (.int .i64 n) rfl (by kernel_rfl) (by kernel_rfl) (by kernel_rfl) rfl (fun y h=>h.1) (fun y hy=>by have k0:=R1.out.below hy; have q0:=RowIs.cell k0 0; have qz:=RowIs.lt k0; go_simp) ?_
         simp only [puts]
         refine RC.runY_float (x:=14) (c:=10) (tx:=27) (z:= .cells #[.int .i64 0, .int .i64 0] 30 (0,0)) (w0:=w48) (g:=8) rfl rfl rfl (fun a y=>by go_simp) (Region.noSelect_spec (by kernel_rfl)) (by kernel_rfl) (by kernel_rfl) (by decide) (fun y h=>h.size) 4 _ _ _ (by kernel_rfl) (fun y h=>h.1) ?_
         refine RC.runY_call (i:=6) (fun v y=> ∃ p1 q1,v=(.slice p1 (List.range n).length q1:Value)∧(Below w48.heap.size w48 y∧True)∧Lst y (List.range n) p1 q1) (by kernel_rfl) (by kernel_rfl) (by kernel_rfl) rfl rfl (fun v y y1 ⟨p1,q1,e,h,h2⟩ hb=>⟨p1,q1,e,⟨(h).1.trans (hb.mono (h).1.size),trivial⟩,Lst.below h2 hb⟩) (fun v y ⟨_,_,_,h,_⟩=>h.1) (fun y hy => ?_) ?_
         ·have hy1:=hy.1
          have hLS:=rListed_c (2 ^ n-1) n y (by omega)
          rw [bitsL_full (by omega)] at hLS
          refine ⟨_, #[.int .i64 ((2 ^ n-1:Nat):Int), .int .i64 n],(Go.Conc.run_call_body (fn:=Try.f50) rfl Try.func50 (by kernel_rfl) (by kernel_rfl)).trans (by simp [Act.eval]),(hLS).mono ?_⟩
          rintro e y1 ⟨⟨p1,q1,rfl,hfact⟩,hb⟩
          exact ⟨⟨_,rfl,p1,q1,rfl,⟨(hy).1.trans (hb.mono (hy).1.size),trivial⟩,hfact⟩,hb⟩
         rintro v ⟨_,p1,q1,rfl, -⟩
         simp only [puts]
         refine RC.runY_mono _ _ _ (fun y=>((Below w48.heap.size w48 y∧True)∧Lst y (List.range n) p1 q1)) _ (by
          rintro y ⟨p1',q1',e,h1,h2⟩
          injection e with e1 _ e2
          subst e1 e2
          exact ⟨h1,h2⟩) ?_
         refine RC.runY_call (i:=7) (fun v y=> ∃ p2 q2,v=(tabV p2 (butL i m).length q2:Value)∧((Below w48.heap.size w48 y∧True)∧Lst y (List.range n) p1 q1) ∧ ∃ g,Tab y p2 (butL i m).length g∧(∀ jj,(g jj).n=(List.range n).length) ∧ ∀ ii,(g ii).g=fun jj=>lossA f ((butL i m).getD ii 0) ((List.range n).getD jj 0)) (by kernel_rfl) (by kernel_rfl) (by kernel_rfl) rfl rfl (fun v y y1 ⟨p2,q2,e,h,h2⟩ hb=>⟨p2,q2,e,⟨⟨(h.1).1.trans (hb.mono (h.1).1.size),trivial⟩,Lst.below (h).2 hb⟩,(let ⟨g,h1,h2⟩:=h2; ⟨g,Tab.below h1 hb,h2⟩)⟩) (fun v y ⟨_,_,_,h,_⟩=>h.1.1) (fun y hy => ?_) ?_
         ·have hy1:=hy.1.1
          refine ⟨_, #[tabV (some ⟨tb,ofs,none⟩) m cap, .slice rp (butL i m).length rc, .slice p1 (List.range n).length q1],(Go.Conc.run_call_body (fn:=Try.f49) rfl Try.func49 (by kernel_rfl) (by kernel_rfl)).trans (by simp [Act.eval]),(rPart_c (some ⟨tb,ofs,none⟩) m n cap f (butL i m) (List.range n) rp p1 rc q1 y (H1.out.below hy1) KO.out (HRL.out.below hy1) (hy.2) SR.out.2 SN.out.2 (Nat.le_trans (rising_len SR.out) hm4) (Nat.le_trans (rising_len SN.out) hn4)).mono ?_⟩
          rintro e y1 ⟨⟨p2,q2,g,rfl, -, -,hT,hl,hg⟩,hb⟩
          have hfact:=(⟨g,hT,hl,hg⟩ : ∃ g,Tab y1 p2 (butL i m).length g∧(∀ jj,(g jj).n=(List.range n).length) ∧ ∀ ii,(g ii).g=fun jj=>lossA f ((butL i m).getD ii 0) ((List.range n).getD jj 0))
          exact ⟨⟨_,rfl,p2,q2,rfl,⟨⟨(hy.1).1.trans (hb.mono (hy.1).1.size),trivial⟩,Lst.below (hy).2 hb⟩,hfact⟩,hb⟩
         rintro v ⟨_,p2,q2,rfl, -⟩
         simp only [puts]
         refine RC.runY_mono _ _ _ (fun y=>(((Below w48.heap.size w48 y∧True)∧Lst y (List.range n) p1 q1) ∧ ∃ g,Tab y p2 (butL i m).length g∧(∀ jj,(g jj).n=(List.range n).length) ∧ ∀ ii,(g ii).g=fun jj=>lossA f ((butL i m).getD ii 0) ((List.range n).getD jj 0))) _ (by
          rintro y ⟨p2',q2',e,h1,h2⟩
          injection e with e
          injection e with e
          injection e with e _
          injection e with e1 _ e2
          subst e1 e2
          exact ⟨h1,h2⟩) ?_
         refine RC.runY_call (i:=8) (fun v y=> ∃ r3 k3,v=(.tuple #[.agg #[.int .i64 u1, .int .i64 u2], .slice (some ⟨r3,0,none⟩) (butL i m).length (butL i m).length, .slice (some ⟨k3,0,none⟩) (List.range n).length (List.range n).length, .bool true]:Value)∧(((Below w48.heap.size w48 y∧True)∧Lst y (List.range n) p1 q1) ∧ ∃ g,Tab y p2 (butL i m).length g∧(∀ jj,(g jj).n=(List.range n).length) ∧ ∀ ii,(g ii).g=fun jj=>lossA f ((butL i m).getD ii 0) ((List.range n).getD jj 0))∧True) (by kernel_rfl) (by kernel_rfl) (by kernel_rfl) rfl rfl (fun v y y1 ⟨r3,k3,e,h,h2⟩ hb=>⟨r3,k3,e,⟨⟨⟨(h.1.1).1.trans (hb.mono (h.1.1).1.size),trivial⟩,Lst.below (h.1).2 hb⟩,(let ⟨g,h1,h2⟩:=(h).2; ⟨g,Tab.below h1 hb,h2⟩)⟩,trivial⟩) (fun v y ⟨_,_,_,h,_⟩=>h.1.1.1) (fun y hy => ?_) ?_
         ·have hy1:=hy.1.1.1
          obtain ⟨g,hT,hl,hg⟩:=hy.2
          have hok:=part_okay KO.out SR.out SN.out (by exact but_some hm) (by rw [List.length_range]; exact hn1) hl hg
          have hvl:=part_val hg (UV.out) UE.out UF.out
          refine ⟨_, #[tabV p2 (butL i m).length q2],(Go.Conc.run_call_body (fn:=Try.f41) rfl Try.func41 (by kernel_rfl) (by kernel_rfl)).trans (by simp [Act.eval]),(value_c p2 (butL i m).length (List.range n).length q2 g y hT hok).mono ?_⟩
          rintro e y1 ⟨⟨r3,xr3,k3,xk3, -, -,rfl, -, -⟩,hb⟩
          rw [hvl]
          have hfact:=trivial
          exact ⟨⟨_,rfl,r3,k3,rfl,⟨⟨⟨(hy.1.1).1.trans (hb.mono (hy.1.1).1.size),trivial⟩,Lst.below (hy.1).2 hb⟩,(let ⟨g,h1,h2⟩:=(hy).2; ⟨g,Tab.below h1 hb,h2⟩)⟩,hfact⟩,hb⟩
         rintro v ⟨_,r3,k3,rfl, -⟩
         simp only [puts]
         refine RC.runY_mono _ _ _ (fun y=>((((Below w48.heap.size w48 y∧True)∧Lst y (List.range n) p1 q1) ∧ ∃ g,Tab y p2 (butL i m).length g∧(∀ jj,(g jj).n=(List.range n).length) ∧ ∀ ii,(g ii).g=fun jj=>lossA f ((butL i m).getD ii 0) ((List.range n).getD jj 0))∧True)) _ (by
          rintro y ⟨r3',k3',e,h1,h2⟩
          simp only [Value.tuple.injEq,Array.mk.injEq,List.cons.injEq,Value.slice.injEq,Option.some.injEq,Addr.mk.injEq,true_and,and_true] at e
          obtain ⟨rfl,rfl⟩:=e
          exact ⟨h1,h2⟩) ?_
         refine RC.runY_quiet (i:=9) (.tuple #[.agg #[.int .i64 u1, .int .i64 u2], .slice (some ⟨r3,0,none⟩) (butL i m).length (butL i m).length, .slice (some ⟨k3,0,none⟩) (List.range n).length (List.range n).length, .bool true]) (by kernel_rfl) (by kernel_rfl) (by kernel_rfl) rfl (quiet_read rfl (fun y hy=>by go_simp)) ?_
         simp only [puts]
         refine ⟨?_,fun b hb0 => ?_⟩
         ·skip
          refine RC.run_take (i:=10) (.agg #[.int .i64 u1, .int .i64 u2]) rfl (by kernel_rfl) (by kernel_rfl) (by kernel_rfl) rfl (fun y h=>h.1.1.1.1) (fun y hy=>by go_simp) ?_
          simp only [puts]
          refine RC.run_take (i:=11) (.slice (some ⟨r3,0,none⟩) (butL i m).length (butL i m).length) rfl (by kernel_rfl) (by kernel_rfl) (by kernel_rfl) rfl (fun y h=>h.1.1.1.1) (fun y hy=>by go_simp) ?_
          simp only [puts]
          refine RC.run_take (i:=12) (.slice (some ⟨k3,0,none⟩) (List.range n).length (List.range n).length) rfl (by kernel_rfl) (by kernel_rfl) (by kernel_rfl) rfl (fun y h=>h.1.1.1.1) (fun y hy=>by go_simp) ?_
          simp only [puts]
          refine RC.run_take (i:=13) (.bool true) rfl (by kernel_rfl) (by kernel_rfl) (by kernel_rfl) rfl (fun y h=>h.1.1.1.1) (fun y hy=>by go_simp) ?_
          simp only [puts]
          refine RC.run_only (i:=14) (by kernel_rfl) (RC.at_make (w0:=w48) (t:=27) (z:= .cells #[.int .i64 0, .int .i64 0] 30 (0,0)) ptrTo (fun _=>False) ptrTo_inj rfl rfl rfl (fun y _=>by go_simp) (fun y h=>h.1.1.1.1.size) (fun _ _ _ h=>h.elim) ?_)
          intro b hb0 _
          simp only [puts]
          refine RC.run_store (i:=15) (fun y=>Below w48.heap.size w48 y∧RowIs y b #[.int .i64 u1, .int .i64 u2] 30) (by kernel_rfl) rfl rfl (fun y y1 h hb=>⟨h.1.trans (hb.mono h.1.size),h.2.below hb⟩) (fun y h=>h.1) (fun y hy => ?_) ?_
          ·obtain ⟨g0,g2⟩:=hy
           have g1:=g0.1.1.1.1
           have r4:RowIs y b #[.int .i64 0, .int .i64 0] 30:=g2
           have q0:=r4.cell 0
           have q1:=r4.cell 1
           have z0:=r4.frozen 0
           have z1:=r4.frozen 1
           have qz:=r4.lt
           simp at q0 q1
           exact ⟨(y.setCell ⟨b,0,none⟩ (.int .i64 u1)).setCell ⟨b,1,none⟩ (.int .i64 u2),by go_simp,(g1.setCell (p:=⟨b,0,none⟩) hb0 _).setCell (p:=⟨b,1,none⟩) hb0 _,(r4.set 0 _).set 1 _⟩
          simp only [puts]
          refine RC.run_take (i:=16) (.slice (some ⟨r3,0,none⟩) (butL i m).length (butL i m).length) rfl (by kernel_rfl) (by kernel_rfl) (by kernel_rfl) rfl (fun y h=>h.1) (fun y hy=>by go_simp) ?_
          simp only [puts]
          refine RC.run_take (i:=17) (.slice (some ⟨k3,0,none⟩) (List.range n).length (List.range n).length) rfl (by kernel_rfl) (by kernel_rfl) (by kernel_rfl) rfl (fun y h=>h.1) (fun y hy=>by go_simp) ?_
          simp only [puts]
          refine RC.run_take (i:=18) (.bool true) rfl (by kernel_rfl) (by kernel_rfl) (by kernel_rfl) rfl (fun y h=>h.1) (fun y hy=>by go_simp) ?_
          simp only [puts]
          exact ⟨by kernel_rfl,fun y hy=>fin b r3 k3 p1 q1 p2 q2 y hy⟩
         ·skip
          refine RC.run_take (i:=10) (.agg #[.int .i64 u1, .int .i64 u2]) rfl (by kernel_rfl) (by kernel_rfl) (by kernel_rfl) rfl (fun y h=>h.1.1.1.1.1) (fun y hy=>by go_simp) ?_
          simp only [puts]
          refine RC.run_take (i:=11) (.slice (some ⟨r3,0,none⟩) (butL i m).length (butL i m).length) rfl (by kernel_rfl) (by kernel_rfl) (by kernel_rfl) rfl (fun y h=>h.1.1.1.1.1) (fun y hy=>by go_simp) ?_
          simp only [puts]
          refine RC.run_take (i:=12) (.slice (some ⟨k3,0,none⟩) (List.range n).length (List.range n).length) rfl (by kernel_rfl) (by kernel_rfl) (by kernel_rfl) rfl (fun y h=>h.1.1.1.1.1) (fun y hy=>by go_simp) ?_
          simp only [puts]
          refine RC.run_take (i:=13) (.bool true) rfl (by kernel_rfl) (by kernel_rfl) (by kernel_rfl) rfl (fun y h=>h.1.1.1.1.1) (fun y hy=>by go_simp) ?_
          simp only [puts]
          refine RC.run_store (i:=15) (fun y=>Below w48.heap.size w48 y∧RowIs y b #[.int .i64 u1, .int .i64 u2] 30) (by kernel_rfl) rfl rfl (fun y y1 h hb=>⟨h.1.trans (hb.mono h.1.size),h.2.below hb⟩) (fun y h=>h.1) (fun y hy => ?_) ?_
          ·obtain ⟨g0,g2⟩:=hy
           have g1:=g0.1.1.1.1
           have r4:RowIs y b #[.int .i64 0, .int .i64 0] 30:=g2
           have q0:=r4.cell 0
           have q1:=r4.cell 1
           have z0:=r4.frozen 0
           have z1:=r4.frozen 1
           have qz:=r4.lt
           simp at q0 q1
           exact ⟨(y.setCell ⟨b,0,none⟩ (.int .i64 u1)).setCell ⟨b,1,none⟩ (.int .i64 u2),by go_simp,(g1.setCell (p:=⟨b,0,none⟩) hb0 _).setCell (p:=⟨b,1,none⟩) hb0 _,(r4.set 0 _).set 1 _⟩
          simp only [puts]
          refine RC.run_take (i:=16) (.slice (some ⟨r3,0,none⟩) (butL i m).length (butL i m).length) rfl (by kernel_rfl) (by kernel_rfl) (by kernel_rfl) rfl (fun y h=>h.1) (fun y hy=>by go_simp) ?_
          simp only [puts]
          refine RC.run_take (i:=17) (.slice (some ⟨k3,0,none⟩) (List.range n).length (List.range n).length) rfl (by kernel_rfl) (by kernel_rfl) (by kernel_rfl) rfl (fun y h=>h.1) (fun y hy=>by go_simp) ?_
          simp only [puts]
          refine RC.run_take (i:=18) (.bool true) rfl (by kernel_rfl) (by kernel_rfl) (by kernel_rfl) rfl (fun y h=>h.1) (fun y hy=>by go_simp) ?_
          simp only [puts]
          exact ⟨by kernel_rfl,fun y hy=>fin b r3 k3 p1 q1 p2 q2 y hy⟩
        case fin=>
         rintro b54 x55 x56 x57 x58 x59 x60 w53 ⟨hbq,hrow⟩
         replace R1:=Lib.hid (RowIs.below R1.out hbq)
         replace H1:=Lib.hid (H1.out.below hbq)
         replace Ggr:=Lib.hid (RowIs.below Ggr.out hbq)
         replace Ggk:=Lib.hid (RowIs.below Ggk.out hbq)
         replace QV:=Lib.hid (RowIs.below QV.out hbq)
         replace HX:=Lib.hid (HX.out.below hbq)
         replace RX2:=Lib.hid (RowIs.below RX2.out hbq)
         replace HRL:=Lib.hid (HRL.out.below hbq)
         replace HCL:=Lib.hid (HCL.out.below hbq)
         replace Ggr2:=Lib.hid (RowIs.below Ggr2.out hbq)
         replace Ggk2:=Lib.hid (RowIs.below Ggk2.out hbq)
         replace QW:=Lib.hid (RowIs.below QW.out hbq)
         replace B1:=Lib.hid (bup B1.out hbq)
         have QU:=Lib.hid hrow
         clear hbq hrow
         have cc61:w53.cell? ⟨w24.heap.size,0,none⟩=some (.int .i64 v1):=RowIs.cell QV.out 0
         have cc62:w53.cell? ⟨w24.heap.size,1,none⟩=some (.int .i64 v2):=RowIs.cell QV.out 1
         have zz63:w24.heap.size<w53.heap.size:=RowIs.lt QV.out
         have cc64:w53.cell? ⟨b54,0,none⟩=some (.int .i64 u1):=RowIs.cell QU.out 0
         have cc65:w53.cell? ⟨b54,1,none⟩=some (.int .i64 u2):=RowIs.cell QU.out 1
         have zz66:b54<w53.heap.size:=RowIs.lt QU.out
         go_wp2_with fail
         clear cc61 cc62 zz63 cc64 cc65 zz66
         refine (CL.out _).mono ?_
         rintro e w67 ⟨rfl,hbq⟩
         replace R1:=Lib.hid (RowIs.below R1.out hbq)
         replace H1:=Lib.hid (H1.out.below hbq)
         replace Ggr:=Lib.hid (RowIs.below Ggr.out hbq)
         replace Ggk:=Lib.hid (RowIs.below Ggk.out hbq)
         replace QV:=Lib.hid (RowIs.below QV.out hbq)
         replace HX:=Lib.hid (HX.out.below hbq)
         replace RX2:=Lib.hid (RowIs.below RX2.out hbq)
         replace HRL:=Lib.hid (HRL.out.below hbq)
         replace HCL:=Lib.hid (HCL.out.below hbq)
         replace Ggr2:=Lib.hid (RowIs.below Ggr2.out hbq)
         replace Ggk2:=Lib.hid (RowIs.below Ggk2.out hbq)
         replace QW:=Lib.hid (RowIs.below QW.out hbq)
         replace QU:=Lib.hid (RowIs.below QU.out hbq)
         replace B1:=Lib.hid (bup B1.out hbq)
         clear hbq
         clear CL UV UE UF
         have cc68:w67.cell? ⟨w.heap.size,0,none⟩=some (.slice (some ⟨tb,ofs,none⟩) m cap):=RowIs.cell R1.out 0
         have zz69:w.heap.size<w67.heap.size:=RowIs.lt R1.out
         have cc70:w67.cell? ⟨Y25.heap.size,0,none⟩=some (.slice xp m xc):=RowIs.cell RX2.out 0
         have zz71:Y25.heap.size<w67.heap.size:=RowIs.lt RX2.out
         by_cases hn:1<n
         ·have hn3:(1:Int)<(n:Int):=by omega
          have hn2:decide ((1:Int)<(n:Int))=true:=decide_eq_true hn3
          have hn5:decide (1<n)=true:=decide_eq_true hn
          obtain ⟨t1,t2,tv,ta,tb9,tc,td,te,tf⟩:=sub_val KO.out (R:=List.range m) (C:=butL k n) SM.out SC.out (by rw [List.length_range]; exact hm1) (but_some hn)
          have hlt2:=cols_lt KO.out SC.out tv
          rw [V1.out,V2.out] at hlt2
          obtain ⟨y1,y2,y3,y4, -, -⟩:=VS.out
          have hle:=fun (x:World)=>less_fit t1 t2 v1 v2 x ta tb9 tc td y1 y2 y3 y4
          rw [hlt2] at hle
          have CL:=Lib.hid hle
          have UV:=Lib.hid tv
          have UE:=Lib.hid te
          have UF:=Lib.hid tf
          clear hle hlt2 y1 y2 y3 y4 ta tb9 tc td tv te tf
          go_wp2_with fail
          clear cc68 zz69 cc70 zz71
          apply cutV (fun b y=>Below w67.heap.size w67 y∧RowIs y b #[.int .i64 t1, .int .i64 t2] 30)
          case main=>
           intro fin
           refine RC.wp_region_runF (C:=fun y=>Below w67.heap.size w67 y) (fun y=>Below w67.heap.size w67 y∧True) (by kernel_rfl) (fun _ _ h hb=>⟨h.1.trans (hb.mono h.1.size),trivial⟩) ⟨Below.refl _ _,trivial⟩ ?_
           change RC.Run _ _ _ _ _ 19 _ _ _
           refine RC.run_take (i:=0) (tabV (some ⟨tb,ofs,none⟩) m cap) rfl (by kernel_rfl) (by kernel_rfl) (by kernel_rfl) rfl (fun y h=>h.1) (fun y hy=>by have k0:=R1.out.below hy; have q0:=RowIs.cell k0 0; have qz:=RowIs.lt k0; go_simp) ?_
           simp only [puts]
           refine RC.run_take (i:=1) (.int .i64 m) rfl (by kernel_rfl) (by kernel_rfl) (by kernel_rfl) rfl (fun y h=>h.1) (fun y hy=>by have k0:=R1.out.below hy; have q0:=RowIs.cell k0 0; have qz:=RowIs.lt k0; go_simp) ?_
           simp only [puts]
           refine RC.run_take (i:=2) (.int .i64 ((2:Int) ^ m)) rfl (by kernel_rfl) (by kernel_rfl) (by kernel_rfl) rfl (fun y h=>h.1) (fun y hy=>by have k0:=R1.out.below hy; have q0:=RowIs.cell k0 0; have qz:=RowIs.lt k0; go_simp) ?_
           simp only [puts]
           refine RC.run_take (i:=3) (.int .i64 ((2 ^ m-1:Nat):Int)) rfl (by kernel_rfl) (by kernel_rfl) (by kernel_rfl) rfl (fun y h=>h.1) (fun y hy=>by have k0:=R1.out.below hy; have q0:=RowIs.cell k0 0; have qz:=RowIs.lt k0; go_simp) ?_
           simp only [puts]
           refine RC.run_take (i:=4) (.int .i64 m) rfl (by kernel_rfl) (by kernel_rfl) (by kernel_rfl) rfl (fun y h=>h.1) (fun y hy=>by have k0:=R1.out.below hy; have q0:=RowIs.cell k0 0; have qz:=RowIs.lt k0; go_simp) ?_
           simp only [puts]
           refine RC.run_take (i:=6) (.slice cp (butL k n).length cc) rfl (by kernel_rfl) (by kernel_rfl) (by kernel_rfl) rfl (fun y h=>h.1) (fun y hy=>by have k0:=R1.out.below hy; have q0:=RowIs.cell k0 0; have qz:=RowIs.lt k0; go_simp) ?_
           simp only [puts]
           refine RC.runY_float (x:=14) (c:=10) (tx:=31) (z:= .cells #[.int .i64 0, .int .i64 0] 30 (0,0)) (w0:=w67) (g:=8) rfl rfl rfl (fun a y=>by go_simp) (Region.noSelect_spec (by kernel_rfl)) (by kernel_rfl) (by kernel_rfl) (by decide) (fun y h=>h.size) 4 _ _ _ (by kernel_rfl) (fun y h=>h.1) ?_
           refine RC.runY_call (i:=5) (fun v y=> ∃ p1 q1,v=(.slice p1 (List.range m).length q1:Value)∧(Below w67.heap.size w67 y∧True)∧Lst y (List.range m) p1 q1) (by kernel_rfl) (by kernel_rfl) (by kernel_rfl) rfl rfl (fun v y y1 ⟨p1,q1,e,h,h2⟩ hb=>⟨p1,q1,e,⟨(h).1.trans (hb.mono (h).1.size),trivial⟩,Lst.below h2 hb⟩) (fun v y ⟨_,_,_,h,_⟩=>h.1) (fun y hy => ?_) ?_
           ·have hy1:=hy.1
            have hLS:=rListed_c (2 ^ m-1) m y (by omega)
            rw [bitsL_full (by omega)] at hLS
            refine ⟨_, #[.int .i64 ((2 ^ m-1:Nat):Int), .int .i64 m],(Go.Conc.run_call_body (fn:=Try.f50) rfl Try.func50 (by kernel_rfl) (by kernel_rfl)).trans (by simp [Act.eval]),(hLS).mono ?_⟩
            rintro e y1 ⟨⟨p1,q1,rfl,hfact⟩,hb⟩
            exact ⟨⟨_,rfl,p1,q1,rfl,⟨(hy).1.trans (hb.mono (hy).1.size),trivial⟩,hfact⟩,hb⟩
           rintro v ⟨_,p1,q1,rfl, -⟩
           simp only [puts]
           refine RC.runY_mono _ _ _ (fun y=>((Below w67.heap.size w67 y∧True)∧Lst y (List.range m) p1 q1)) _ (by
            rintro y ⟨p1',q1',e,h1,h2⟩
            injection e with e1 _ e2
            subst e1 e2
            exact ⟨h1,h2⟩) ?_
           refine RC.runY_call (i:=7) (fun v y=> ∃ p2 q2,v=(tabV p2 (List.range m).length q2:Value)∧((Below w67.heap.size w67 y∧True)∧Lst y (List.range m) p1 q1) ∧ ∃ g,Tab y p2 (List.range m).length g∧(∀ jj,(g jj).n=(butL k n).length) ∧ ∀ ii,(g ii).g=fun jj=>lossA f ((List.range m).getD ii 0) ((butL k n).getD jj 0)) (by kernel_rfl) (by kernel_rfl) (by kernel_rfl) rfl rfl (fun v y y1 ⟨p2,q2,e,h,h2⟩ hb=>⟨p2,q2,e,⟨⟨(h.1).1.trans (hb.mono (h.1).1.size),trivial⟩,Lst.below (h).2 hb⟩,(let ⟨g,h1,h2⟩:=h2; ⟨g,Tab.below h1 hb,h2⟩)⟩) (fun v y ⟨_,_,_,h,_⟩=>h.1.1) (fun y hy => ?_) ?_
           ·have hy1:=hy.1.1
            refine ⟨_, #[tabV (some ⟨tb,ofs,none⟩) m cap, .slice p1 (List.range m).length q1, .slice cp (butL k n).length cc],(Go.Conc.run_call_body (fn:=Try.f49) rfl Try.func49 (by kernel_rfl) (by kernel_rfl)).trans (by simp [Act.eval]),(rPart_c (some ⟨tb,ofs,none⟩) m n cap f (List.range m) (butL k n) p1 cp q1 cc y (H1.out.below hy1) KO.out (hy.2) (HCL.out.below hy1) SM.out.2 SC.out.2 (Nat.le_trans (rising_len SM.out) hm4) (Nat.le_trans (rising_len SC.out) hn4)).mono ?_⟩
            rintro e y1 ⟨⟨p2,q2,g,rfl, -, -,hT,hl,hg⟩,hb⟩
            have hfact:=(⟨g,hT,hl,hg⟩ : ∃ g,Tab y1 p2 (List.range m).length g∧(∀ jj,(g jj).n=(butL k n).length) ∧ ∀ ii,(g ii).g=fun jj=>lossA f ((List.range m).getD ii 0) ((butL k n).getD jj 0))
            exact ⟨⟨_,rfl,p2,q2,rfl,⟨⟨(hy.1).1.trans (hb.mono (hy.1).1.size),trivial⟩,Lst.below (hy).2 hb⟩,hfact⟩,hb⟩
           rintro v ⟨_,p2,q2,rfl, -⟩
           simp only [puts]
           refine RC.runY_mono _ _ _ (fun y=>(((Below w67.heap.size w67 y∧True)∧Lst y (List.range m) p1 q1) ∧ ∃ g,Tab y p2 (List.range m).length g∧(∀ jj,(g jj).n=(butL k n).length) ∧ ∀ ii,(g ii).g=fun jj=>lossA f ((List.range m).getD ii 0) ((butL k n).getD jj 0))) _ (by
            rintro y ⟨p2',q2',e,h1,h2⟩
            injection e with e
            injection e with e
            injection e with e _
            injection e with e1 _ e2
            subst e1 e2
            exact ⟨h1,h2⟩) ?_
           refine RC.runY_call (i:=8) (fun v y=> ∃ r3 k3,v=(.tuple #[.agg #[.int .i64 t1, .int .i64 t2], .slice (some ⟨r3,0,none⟩) (List.range m).length (List.range m).length, .slice (some ⟨k3,0,none⟩) (butL k n).length (butL k n).length, .bool true]:Value)∧(((Below w67.heap.size w67 y∧True)∧Lst y (List.range m) p1 q1) ∧ ∃ g,Tab y p2 (List.range m).length g∧(∀ jj,(g jj).n=(butL k n).length) ∧ ∀ ii,(g ii).g=fun jj=>lossA f ((List.range m).getD ii 0) ((butL k n).getD jj 0))∧True) (by kernel_rfl) (by kernel_rfl) (by kernel_rfl) rfl rfl (fun v y y1 ⟨r3,k3,e,h,h2⟩ hb=>⟨r3,k3,e,⟨⟨⟨(h.1.1).1.trans (hb.mono (h.1.1).1.size),trivial⟩,Lst.below (h.1).2 hb⟩,(let ⟨g,h1,h2⟩:=(h).2; ⟨g,Tab.below h1 hb,h2⟩)⟩,trivial⟩) (fun v y ⟨_,_,_,h,_⟩=>h.1.1.1) (fun y hy => ?_) ?_
           ·have hy1:=hy.1.1.1
            obtain ⟨g,hT,hl,hg⟩:=hy.2
            have hok:=part_okay KO.out SM.out SC.out (by rw [List.length_range]; exact hm1) (by exact but_some hn) hl hg
            have hvl:=part_val hg (UV.out) UE.out UF.out
            refine ⟨_, #[tabV p2 (List.range m).length q2],(Go.Conc.run_call_body (fn:=Try.f41) rfl Try.func41 (by kernel_rfl) (by kernel_rfl)).trans (by simp [Act.eval]),(value_c p2 (List.range m).length (butL k n).length q2 g y hT hok).mono ?_⟩
            rintro e y1 ⟨⟨r3,xr3,k3,xk3, -, -,rfl, -, -⟩,hb⟩
            rw [hvl]
            have hfact:=trivial
            exact ⟨⟨_,rfl,r3,k3,rfl,⟨⟨⟨(hy.1.1).1.trans (hb.mono (hy.1.1).1.size),trivial⟩,Lst.below (hy.1).2 hb⟩,(let ⟨g,h1,h2⟩:=(hy).2; ⟨g,Tab.below h1 hb,h2⟩)⟩,hfact⟩,hb⟩
           rintro v ⟨_,r3,k3,rfl, -⟩
           simp only [puts]
           refine RC.runY_mono _ _ _ (fun y=>((((Below w67.heap.size w67 y∧True)∧Lst y (List.range m) p1 q1) ∧ ∃ g,Tab y p2 (List.range m).length g∧(∀ jj,(g jj).n=(butL k n).length) ∧ ∀ ii,(g ii).g=fun jj=>lossA f ((List.range m).getD ii 0) ((butL k n).getD jj 0))∧True)) _ (by
            rintro y ⟨r3',k3',e,h1,h2⟩
            simp only [Value.tuple.injEq,Array.mk.injEq,List.cons.injEq,Value.slice.injEq,Option.some.injEq,Addr.mk.injEq,true_and,and_true] at e
            obtain ⟨rfl,rfl⟩:=e
            exact ⟨h1,h2⟩) ?_
           refine RC.runY_quiet (i:=9) (.tuple #[.agg #[.int .i64 t1, .int .i64 t2], .slice (some ⟨r3,0,none⟩) (List.range m).length (List.range m).length, .slice (some ⟨k3,0,none⟩) (butL k n).length (butL k n).length, .bool true]) (by kernel_rfl) (by kernel_rfl) (by kernel_rfl) rfl (quiet_read rfl (fun y hy=>by go_simp)) ?_
           simp only [puts]
           refine ⟨?_,fun b hb0 => ?_⟩
           ·skip
            refine RC.run_take (i:=10) (.agg #[.int .i64 t1, .int .i64 t2]) rfl (by kernel_rfl) (by kernel_rfl) (by kernel_rfl) rfl (fun y h=>h.1.1.1.1) (fun y hy=>by go_simp) ?_
            simp only [puts]
            refine RC.run_take (i:=11) (.slice (some ⟨r3,0,none⟩) (List.range m).length (List.range m).length) rfl (by kernel_rfl) (by kernel_rfl) (by kernel_rfl) rfl (fun y h=>h.1.1.1.1) (fun y hy=>by go_simp) ?_
            simp only [puts]
            refine RC.run_take (i:=12) (.slice (some ⟨k3,0,none⟩) (butL k n).length (butL k n).length) rfl (by kernel_rfl) (by kernel_rfl) (by kernel_rfl) rfl (fun y h=>h.1.1.1.1) (fun y hy=>by go_simp) ?_
            simp only [puts]
            refine RC.run_take (i:=13) (.bool true) rfl (by kernel_rfl) (by kernel_rfl) (by kernel_rfl) rfl (fun y h=>h.1.1.1.1) (fun y hy=>by go_simp) ?_
            simp only [puts]
            refine RC.run_only (i:=14) (by kernel_rfl) (RC.at_make (w0:=w67) (t:=31) (z:= .cells #[.int .i64 0, .int .i64 0] 30 (0,0)) ptrTo (fun _=>False) ptrTo_inj rfl rfl rfl (fun y _=>by go_simp) (fun y h=>h.1.1.1.1.size) (fun _ _ _ h=>h.elim) ?_)
            intro b hb0 _
            simp only [puts]
            refine RC.run_store (i:=15) (fun y=>Below w67.heap.size w67 y∧RowIs y b #[.int .i64 t1, .int .i64 t2] 30) (by kernel_rfl) rfl rfl (fun y y1 h hb=>⟨h.1.trans (hb.mono h.1.size),h.2.below hb⟩) (fun y h=>h.1) (fun y hy => ?_) ?_
            ·obtain ⟨g0,g2⟩:=hy
             have g1:=g0.1.1.1.1
             have r4:RowIs y b #[.int .i64 0, .int .i64 0] 30:=g2
             have q0:=r4.cell 0
             have q1:=r4.cell 1
             have z0:=r4.frozen 0
             have z1:=r4.frozen 1
             have qz:=r4.lt
             simp at q0 q1
             exact ⟨(y.setCell ⟨b,0,none⟩ (.int .i64 t1)).setCell ⟨b,1,none⟩ (.int .i64 t2),by go_simp,(g1.setCell (p:=⟨b,0,none⟩) hb0 _).setCell (p:=⟨b,1,none⟩) hb0 _,(r4.set 0 _).set 1 _⟩
            simp only [puts]
            refine RC.run_take (i:=16) (.slice (some ⟨r3,0,none⟩) (List.range m).length (List.range m).length) rfl (by kernel_rfl) (by kernel_rfl) (by kernel_rfl) rfl (fun y h=>h.1) (fun y hy=>by go_simp) ?_
            simp only [puts]
            refine RC.run_take (i:=17) (.slice (some ⟨k3,0,none⟩) (butL k n).length (butL k n).length) rfl (by kernel_rfl) (by kernel_rfl) (by kernel_rfl) rfl (fun y h=>h.1) (fun y hy=>by go_simp) ?_
            simp only [puts]
            refine RC.run_take (i:=18) (.bool true) rfl (by kernel_rfl) (by kernel_rfl) (by kernel_rfl) rfl (fun y h=>h.1) (fun y hy=>by go_simp) ?_
            simp only [puts]
            exact ⟨by kernel_rfl,fun y hy=>fin b r3 k3 p1 q1 p2 q2 y hy⟩
           ·skip
            refine RC.run_take (i:=10) (.agg #[.int .i64 t1, .int .i64 t2]) rfl (by kernel_rfl) (by kernel_rfl) (by kernel_rfl) rfl (fun y h=>h.1.1.1.1.1) (fun y hy=>by go_simp) ?_
            simp only [puts]
            refine RC.run_take (i:=11) (.slice (some ⟨r3,0,none⟩) (List.range m).length (List.range m).length) rfl (by kernel_rfl) (by kernel_rfl) (by kernel_rfl) rfl (fun y h=>h.1.1.1.1.1) (fun y hy=>by go_simp) ?_
            simp only [puts]
            refine RC.run_take (i:=12) (.slice (some ⟨k3,0,none⟩) (butL k n).length (butL k n).length) rfl (by kernel_rfl) (by kernel_rfl) (by kernel_rfl) rfl (fun y h=>h.1.1.1.1.1) (fun y hy=>by go_simp) ?_
            simp only [puts]
            refine RC.run_take (i:=13) (.bool true) rfl (by kernel_rfl) (by kernel_rfl) (by kernel_rfl) rfl (fun y h=>h.1.1.1.1.1) (fun y hy=>by go_simp) ?_
            simp only [puts]
            refine RC.run_store (i:=15) (fun y=>Below w67.heap.size w67 y∧RowIs y b #[.int .i64 t1, .int .i64 t2] 30) (by kernel_rfl) rfl rfl (fun y y1 h hb=>⟨h.1.trans (hb.mono h.1.size),h.2.below hb⟩) (fun y h=>h.1) (fun y hy => ?_) ?_
            ·obtain ⟨g0,g2⟩:=hy
             have g1:=g0.1.1.1.1
             have r4:RowIs y b #[.int .i64 0, .int .i64 0] 30:=g2
             have q0:=r4.cell 0
             have q1:=r4.cell 1
             have z0:=r4.frozen 0
             have z1:=r4.frozen 1
             have qz:=r4.lt
             simp at q0 q1
             exact ⟨(y.setCell ⟨b,0,none⟩ (.int .i64 t1)).setCell ⟨b,1,none⟩ (.int .i64 t2),by go_simp,(g1.setCell (p:=⟨b,0,none⟩) hb0 _).setCell (p:=⟨b,1,none⟩) hb0 _,(r4.set 0 _).set 1 _⟩
            simp only [puts]
            refine RC.run_take (i:=16) (.slice (some ⟨r3,0,none⟩) (List.range m).length (List.range m).length) rfl (by kernel_rfl) (by kernel_rfl) (by kernel_rfl) rfl (fun y h=>h.1) (fun y hy=>by go_simp) ?_
            simp only [puts]
            refine RC.run_take (i:=17) (.slice (some ⟨k3,0,none⟩) (butL k n).length (butL k n).length) rfl (by kernel_rfl) (by kernel_rfl) (by kernel_rfl) rfl (fun y h=>h.1) (fun y hy=>by go_simp) ?_
            simp only [puts]
            refine RC.run_take (i:=18) (.bool true) rfl (by kernel_rfl) (by kernel_rfl) (by kernel_rfl) rfl (fun y h=>h.1) (fun y hy=>by go_simp) ?_
            simp only [puts]
            exact ⟨by kernel_rfl,fun y hy=>fin b r3 k3 p1 q1 p2 q2 y hy⟩
          case fin=>
           rintro b73 x74 x75 x76 x77 x78 x79 w72 ⟨hbq,hrow⟩
           replace R1:=Lib.hid (RowIs.below R1.out hbq)
           replace H1:=Lib.hid (H1.out.below hbq)
           replace Ggr:=Lib.hid (RowIs.below Ggr.out hbq)
           replace Ggk:=Lib.hid (RowIs.below Ggk.out hbq)
           replace QV:=Lib.hid (RowIs.below QV.out hbq)
           replace HX:=Lib.hid (HX.out.below hbq)
           replace RX2:=Lib.hid (RowIs.below RX2.out hbq)
           replace HRL:=Lib.hid (HRL.out.below hbq)
           replace HCL:=Lib.hid (HCL.out.below hbq)
           replace Ggr2:=Lib.hid (RowIs.below Ggr2.out hbq)
           replace Ggk2:=Lib.hid (RowIs.below Ggk2.out hbq)
           replace QW:=Lib.hid (RowIs.below QW.out hbq)
           replace QU:=Lib.hid (RowIs.below QU.out hbq)
           replace B1:=Lib.hid (bup B1.out hbq)
           have QT:=Lib.hid hrow
           clear hbq hrow
           have cc80:w72.cell? ⟨w24.heap.size,0,none⟩=some (.int .i64 v1):=RowIs.cell QV.out 0
           have cc81:w72.cell? ⟨w24.heap.size,1,none⟩=some (.int .i64 v2):=RowIs.cell QV.out 1
           have zz82:w24.heap.size<w72.heap.size:=RowIs.lt QV.out
           have cc83:w72.cell? ⟨b73,0,none⟩=some (.int .i64 t1):=RowIs.cell QT.out 0
           have cc84:w72.cell? ⟨b73,1,none⟩=some (.int .i64 t2):=RowIs.cell QT.out 1
           have zz85:b73<w72.heap.size:=RowIs.lt QT.out
           go_wp2_with fail
           clear cc80 cc81 zz82 cc83 cc84 zz85
           refine (CL.out _).mono ?_
           rintro e w86 ⟨rfl,hbq⟩
           replace R1:=Lib.hid (RowIs.below R1.out hbq)
           replace H1:=Lib.hid (H1.out.below hbq)
           replace Ggr:=Lib.hid (RowIs.below Ggr.out hbq)
           replace Ggk:=Lib.hid (RowIs.below Ggk.out hbq)
           replace QV:=Lib.hid (RowIs.below QV.out hbq)
           replace HX:=Lib.hid (HX.out.below hbq)
           replace RX2:=Lib.hid (RowIs.below RX2.out hbq)
           replace HRL:=Lib.hid (HRL.out.below hbq)
           replace HCL:=Lib.hid (HCL.out.below hbq)
           replace Ggr2:=Lib.hid (RowIs.below Ggr2.out hbq)
           replace Ggk2:=Lib.hid (RowIs.below Ggk2.out hbq)
           replace QW:=Lib.hid (RowIs.below QW.out hbq)
           replace QU:=Lib.hid (RowIs.below QU.out hbq)
           replace QT:=Lib.hid (RowIs.below QT.out hbq)
           replace B1:=Lib.hid (bup B1.out hbq)
           clear hbq
           clear CL UV UE UF
           have cc87:w86.cell? ⟨w.heap.size,0,none⟩=some (.slice (some ⟨tb,ofs,none⟩) m cap):=RowIs.cell R1.out 0
           have zz88:w.heap.size<w86.heap.size:=RowIs.lt R1.out
           have cc89:w86.cell? ⟨Y25.heap.size,0,none⟩=some (.slice xp m xc):=RowIs.cell RX2.out 0
           have zz90:Y25.heap.size<w86.heap.size:=RowIs.lt RX2.out
           go_wp2_with fail
           clear cc87 zz88 cc89 zz90
           refine (works_c _).mono ?_
           rintro e w91 ⟨rfl,hbq⟩
           go_wp2_with fail
           go_ret
           exact ⟨rfl,bup B1.out hbq⟩
         ·have hn3 : ¬ (1:Int)<(n:Int):=by omega
          have hn2:decide ((1:Int)<(n:Int))=false:=decide_eq_false hn3
          have hn5:decide (1<n)=false:=decide_eq_false hn
          go_wp2_with fail
          clear cc68 zz69 cc70 zz71
          refine (works_c _).mono ?_
          rintro e w92 ⟨rfl,hbq⟩
          go_wp2_with fail
          go_ret
          exact ⟨rfl,bup B1.out hbq⟩
       ·have hm3 : ¬ (1:Int)<(m:Int):=by omega
        have hm5:decide ((1:Int)<(m:Int))=false:=decide_eq_false hm3
        have hm6:decide (1<m)=false:=decide_eq_false hm
        by_cases hn:1<n
        ·have hn3:(1:Int)<(n:Int):=by omega
         have hn2:decide ((1:Int)<(n:Int))=true:=decide_eq_true hn3
         have hn5:decide (1<n)=true:=decide_eq_true hn
         obtain ⟨t1,t2,tv,ta,tb9,tc,td,te,tf⟩:=sub_val KO.out (R:=List.range m) (C:=butL k n) SM.out SC.out (by rw [List.length_range]; exact hm1) (but_some hn)
         have hlt2:=cols_lt KO.out SC.out tv
         rw [V1.out,V2.out] at hlt2
         obtain ⟨y1,y2,y3,y4, -, -⟩:=VS.out
         have hle:=fun (x:World)=>less_fit t1 t2 v1 v2 x ta tb9 tc td y1 y2 y3 y4
         rw [hlt2] at hle
         have CL:=Lib.hid hle
         have UV:=Lib.hid tv
         have UE:=Lib.hid te
         have UF:=Lib.hid tf
         clear hle hlt2 y1 y2 y3 y4 ta tb9 tc td tv te tf
         go_wp2_with fail
         clear cc49 zz50 cc51 zz52
         apply cutV (fun b y=>Below w48.heap.size w48 y∧RowIs y b #[.int .i64 t1, .int .i64 t2] 30)
         case main=>
          intro fin
          refine RC.wp_region_runF (C:=fun y=>Below w48.heap.size w48 y) (fun y=>Below w48.heap.size w48 y∧True) (by kernel_rfl) (fun _ _ h hb=>⟨h.1.trans (hb.mono h.1.size),trivial⟩) ⟨Below.refl _ _,trivial⟩ ?_
          change RC.Run _ _ _ _ _ 19 _ _ _
          refine RC.run_take (i:=0) (tabV (some ⟨tb,ofs,none⟩) m cap) rfl (by kernel_rfl) (by kernel_rfl) (by kernel_rfl) rfl (fun y h=>h.1) (fun y hy=>by have k0:=R1.out.below hy; have q0:=RowIs.cell k0 0; have qz:=RowIs.lt k0; go_simp) ?_
          simp only [puts]
          refine RC.run_take (i:=1) (.int .i64 m) rfl (by kernel_rfl) (by kernel_rfl) (by kernel_rfl) rfl (fun y h=>h.1) (fun y hy=>by have k0:=R1.out.below hy; have q0:=RowIs.cell k0 0; have qz:=RowIs.lt k0; go_simp) ?_
          simp only [puts]
          refine RC.run_take (i:=2) (.int .i64 ((2:Int) ^ m)) rfl (by kernel_rfl) (by kernel_rfl) (by kernel_rfl) rfl (fun y h=>h.1) (fun y hy=>by have k0:=R1.out.below hy; have q0:=RowIs.cell k0 0; have qz:=RowIs.lt k0; go_simp) ?_
          simp only [puts]
          refine RC.run_take (i:=3) (.int .i64 ((2 ^ m-1:Nat):Int)) rfl (by kernel_rfl) (by kernel_rfl) (by kernel_rfl) rfl (fun y h=>h.1) (fun y hy=>by have k0:=R1.out.below hy; have q0:=RowIs.cell k0 0; have qz:=RowIs.lt k0; go_simp) ?_
          simp only [puts]
          refine RC.run_take (i:=4) (.int .i64 m) rfl (by kernel_rfl) (by kernel_rfl) (by kernel_rfl) rfl (fun y h=>h.1) (fun y hy=>by have k0:=R1.out.below hy; have q0:=RowIs.cell k0 0; have qz:=RowIs.lt k0; go_simp) ?_
          simp only [puts]
          refine RC.run_take (i:=6) (.slice cp (butL k n).length cc) rfl (by kernel_rfl) (by kernel_rfl) (by kernel_rfl) rfl (fun y h=>h.1) (fun y hy=>by have k0:=R1.out.below hy; have q0:=RowIs.cell k0 0; have qz:=RowIs.lt k0; go_simp) ?_
          simp only [puts]
          refine RC.runY_float (x:=14) (c:=10) (tx:=31) (z:= .cells #[.int .i64 0, .int .i64 0] 30 (0,0)) (w0:=w48) (g:=8) rfl rfl rfl (fun a y=>by go_simp) (Region.noSelect_spec (by kernel_rfl)) (by kernel_rfl) (by kernel_rfl) (by decide) (fun y h=>h.size) 4 _ _ _ (by kernel_rfl) (fun y h=>h.1) ?_
          refine RC.runY_call (i:=5) (fun v y=> ∃ p1 q1,v=(.slice p1 (List.range m).length q1:Value)∧(Below w48.heap.size w48 y∧True)∧Lst y (List.range m) p1 q1) (by kernel_rfl) (by kernel_rfl) (by kernel_rfl) rfl rfl (fun v y y1 ⟨p1,q1,e,h,h2⟩ hb=>⟨p1,q1,e,⟨(h).1.trans (hb.mono (h).1.size),trivial⟩,Lst.below h2 hb⟩) (fun v y ⟨_,_,_,h,_⟩=>h.1) (fun y hy => ?_) ?_
          ·have hy1:=hy.1
           have hLS:=rListed_c (2 ^ m-1) m y (by omega)
           rw [bitsL_full (by omega)] at hLS
           refine ⟨_, #[.int .i64 ((2 ^ m-1:Nat):Int), .int .i64 m],(Go.Conc.run_call_body (fn:=Try.f50) rfl Try.func50 (by kernel_rfl) (by kernel_rfl)).trans (by simp [Act.eval]),(hLS).mono ?_⟩
           rintro e y1 ⟨⟨p1,q1,rfl,hfact⟩,hb⟩
           exact ⟨⟨_,rfl,p1,q1,rfl,⟨(hy).1.trans (hb.mono (hy).1.size),trivial⟩,hfact⟩,hb⟩
          rintro v ⟨_,p1,q1,rfl, -⟩
          simp only [puts]
          refine RC.runY_mono _ _ _ (fun y=>((Below w48.heap.size w48 y∧True)∧Lst y (List.range m) p1 q1)) _ (by
           rintro y ⟨p1',q1',e,h1,h2⟩
           injection e with e1 _ e2
           subst e1 e2
           exact ⟨h1,h2⟩) ?_
          refine RC.runY_call (i:=7) (fun v y=> ∃ p2 q2,v=(tabV p2 (List.range m).length q2:Value)∧((Below w48.heap.size w48 y∧True)∧Lst y (List.range m) p1 q1) ∧ ∃ g,Tab y p2 (List.range m).length g∧(∀ jj,(g jj).n=(butL k n).length) ∧ ∀ ii,(g ii).g=fun jj=>lossA f ((List.range m).getD ii 0) ((butL k n).getD jj 0)) (by kernel_rfl) (by kernel_rfl) (by kernel_rfl) rfl rfl (fun v y y1 ⟨p2,q2,e,h,h2⟩ hb=>⟨p2,q2,e,⟨⟨(h.1).1.trans (hb.mono (h.1).1.size),trivial⟩,Lst.below (h).2 hb⟩,(let ⟨g,h1,h2⟩:=h2; ⟨g,Tab.below h1 hb,h2⟩)⟩) (fun v y ⟨_,_,_,h,_⟩=>h.1.1) (fun y hy => ?_) ?_
          ·have hy1:=hy.1.1
           refine ⟨_, #[tabV (some ⟨tb,ofs,none⟩) m cap, .slice p1 (List.range m).length q1, .slice cp (butL k n).length cc],(Go.Conc.run_call_body (fn:=Try.f49) rfl Try.func49 (by kernel_rfl) (by kernel_rfl)).trans (by simp [Act.eval]),(rPart_c (some ⟨tb,ofs,none⟩) m n cap f (List.range m) (butL k n) p1 cp q1 cc y (H1.out.below hy1) KO.out (hy.2) (HCL.out.below hy1) SM.out.2 SC.out.2 (Nat.le_trans (rising_len SM.out) hm4) (Nat.le_trans (rising_len SC.out) hn4)).mono ?_⟩
           rintro e y1 ⟨⟨p2,q2,g,rfl, -, -,hT,hl,hg⟩,hb⟩
           have hfact:=(⟨g,hT,hl,hg⟩ : ∃ g,Tab y1 p2 (List.range m).length g∧(∀ jj,(g jj).n=(butL k n).length) ∧ ∀ ii,(g ii).g=fun jj=>lossA f ((List.range m).getD ii 0) ((butL k n).getD jj 0))
           exact ⟨⟨_,rfl,p2,q2,rfl,⟨⟨(hy.1).1.trans (hb.mono (hy.1).1.size),trivial⟩,Lst.below (hy).2 hb⟩,hfact⟩,hb⟩
          rintro v ⟨_,p2,q2,rfl, -⟩
          simp only [puts]
          refine RC.runY_mono _ _ _ (fun y=>(((Below w48.heap.size w48 y∧True)∧Lst y (List.range m) p1 q1) ∧ ∃ g,Tab y p2 (List.range m).length g∧(∀ jj,(g jj).n=(butL k n).length) ∧ ∀ ii,(g ii).g=fun jj=>lossA f ((List.range m).getD ii 0) ((butL k n).getD jj 0))) _ (by
           rintro y ⟨p2',q2',e,h1,h2⟩
           injection e with e
           injection e with e
           injection e with e _
           injection e with e1 _ e2
           subst e1 e2
           exact ⟨h1,h2⟩) ?_
          refine RC.runY_call (i:=8) (fun v y=> ∃ r3 k3,v=(.tuple #[.agg #[.int .i64 t1, .int .i64 t2], .slice (some ⟨r3,0,none⟩) (List.range m).length (List.range m).length, .slice (some ⟨k3,0,none⟩) (butL k n).length (butL k n).length, .bool true]:Value)∧(((Below w48.heap.size w48 y∧True)∧Lst y (List.range m) p1 q1) ∧ ∃ g,Tab y p2 (List.range m).length g∧(∀ jj,(g jj).n=(butL k n).length) ∧ ∀ ii,(g ii).g=fun jj=>lossA f ((List.range m).getD ii 0) ((butL k n).getD jj 0))∧True) (by kernel_rfl) (by kernel_rfl) (by kernel_rfl) rfl rfl (fun v y y1 ⟨r3,k3,e,h,h2⟩ hb=>⟨r3,k3,e,⟨⟨⟨(h.1.1).1.trans (hb.mono (h.1.1).1.size),trivial⟩,Lst.below (h.1).2 hb⟩,(let ⟨g,h1,h2⟩:=(h).2; ⟨g,Tab.below h1 hb,h2⟩)⟩,trivial⟩) (fun v y ⟨_,_,_,h,_⟩=>h.1.1.1) (fun y hy => ?_) ?_
          ·have hy1:=hy.1.1.1
           obtain ⟨g,hT,hl,hg⟩:=hy.2
           have hok:=part_okay KO.out SM.out SC.out (by rw [List.length_range]; exact hm1) (by exact but_some hn) hl hg
           have hvl:=part_val hg (UV.out) UE.out UF.out
           refine ⟨_, #[tabV p2 (List.range m).length q2],(Go.Conc.run_call_body (fn:=Try.f41) rfl Try.func41 (by kernel_rfl) (by kernel_rfl)).trans (by simp [Act.eval]),(value_c p2 (List.range m).length (butL k n).length q2 g y hT hok).mono ?_⟩
           rintro e y1 ⟨⟨r3,xr3,k3,xk3, -, -,rfl, -, -⟩,hb⟩
           rw [hvl]
           have hfact:=trivial
           exact ⟨⟨_,rfl,r3,k3,rfl,⟨⟨⟨(hy.1.1).1.trans (hb.mono (hy.1.1).1.size),trivial⟩,Lst.below (hy.1).2 hb⟩,(let ⟨g,h1,h2⟩:=(hy).2; ⟨g,Tab.below h1 hb,h2⟩)⟩,hfact⟩,hb⟩
          rintro v ⟨_,r3,k3,rfl, -⟩
          simp only [puts]
          refine RC.runY_mono _ _ _ (fun y=>((((Below w48.heap.size w48 y∧True)∧Lst y (List.range m) p1 q1) ∧ ∃ g,Tab y p2 (List.range m).length g∧(∀ jj,(g jj).n=(butL k n).length) ∧ ∀ ii,(g ii).g=fun jj=>lossA f ((List.range m).getD ii 0) ((butL k n).getD jj 0))∧True)) _ (by
           rintro y ⟨r3',k3',e,h1,h2⟩
           simp only [Value.tuple.injEq,Array.mk.injEq,List.cons.injEq,Value.slice.injEq,Option.some.injEq,Addr.mk.injEq,true_and,and_true] at e
           obtain ⟨rfl,rfl⟩:=e
           exact ⟨h1,h2⟩) ?_
          refine RC.runY_quiet (i:=9) (.tuple #[.agg #[.int .i64 t1, .int .i64 t2], .slice (some ⟨r3,0,none⟩) (List.range m).length (List.range m).length, .slice (some ⟨k3,0,none⟩) (butL k n).length (butL k n).length, .bool true]) (by kernel_rfl) (by kernel_rfl) (by kernel_rfl) rfl (quiet_read rfl (fun y hy=>by go_simp)) ?_
          simp only [puts]
          refine ⟨?_,fun b hb0 => ?_⟩
          ·skip
           refine RC.run_take (i:=10) (.agg #[.int .i64 t1, .int .i64 t2]) rfl (by kernel_rfl) (by kernel_rfl) (by kernel_rfl) rfl (fun y h=>h.1.1.1.1) (fun y hy=>by go_simp) ?_
           simp only [puts]
           refine RC.run_take (i:=11) (.slice (some ⟨r3,0,none⟩) (List.range m).length (List.range m).length) rfl (by kernel_rfl) (by kernel_rfl) (by kernel_rfl) rfl (fun y h=>h.1.1.1.1) (fun y hy=>by go_simp) ?_
           simp only [puts]
           refine RC.run_take (i:=12) (.slice (some ⟨k3,0,none⟩) (butL k n).length (butL k n).length) rfl (by kernel_rfl) (by kernel_rfl) (by kernel_rfl) rfl (fun y h=>h.1.1.1.1) (fun y hy=>by go_simp) ?_
           simp only [puts]
           refine RC.run_take (i:=13) (.bool true) rfl (by kernel_rfl) (by kernel_rfl) (by kernel_rfl) rfl (fun y h=>h.1.1.1.1) (fun y hy=>by go_simp) ?_
           simp only [puts]
           refine RC.run_only (i:=14) (by kernel_rfl) (RC.at_make (w0:=w48) (t:=31) (z:= .cells #[.int .i64 0, .int .i64 0] 30 (0,0)) ptrTo (fun _=>False) ptrTo_inj rfl rfl rfl (fun y _=>by go_simp) (fun y h=>h.1.1.1.1.size) (fun _ _ _ h=>h.elim) ?_)
           intro b hb0 _
           simp only [puts]
           refine RC.run_store (i:=15) (fun y=>Below w48.heap.size w48 y∧RowIs y b #[.int .i64 t1, .int .i64 t2] 30) (by kernel_rfl) rfl rfl (fun y y1 h hb=>⟨h.1.trans (hb.mono h.1.size),h.2.below hb⟩) (fun y h=>h.1) (fun y hy => ?_) ?_
           ·obtain ⟨g0,g2⟩:=hy
            have g1:=g0.1.1.1.1
            have r4:RowIs y b #[.int .i64 0, .int .i64 0] 30:=g2
            have q0:=r4.cell 0
            have q1:=r4.cell 1
            have z0:=r4.frozen 0
            have z1:=r4.frozen 1
            have qz:=r4.lt
            simp at q0 q1
            exact ⟨(y.setCell ⟨b,0,none⟩ (.int .i64 t1)).setCell ⟨b,1,none⟩ (.int .i64 t2),by go_simp,(g1.setCell (p:=⟨b,0,none⟩) hb0 _).setCell (p:=⟨b,1,none⟩) hb0 _,(r4.set 0 _).set 1 _⟩
           simp only [puts]
           refine RC.run_take (i:=16) (.slice (some ⟨r3,0,none⟩) (List.range m).length (List.range m).length) rfl (by kernel_rfl) (by kernel_rfl) (by kernel_rfl) rfl (fun y h=>h.1) (fun y hy=>by go_simp) ?_
           simp only [puts]
           refine RC.run_take (i:=17) (.slice (some ⟨k3,0,none⟩) (butL k n).length (butL k n).length) rfl (by kernel_rfl) (by kernel_rfl) (by kernel_rfl) rfl (fun y h=>h.1) (fun y hy=>by go_simp) ?_
           simp only [puts]
           refine RC.run_take (i:=18) (.bool true) rfl (by kernel_rfl) (by kernel_rfl) (by kernel_rfl) rfl (fun y h=>h.1) (fun y hy=>by go_simp) ?_
           simp only [puts]
           exact ⟨by kernel_rfl,fun y hy=>fin b r3 k3 p1 q1 p2 q2 y hy⟩
          ·skip
           refine RC.run_take (i:=10) (.agg #[.int .i64 t1, .int .i64 t2]) rfl (by kernel_rfl) (by kernel_rfl) (by kernel_rfl) rfl (fun y h=>h.1.1.1.1.1) (fun y hy=>by go_simp) ?_
           simp only [puts]
           refine RC.run_take (i:=11) (.slice (some ⟨r3,0,none⟩) (List.range m).length (List.range m).length) rfl (by kernel_rfl) (by kernel_rfl) (by kernel_rfl) rfl (fun y h=>h.1.1.1.1.1) (fun y hy=>by go_simp) ?_
           simp only [puts]
           refine RC.run_take (i:=12) (.slice (some ⟨k3,0,none⟩) (butL k n).length (butL k n).length) rfl (by kernel_rfl) (by kernel_rfl) (by kernel_rfl) rfl (fun y h=>h.1.1.1.1.1) (fun y hy=>by go_simp) ?_
           simp only [puts]
           refine RC.run_take (i:=13) (.bool true) rfl (by kernel_rfl) (by kernel_rfl) (by kernel_rfl) rfl (fun y h=>h.1.1.1.1.1) (fun y hy=>by go_simp) ?_
           simp only [puts]
           refine RC.run_store (i:=15) (fun y=>Below w48.heap.size w48 y∧RowIs y b #[.int .i64 t1, .int .i64 t2] 30) (by kernel_rfl) rfl rfl (fun y y1 h hb=>⟨h.1.trans (hb.mono h.1.size),h.2.below hb⟩) (fun y h=>h.1) (fun y hy => ?_) ?_
           ·obtain ⟨g0,g2⟩:=hy
            have g1:=g0.1.1.1.1
            have r4:RowIs y b #[.int .i64 0, .int .i64 0] 30:=g2
            have q0:=r4.cell 0
            have q1:=r4.cell 1
            have z0:=r4.frozen 0
            have z1:=r4.frozen 1
            have qz:=r4.lt
            simp at q0 q1
            exact ⟨(y.setCell ⟨b,0,none⟩ (.int .i64 t1)).setCell ⟨b,1,none⟩ (.int .i64 t2),by go_simp,(g1.setCell (p:=⟨b,0,none⟩) hb0 _).setCell (p:=⟨b,1,none⟩) hb0 _,(r4.set 0 _).set 1 _⟩
           simp only [puts]
           refine RC.run_take (i:=16) (.slice (some ⟨r3,0,none⟩) (List.range m).length (List.range m).length) rfl (by kernel_rfl) (by kernel_rfl) (by kernel_rfl) rfl (fun y h=>h.1) (fun y hy=>by go_simp) ?_
           simp only [puts]
           refine RC.run_take (i:=17) (.slice (some ⟨k3,0,none⟩) (butL k n).length (butL k n).length) rfl (by kernel_rfl) (by kernel_rfl) (by kernel_rfl) rfl (fun y h=>h.1) (fun y hy=>by go_simp) ?_
           simp only [puts]
           refine RC.run_take (i:=18) (.bool true) rfl (by kernel_rfl) (by kernel_rfl) (by kernel_rfl) rfl (fun y h=>h.1) (fun y hy=>by go_simp) ?_
           simp only [puts]
           exact ⟨by kernel_rfl,fun y hy=>fin b r3 k3 p1 q1 p2 q2 y hy⟩
         case fin=>
          rintro b94 x95 x96 x97 x98 x99 x100 w93 ⟨hbq,hrow⟩
          replace R1:=Lib.hid (RowIs.below R1.out hbq)
          replace H1:=Lib.hid (H1.out.below hbq)
          replace Ggr:=Lib.hid (RowIs.below Ggr.out hbq)
          replace Ggk:=Lib.hid (RowIs.below Ggk.out hbq)
          replace QV:=Lib.hid (RowIs.below QV.out hbq)
          replace HX:=Lib.hid (HX.out.below hbq)
          replace RX2:=Lib.hid (RowIs.below RX2.out hbq)
          replace HRL:=Lib.hid (HRL.out.below hbq)
          replace HCL:=Lib.hid (HCL.out.below hbq)
          replace Ggr2:=Lib.hid (RowIs.below Ggr2.out hbq)
          replace Ggk2:=Lib.hid (RowIs.below Ggk2.out hbq)
          replace QW:=Lib.hid (RowIs.below QW.out hbq)
          replace B1:=Lib.hid (bup B1.out hbq)
          have QT:=Lib.hid hrow
          clear hbq hrow
          have cc101:w93.cell? ⟨w24.heap.size,0,none⟩=some (.int .i64 v1):=RowIs.cell QV.out 0
          have cc102:w93.cell? ⟨w24.heap.size,1,none⟩=some (.int .i64 v2):=RowIs.cell QV.out 1
          have zz103:w24.heap.size<w93.heap.size:=RowIs.lt QV.out
          have cc104:w93.cell? ⟨b94,0,none⟩=some (.int .i64 t1):=RowIs.cell QT.out 0
          have cc105:w93.cell? ⟨b94,1,none⟩=some (.int .i64 t2):=RowIs.cell QT.out 1
          have zz106:b94<w93.heap.size:=RowIs.lt QT.out
          go_wp2_with fail
          clear cc101 cc102 zz103 cc104 cc105 zz106
          refine (CL.out _).mono ?_
          rintro e w107 ⟨rfl,hbq⟩
          replace R1:=Lib.hid (RowIs.below R1.out hbq)
          replace H1:=Lib.hid (H1.out.below hbq)
          replace Ggr:=Lib.hid (RowIs.below Ggr.out hbq)
          replace Ggk:=Lib.hid (RowIs.below Ggk.out hbq)
          replace QV:=Lib.hid (RowIs.below QV.out hbq)
          replace HX:=Lib.hid (HX.out.below hbq)
          replace RX2:=Lib.hid (RowIs.below RX2.out hbq)
          replace HRL:=Lib.hid (HRL.out.below hbq)
          replace HCL:=Lib.hid (HCL.out.below hbq)
          replace Ggr2:=Lib.hid (RowIs.below Ggr2.out hbq)
          replace Ggk2:=Lib.hid (RowIs.below Ggk2.out hbq)
          replace QW:=Lib.hid (RowIs.below QW.out hbq)
          replace QT:=Lib.hid (RowIs.below QT.out hbq)
          replace B1:=Lib.hid (bup B1.out hbq)
          clear hbq
          clear CL UV UE UF
          have cc108:w107.cell? ⟨w.heap.size,0,none⟩=some (.slice (some ⟨tb,ofs,none⟩) m cap):=RowIs.cell R1.out 0
          have zz109:w.heap.size<w107.heap.size:=RowIs.lt R1.out
          have cc110:w107.cell? ⟨Y25.heap.size,0,none⟩=some (.slice xp m xc):=RowIs.cell RX2.out 0
          have zz111:Y25.heap.size<w107.heap.size:=RowIs.lt RX2.out
          go_wp2_with fail
          clear cc108 zz109 cc110 zz111
          refine (works_c _).mono ?_
          rintro e w112 ⟨rfl,hbq⟩
          go_wp2_with fail
          go_ret
          exact ⟨rfl,bup B1.out hbq⟩
        ·have hn3 : ¬ (1:Int)<(n:Int):=by omega
         have hn2:decide ((1:Int)<(n:Int))=false:=decide_eq_false hn3
         have hn5:decide (1<n)=false:=decide_eq_false hn
         go_wp2_with fail
         clear cc49 zz50 cc51 zz52
         refine (works_c _).mono ?_
         rintro e w113 ⟨rfl,hbq⟩
         go_wp2_with fail
         go_ret
         exact ⟨rfl,bup B1.out hbq⟩
end Go.Proofs.Ytkbbhihndigmeaa
