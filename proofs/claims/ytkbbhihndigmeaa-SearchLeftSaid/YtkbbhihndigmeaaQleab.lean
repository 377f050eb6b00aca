/- For whatever arguments, the law SearchLeft returns true, and each argument reads behind the call as it read before. No condition. -/
import Derived.Shelf.Abstract
import Derived.Shelf.RegionOpen
import Derived.Conc.Own4
import Derived.Test.YtkbbhihndigmeaaQleaa
import Derived.Test.YtkbbhihndigmeaaRows
import Derived.ProofKit
namespace Go.Proofs.Ytkbbhihndigmeaa
open Go Go.RowKit Go.Shelf
set_option maxRecDepth 100000 in
set_option maxHeartbeats 16000000 in
theorem law_left_c (a:Option Addr) (m cap:Nat) (f:Nat→Row3) (w:World) (hf:Tab w a m f) :
 Calls Try.prog 11 #[tabV a m cap] w fun e w'=>e = .returned (.bool true)∧Below w.heap.size w w':=by
 obtain ⟨W,hW⟩ : ∃ W,w.alloc (.cells #[.slice a m cap] 24)=W:=⟨_,rfl⟩
 have hB:Below w.heap.size w W:=by rw [← hW]; exact Below.alloc1 (Below.refl _ _) _ (Nat.le_refl _)
 have R1:=Lib.hid (show RowIs W w.heap.size #[.slice a m cap] 24 by rw [← hW]; exact heap_new_at _ _ _ rfl)
 have H1:=Lib.hid (hf.below hB)
 have B1:=Lib.hid hB
 clear hf hB
 cases hT:fineB m f with
 | false=>
   have HF:=Lib.hid hT
   clear hT
   go_enter Try.func11,Try.ntmps11
   have cc1:W.cell? ⟨w.heap.size,0,none⟩=some (.slice a m cap):=RowIs.cell R1.out 0
   have zz2:w.heap.size<W.heap.size:=RowIs.lt R1.out
   go_wp2_with fail
   clear cc1 zz2 hW
   refine (fine_c a m cap f _ H1.out).mono ?_
   rintro e w3 ⟨rfl,hbq⟩
   replace R1:=Lib.hid (RowIs.below R1.out hbq)
   replace H1:=Lib.hid (H1.out.below hbq)
   replace B1:=Lib.hid (bup B1.out hbq)
   clear hbq
   rw [HF.out]
   have cc4:w3.cell? ⟨w.heap.size,0,none⟩=some (.slice a m cap):=RowIs.cell R1.out 0
   have zz5:w.heap.size<w3.heap.size:=RowIs.lt R1.out
   go_wp2_with fail
   clear cc4 zz5
   refine (works_c _).mono ?_
   rintro e w6 ⟨rfl,hbq⟩
   go_wp2_with fail
   go_ret
   exact ⟨rfl,bup B1.out hbq⟩
 | true=>
   have HF:=Lib.hid hT
   have hE:tableE m f=0:=of_decide_eq_true hT
   have hO:=okay_of hE
   obtain ⟨n,hn⟩ : ∃ n,(f 0).n=n:=⟨_,rfl⟩
   rw [hn] at hO
   have hm4:=hO.m4
   have hm1:=hO.m1
   have hn4:=hO.n4
   have hn1:=hO.n1
   have hm2:m≤1048576:=by omega
   have hr2 : ∀ i,i<m→(f i).n≤1048576:=fun i hi=>by rw [hO.len i hi]; omega
   have KO:=Lib.hid hO
   have RR:=Lib.hid hr2
   have HN:=Lib.hid hn
   have KE:=Lib.hid hE
   obtain ⟨tb,ofs,ha0,htb, -⟩:=Tab.at H1.out 0 (by omega)
   subst ha0
   obtain ⟨v1,hv1⟩ : ∃ v1,(valOf (lossA f) m n).1=v1:=⟨_,rfl⟩
   obtain ⟨v2,hv2⟩ : ∃ v2,(valOf (lossA f) m n).2=v2:=⟨_,rfl⟩
   have V1:=Lib.hid hv1
   have V2:=Lib.hid hv2
   clear hE hT hO hr2 hn hv1 hv2
   have hL:=leftR_is KO.out
   obtain ⟨L1,hL1⟩ : ∃ L1,(leftR f m n).1=L1:=⟨_,rfl⟩
   obtain ⟨L2,hL2⟩ : ∃ L2,(leftR f m n).2=L2:=⟨_,rfl⟩
   rw [hL1,hL2,V1.out,V2.out] at hL
   have hs1:=sub_rising hL.sub1
   have hs2:=sub_rising hL.sub2
   have hp1:=hL.pos1
   have hp2:=hL.pos2
   have hq1:=rising_len hs1
   have hq2:=rising_len hs2
   have HL:=Lib.hid hL
   have S1:=Lib.hid hs1
   have S2:=Lib.hid hs2
   have E1:=Lib.hid hL1
   have E2:=Lib.hid hL2
   clear hL hs1 hs2 hL1 hL2
   go_enter Try.func11,Try.ntmps11
   have cc7:W.cell? ⟨w.heap.size,0,none⟩=some (.slice (some ⟨tb,ofs,none⟩) m cap):=RowIs.cell R1.out 0
   have zz8:w.heap.size<W.heap.size:=RowIs.lt R1.out
   go_wp2_with fail
   clear cc7 zz8 hW
   refine (fine_c (some ⟨tb,ofs,none⟩) m cap f _ H1.out).mono ?_
   rintro e w9 ⟨rfl,hbq⟩
   replace R1:=Lib.hid (RowIs.below R1.out hbq)
   replace H1:=Lib.hid (H1.out.below hbq)
   replace B1:=Lib.hid (bup B1.out hbq)
   clear hbq
   rw [HF.out]
   have cc10:w9.cell? ⟨w.heap.size,0,none⟩=some (.slice (some ⟨tb,ofs,none⟩) m cap):=RowIs.cell R1.out 0
   have zz11:w.heap.size<w9.heap.size:=RowIs.lt R1.out
   go_wp2_with fail
   clear cc10 zz11
   refine (value_c (some ⟨tb,ofs,none⟩) m n cap f _ H1.out KO.out).mono ?_
   rintro e w12 ⟨hres,hbq⟩
   obtain ⟨gr,xr,gk,xk,hbr,hbc,rfl,hrr,hrk⟩:=hres
   rw [V1.out,V2.out]
   replace R1:=Lib.hid (RowIs.below R1.out hbq)
   replace H1:=Lib.hid (H1.out.below hbq)
   replace B1:=Lib.hid (bup B1.out hbq)
   clear hbq
   have BR1:=Lib.hid hbr
   have BC1:=Lib.hid hbc
   have Ggr:=Lib.hid hrr
   have Ggk:=Lib.hid hrk
   clear hbr hbc hrr hrk
   obtain ⟨Y13,hY13⟩ : ∃ Y13,w12.alloc (.cells #[.int .i64 v1, .int .i64 v2] 30)=Y13:=⟨_,rfl⟩
   have hb14:Below w12.heap.size w12 Y13:=by rw [← hY13]; exact Below.alloc1 (Below.refl _ _) _ (Nat.le_refl _)
   have hr15:RowIs Y13 w12.heap.size #[.int .i64 v1, .int .i64 v2] 30:=by rw [← hY13]; exact heap_new_at _ _ _ rfl
   replace R1:=Lib.hid (RowIs.below R1.out hb14)
   replace H1:=Lib.hid (H1.out.below hb14)
   replace Ggr:=Lib.hid (RowIs.below Ggr.out hb14)
   replace Ggk:=Lib.hid (RowIs.below Ggk.out hb14)
   replace B1:=Lib.hid (bup B1.out hb14)
   have QV:=Lib.hid hr15
   clear hb14 hr15
   have cc16:Y13.cell? ⟨w.heap.size,0,none⟩=some (.slice (some ⟨tb,ofs,none⟩) m cap):=RowIs.cell R1.out 0
   have zz17:w.heap.size<Y13.heap.size:=RowIs.lt R1.out
   have hsm:=val_small KO.out BR1.out
   rw [V1.out,V2.out] at hsm
   have VS:=Lib.hid hsm
   clear hsm
   go_wp2_with fail
   clear hY13 cc16 zz17
   refine (Left_v (some ⟨tb,ofs,none⟩) m cap f _ H1.out hm2 RR.out).mono ?_
   rintro e w18 ⟨hres,hbq⟩
   obtain ⟨xa,ca,xb,cb,rfl,hla,hlb⟩:=hres.elim (fun h=>absurd KE.out h.1) (fun h=>h.2)
   rw [HN.out,E1.out] at hla
   rw [HN.out,E2.out] at hlb
   rw [HN.out,E1.out,E2.out]
   replace R1:=Lib.hid (RowIs.below R1.out hbq)
   replace H1:=Lib.hid (H1.out.below hbq)
   replace Ggr:=Lib.hid (RowIs.below Ggr.out hbq)
   replace Ggk:=Lib.hid (RowIs.below Ggk.out hbq)
   replace QV:=Lib.hid (RowIs.below QV.out hbq)
   replace B1:=Lib.hid (bup B1.out hbq)
   clear hbq hres
   have HA:=Lib.hid hla
   have HB:=Lib.hid hlb
   clear hla hlb
   have cc19:w18.cell? ⟨w.heap.size,0,none⟩=some (.slice (some ⟨tb,ofs,none⟩) m cap):=RowIs.cell R1.out 0
   have zz20:w.heap.size<w18.heap.size:=RowIs.lt R1.out
   obtain ⟨rw21,rz22⟩:w18.cell? ⟨tb,ofs,none⟩=some (.slice (f 0).a n (f 0).cap)∧tb<w18.heap.size:=by
    obtain ⟨b2,o2,e2,hz2,hc2⟩:=Tab.at H1.out 0 (by omega)
    obtain ⟨rfl,rfl⟩:b2=tb∧o2=ofs:=by injection e2 with he; injection he with h1 h2 _; exact ⟨h1.symm,h2.symm⟩
    have:=hc2 0 (by omega)
    rw [Nat.add_zero,HN.out] at this
    exact ⟨this,hz2⟩
   have t1:decide ((L1.length:Int)<1)=false:=decide_eq_false (by omega)
   have t2:decide ((L2.length:Int)<1)=false:=decide_eq_false (by omega)
   have t3 : ¬ L1.length<1:=by omega
   have t4 : ¬ L2.length<1:=by omega
   have hmz : ¬ m=0:=by omega
   go_wp2_with fail
   clear cc19 zz20 rw21 rz22
   refine (isList_c L1 xa ca m _ HA.out S1.out hm2).mono ?_
   rintro e w23 ⟨rfl,hbq⟩
   replace R1:=Lib.hid (RowIs.below R1.out hbq)
   replace H1:=Lib.hid (H1.out.below hbq)
   replace Ggr:=Lib.hid (RowIs.below Ggr.out hbq)
   replace Ggk:=Lib.hid (RowIs.below Ggk.out hbq)
   replace QV:=Lib.hid (RowIs.below QV.out hbq)
   replace HA:=Lib.hid (HA.out.below hbq)
   replace HB:=Lib.hid (HB.out.below hbq)
   replace B1:=Lib.hid (bup B1.out hbq)
   clear hbq
   have cc24:w23.cell? ⟨w.heap.size,0,none⟩=some (.slice (some ⟨tb,ofs,none⟩) m cap):=RowIs.cell R1.out 0
   have zz25:w.heap.size<w23.heap.size:=RowIs.lt R1.out
   obtain ⟨rw26,rz27⟩:w23.cell? ⟨tb,ofs,none⟩=some (.slice (f 0).a n (f 0).cap)∧tb<w23.heap.size:=by
    obtain ⟨b2,o2,e2,hz2,hc2⟩:=Tab.at H1.out 0 (by omega)
    obtain ⟨rfl,rfl⟩:b2=tb∧o2=ofs:=by injection e2 with he; injection he with h1 h2 _; exact ⟨h1.symm,h2.symm⟩
    have:=hc2 0 (by omega)
    rw [Nat.add_zero,HN.out] at this
    exact ⟨this,hz2⟩
   go_wp2_with fail
   clear cc24 zz25 rw26 rz27
   refine (isList_c L2 xb cb n _ HB.out S2.out (by omega)).mono ?_
   rintro e w28 ⟨rfl,hbq⟩
   replace R1:=Lib.hid (RowIs.below R1.out hbq)
   replace H1:=Lib.hid (H1.out.below hbq)
   replace Ggr:=Lib.hid (RowIs.below Ggr.out hbq)
   replace Ggk:=Lib.hid (RowIs.below Ggk.out hbq)
   replace QV:=Lib.hid (RowIs.below QV.out hbq)
   replace HA:=Lib.hid (HA.out.below hbq)
   replace HB:=Lib.hid (HB.out.below hbq)
   replace B1:=Lib.hid (bup B1.out hbq)
   clear hbq
   have cc29:w28.cell? ⟨w.heap.size,0,none⟩=some (.slice (some ⟨tb,ofs,none⟩) m cap):=RowIs.cell R1.out 0
   have zz30:w.heap.size<w28.heap.size:=RowIs.lt R1.out
   go_wp2_with fail
   clear cc29 zz30
   refine (rPart_c (some ⟨tb,ofs,none⟩) m n cap f L1 L2 xa xb ca cb _ H1.out KO.out HA.out HB.out S1.out.2 S2.out.2 (by omega) (by omega)).mono ?_
   rintro e w31 ⟨⟨p,c,f',rfl,hc1,hc2,hT,hlen,hg⟩,hbq⟩
   replace R1:=Lib.hid (RowIs.below R1.out hbq)
   replace H1:=Lib.hid (H1.out.below hbq)
   replace Ggr:=Lib.hid (RowIs.below Ggr.out hbq)
   replace Ggk:=Lib.hid (RowIs.below Ggk.out hbq)
   replace QV:=Lib.hid (RowIs.below QV.out hbq)
   replace HA:=Lib.hid (HA.out.below hbq)
   replace HB:=Lib.hid (HB.out.below hbq)
   replace B1:=Lib.hid (bup B1.out hbq)
   have HX:=Lib.hid hT
   have hO2:Okay L1.length L2.length f':=⟨hp1,by omega,hp2,by omega,fun i _=>hlen i,fun i hi j hj=>by rw [hg]; exact KO.out.num _ (S1.out.2 _ (getD_mem hi)) _ (S2.out.2 _ (getD_mem hj))⟩
   have hg2 : ∀ i j,(f' i).g j=lossA f (L1.getD i 0) (L2.getD j 0):=fun i j=>by rw [hg]
   have hval:valOf (lossA f') L1.length L2.length=(v1,v2):=by
    rw [val_of (HL.out.val.at fun i _ j _=>(hg2 i j).symm),VS.out.2.2.2.2.1,VS.out.2.2.2.2.2]
   have hdn:=left_done KO.out (g:=f') fun i j=>by rw [E1.out,E2.out]; exact hg2 i j
   rw [E1.out,E2.out] at hdn
   obtain ⟨hd1,hd2,hd3⟩:=hdn
   have HG:=Lib.hid hg2
   have KX:=Lib.hid hO2
   have KL:=Lib.hid hlen
   have XV:=Lib.hid hval
   have D1:=Lib.hid hd1
   have D2:=Lib.hid hd2
   have D3:=Lib.hid hd3
   clear hT hbq hc1 hc2 hlen hg hO2 hg2 hval hd1 hd2 hd3
   obtain ⟨Y32,hY32⟩ : ∃ Y32,w31.alloc (.cells #[.slice p L1.length c] 24)=Y32:=⟨_,rfl⟩
   have hb33:Below w31.heap.size w31 Y32:=by rw [← hY32]; exact Below.alloc1 (Below.refl _ _) _ (Nat.le_refl _)
   have hr34:RowIs Y32 w31.heap.size #[.slice p L1.length c] 24:=by rw [← hY32]; exact heap_new_at _ _ _ rfl
   replace R1:=Lib.hid (RowIs.below R1.out hb33)
   replace H1:=Lib.hid (H1.out.below hb33)
   replace Ggr:=Lib.hid (RowIs.below Ggr.out hb33)
   replace Ggk:=Lib.hid (RowIs.below Ggk.out hb33)
   replace QV:=Lib.hid (RowIs.below QV.out hb33)
   replace HA:=Lib.hid (HA.out.below hb33)
   replace HB:=Lib.hid (HB.out.below hb33)
   replace HX:=Lib.hid (HX.out.below hb33)
   replace B1:=Lib.hid (bup B1.out hb33)
   have RX:=Lib.hid hr34
   clear hb33 hr34
   have cc35:Y32.cell? ⟨w31.heap.size,0,none⟩=some (.slice p L1.length c):=RowIs.cell RX.out 0
   have zz36:w31.heap.size<Y32.heap.size:=RowIs.lt RX.out
   have RX2:=Lib.hid (fun (i:Nat) (_:i<L1.length)=>show (f' i).n≤1048576 by rw [KL.out]; omega)
   have EX:=Lib.hid (okay_is KX.out)
   go_wp2_with fail
   clear hY32 cc35 zz36
   refine (value_c p L1.length L2.length c f' _ HX.out KX.out).mono ?_
   rintro e w37 ⟨hres,hbq⟩
   obtain ⟨gr2,xr2,gk2,xk2,hbr,hbc,rfl,hrr,hrk⟩:=hres
   rw [XV.out]
   replace R1:=Lib.hid (RowIs.below R1.out hbq)
   replace H1:=Lib.hid (H1.out.below hbq)
   replace Ggr:=Lib.hid (RowIs.below Ggr.out hbq)
   replace Ggk:=Lib.hid (RowIs.below Ggk.out hbq)
   replace QV:=Lib.hid (RowIs.below QV.out hbq)
   replace HA:=Lib.hid (HA.out.below hbq)
   replace HB:=Lib.hid (HB.out.below hbq)
   replace HX:=Lib.hid (HX.out.below hbq)
   replace RX:=Lib.hid (RowIs.below RX.out hbq)
   replace B1:=Lib.hid (bup B1.out hbq)
   clear hbq
   have BR2:=Lib.hid hbr
   have BC2:=Lib.hid hbc
   have Ggr2:=Lib.hid hrr
   have Ggk2:=Lib.hid hrk
   clear hbr hbc hrr hrk
   obtain ⟨Y38,hY38⟩ : ∃ Y38,w37.alloc (.cells #[.int .i64 v1, .int .i64 v2] 30)=Y38:=⟨_,rfl⟩
   have hb39:Below w37.heap.size w37 Y38:=by rw [← hY38]; exact Below.alloc1 (Below.refl _ _) _ (Nat.le_refl _)
   have hr40:RowIs Y38 w37.heap.size #[.int .i64 v1, .int .i64 v2] 30:=by rw [← hY38]; exact heap_new_at _ _ _ rfl
   replace R1:=Lib.hid (RowIs.below R1.out hb39)
   replace H1:=Lib.hid (H1.out.below hb39)
   replace Ggr:=Lib.hid (RowIs.below Ggr.out hb39)
   replace Ggk:=Lib.hid (RowIs.below Ggk.out hb39)
   replace QV:=Lib.hid (RowIs.below QV.out hb39)
   replace HA:=Lib.hid (HA.out.below hb39)
   replace HB:=Lib.hid (HB.out.below hb39)
   replace HX:=Lib.hid (HX.out.below hb39)
   replace RX:=Lib.hid (RowIs.below RX.out hb39)
   replace Ggr2:=Lib.hid (RowIs.below Ggr2.out hb39)
   replace Ggk2:=Lib.hid (RowIs.below Ggk2.out hb39)
   replace B1:=Lib.hid (bup B1.out hb39)
   have QW:=Lib.hid hr40
   clear hb39 hr40
   have cc41:Y38.cell? ⟨w31.heap.size,0,none⟩=some (.slice p L1.length c):=RowIs.cell RX.out 0
   have zz42:w31.heap.size<Y38.heap.size:=RowIs.lt RX.out
   go_wp2_with fail
   clear hY38 cc41 zz42
   refine (Left_v p L1.length c f' _ HX.out (by omega) RX2.out).mono ?_
   rintro e w43 ⟨hres,hbq⟩
   obtain ⟨ya,da,yb,db,rfl,hla,hlb⟩:=hres.elim (fun h=>absurd EX.out h.1) (fun h=>h.2)
   rw [KL.out,D3.out] at hla hlb
   rw [KL.out,D3.out,List.length_range,List.length_range]
   replace R1:=Lib.hid (RowIs.below R1.out hbq)
   replace H1:=Lib.hid (H1.out.below hbq)
   replace Ggr:=Lib.hid (RowIs.below Ggr.out hbq)
   replace Ggk:=Lib.hid (RowIs.below Ggk.out hbq)
   replace QV:=Lib.hid (RowIs.below QV.out hbq)
   replace HA:=Lib.hid (HA.out.below hbq)
   replace HB:=Lib.hid (HB.out.below hbq)
   replace HX:=Lib.hid (HX.out.below hbq)
   replace RX:=Lib.hid (RowIs.below RX.out hbq)
   replace Ggr2:=Lib.hid (RowIs.below Ggr2.out hbq)
   replace Ggk2:=Lib.hid (RowIs.below Ggk2.out hbq)
   replace QW:=Lib.hid (RowIs.below QW.out hbq)
   replace B1:=Lib.hid (bup B1.out hbq)
   clear hbq hres
   have HC:=Lib.hid hla
   have HD:=Lib.hid hlb
   clear hla hlb
   have cc44:w43.cell? ⟨w31.heap.size,0,none⟩=some (.slice p L1.length c):=RowIs.cell RX.out 0
   have zz45:w31.heap.size<w43.heap.size:=RowIs.lt RX.out
   have cc46:w43.cell? ⟨w12.heap.size,0,none⟩=some (.int .i64 v1):=RowIs.cell QV.out 0
   have cc47:w43.cell? ⟨w12.heap.size,1,none⟩=some (.int .i64 v2):=RowIs.cell QV.out 1
   have zz48:w12.heap.size<w43.heap.size:=RowIs.lt QV.out
   have cc49:w43.cell? ⟨w37.heap.size,0,none⟩=some (.int .i64 v1):=RowIs.cell QW.out 0
   have cc50:w43.cell? ⟨w37.heap.size,1,none⟩=some (.int .i64 v2):=RowIs.cell QW.out 1
   have zz51:w37.heap.size<w43.heap.size:=RowIs.lt QW.out
   have eq52 : ∀ x,(Op.equalIn 10000 30 (.agg #[.int .i64 v1, .int .i64 v2]) (.agg #[.int .i64 v1, .int .i64 v2])).run Try.prog x = .ok true x:=fun x=>(eqRat v1 v2 v1 v2 x).trans (by simp)
   have hsp:=rSpare_c p L1.length L2.length c f'
   have CS1:=Lib.hid (fun (x:World) (h:Below w43.heap.size w43 x)=>hsp x (HX.out.below h) KX.out)
   rw [show spareZ (lossA f') L1.length L2.length = -1 by unfold spareZ; rw [D1.out]] at CS1
   clear hsp
   go_wp2_with fail
   clear cc44 zz45 cc46 cc47 zz48 cc49 cc50 zz51 eq52
   refine (CS1.out _ (Below.refl _ _)).mono ?_
   rintro e w53 ⟨rfl,hbq⟩
   replace R1:=Lib.hid (RowIs.below R1.out hbq)
   replace H1:=Lib.hid (H1.out.below hbq)
   replace Ggr:=Lib.hid (RowIs.below Ggr.out hbq)
   replace Ggk:=Lib.hid (RowIs.below Ggk.out hbq)
   replace QV:=Lib.hid (RowIs.below QV.out hbq)
   replace HA:=Lib.hid (HA.out.below hbq)
   replace HB:=Lib.hid (HB.out.below hbq)
   replace HX:=Lib.hid (HX.out.below hbq)
   replace RX:=Lib.hid (RowIs.below RX.out hbq)
   replace Ggr2:=Lib.hid (RowIs.below Ggr2.out hbq)
   replace Ggk2:=Lib.hid (RowIs.below Ggk2.out hbq)
   replace QW:=Lib.hid (RowIs.below QW.out hbq)
   replace HC:=Lib.hid (HC.out.below hbq)
   replace HD:=Lib.hid (HD.out.below hbq)
   replace B1:=Lib.hid (bup B1.out hbq)
   clear hbq
   clear CS1
   have cc54:w53.cell? ⟨w31.heap.size,0,none⟩=some (.slice p L1.length c):=RowIs.cell RX.out 0
   have zz55:w31.heap.size<w53.heap.size:=RowIs.lt RX.out
   go_wp2_with fail
   clear cc54 zz55
   refine (rTurned_c p L1.length L2.length c f' _ HX.out KX.out).mono ?_
   rintro e w56 ⟨⟨p2,c2,f2,rfl, -, -,hT2,hl2,hg2⟩,hbq⟩
   replace R1:=Lib.hid (RowIs.below R1.out hbq)
   replace H1:=Lib.hid (H1.out.below hbq)
   replace Ggr:=Lib.hid (RowIs.below Ggr.out hbq)
   replace Ggk:=Lib.hid (RowIs.below Ggk.out hbq)
   replace QV:=Lib.hid (RowIs.below QV.out hbq)
   replace HA:=Lib.hid (HA.out.below hbq)
   replace HB:=Lib.hid (HB.out.below hbq)
   replace HX:=Lib.hid (HX.out.below hbq)
   replace RX:=Lib.hid (RowIs.below RX.out hbq)
   replace Ggr2:=Lib.hid (RowIs.below Ggr2.out hbq)
   replace Ggk2:=Lib.hid (RowIs.below Ggk2.out hbq)
   replace QW:=Lib.hid (RowIs.below QW.out hbq)
   replace HC:=Lib.hid (HC.out.below hbq)
   replace HD:=Lib.hid (HD.out.below hbq)
   replace B1:=Lib.hid (bup B1.out hbq)
   have HX2:=Lib.hid hT2
   have HSP:=Lib.hid (fun (x:World) (h:Tab x p2 L2.length f2)=>rSpare_c p2 L2.length L1.length c2 f2 x h (okay_turn KX.out hl2 hg2))
   rw [show spareZ (lossA f2) L2.length L1.length = -1 by unfold spareZ; rw [loss_turn hg2,D2.out]] at HSP
   clear hT2 hl2 hg2 hbq
   have cc57:w56.cell? ⟨w31.heap.size,0,none⟩=some (.slice p L1.length c):=RowIs.cell RX.out 0
   have zz58:w31.heap.size<w56.heap.size:=RowIs.lt RX.out
   go_wp2_with fail
   clear cc57 zz58
   refine (HSP.out _ HX2.out).mono ?_
   rintro e w59 ⟨rfl,hbq⟩
   replace R1:=Lib.hid (RowIs.below R1.out hbq)
   replace H1:=Lib.hid (H1.out.below hbq)
   replace Ggr:=Lib.hid (RowIs.below Ggr.out hbq)
   replace Ggk:=Lib.hid (RowIs.below Ggk.out hbq)
   replace QV:=Lib.hid (RowIs.below QV.out hbq)
   replace HA:=Lib.hid (HA.out.below hbq)
   replace HB:=Lib.hid (HB.out.below hbq)
   replace HX:=Lib.hid (HX.out.below hbq)
   replace RX:=Lib.hid (RowIs.below RX.out hbq)
   replace Ggr2:=Lib.hid (RowIs.below Ggr2.out hbq)
   replace Ggk2:=Lib.hid (RowIs.below Ggk2.out hbq)
   replace QW:=Lib.hid (RowIs.below QW.out hbq)
   replace HC:=Lib.hid (HC.out.below hbq)
   replace HD:=Lib.hid (HD.out.below hbq)
   replace HX2:=Lib.hid (HX2.out.below hbq)
   replace B1:=Lib.hid (bup B1.out hbq)
   clear hbq
   clear HSP
   have cc60:w59.cell? ⟨w31.heap.size,0,none⟩=some (.slice p L1.length c):=RowIs.cell RX.out 0
   have zz61:w31.heap.size<w59.heap.size:=RowIs.lt RX.out
   obtain ⟨v,hv,hP, -⟩:=pure_named p L1.length c f' (by omega) RX2.out
   replace hv:=hv.elim (fun h=>absurd EX.out h.1) (fun h=>h.2)
   rw [KL.out] at hv
   have HPU:=Lib.hid hP
   clear hP
   rcases hv with ⟨rfl, -⟩ | ⟨i,k,hi,hk,hp, -, -,rfl⟩
   ·skip
    go_wp2_with fail
    clear cc60 zz61
    refine (HPU.out _ HX.out).mono ?_
    rintro e w62 ⟨rfl,hbq⟩
    replace R1:=Lib.hid (RowIs.below R1.out hbq)
    replace H1:=Lib.hid (H1.out.below hbq)
    replace Ggr:=Lib.hid (RowIs.below Ggr.out hbq)
    replace Ggk:=Lib.hid (RowIs.below Ggk.out hbq)
    replace QV:=Lib.hid (RowIs.below QV.out hbq)
    replace HA:=Lib.hid (HA.out.below hbq)
    replace HB:=Lib.hid (HB.out.below hbq)
    replace HX:=Lib.hid (HX.out.below hbq)
    replace RX:=Lib.hid (RowIs.below RX.out hbq)
    replace Ggr2:=Lib.hid (RowIs.below Ggr2.out hbq)
    replace Ggk2:=Lib.hid (RowIs.below Ggk2.out hbq)
    replace QW:=Lib.hid (RowIs.below QW.out hbq)
    replace HC:=Lib.hid (HC.out.below hbq)
    replace HD:=Lib.hid (HD.out.below hbq)
    replace HX2:=Lib.hid (HX2.out.below hbq)
    replace B1:=Lib.hid (bup B1.out hbq)
    clear hbq
    have cc63:w62.cell? ⟨w31.heap.size,0,none⟩=some (.slice p L1.length c):=RowIs.cell RX.out 0
    have zz64:w31.heap.size<w62.heap.size:=RowIs.lt RX.out
    clear HPU
    go_wp2_with fail
    clear cc63 zz64
    refine (works_c _).mono ?_
    rintro e w65 ⟨rfl,hbq⟩
    go_wp2_with fail
    go_ret
    exact ⟨rfl,bup B1.out hbq⟩
   ·skip
    rw [pure_same hi hk] at hp
    have hpu:=left_pure (i:=i) (k:=k) KO.out (g:=f') (fun i j=>by rw [E1.out,E2.out]; exact HG.out i j) (by rw [E1.out]; exact hi) (by rw [E2.out]; exact hk) (by rw [E1.out,E2.out]; exact hp)
    rw [E1.out,E2.out] at hpu
    have HU:=Lib.hid hpu
    clear hp hpu
    go_wp2_with fail
    clear cc60 zz61
    refine (HPU.out _ HX.out).mono ?_
    rintro e w66 ⟨rfl,hbq⟩
    replace R1:=Lib.hid (RowIs.below R1.out hbq)
    replace H1:=Lib.hid (H1.out.below hbq)
    replace Ggr:=Lib.hid (RowIs.below Ggr.out hbq)
    replace Ggk:=Lib.hid (RowIs.below Ggk.out hbq)
    replace QV:=Lib.hid (RowIs.below QV.out hbq)
    replace HA:=Lib.hid (HA.out.below hbq)
    replace HB:=Lib.hid (HB.out.below hbq)
    replace HX:=Lib.hid (HX.out.below hbq)
    replace RX:=Lib.hid (RowIs.below RX.out hbq)
    replace Ggr2:=Lib.hid (RowIs.below Ggr2.out hbq)
    replace Ggk2:=Lib.hid (RowIs.below Ggk2.out hbq)
    replace QW:=Lib.hid (RowIs.below QW.out hbq)
    replace HC:=Lib.hid (HC.out.below hbq)
    replace HD:=Lib.hid (HD.out.below hbq)
    replace HX2:=Lib.hid (HX2.out.below hbq)
    replace B1:=Lib.hid (bup B1.out hbq)
    clear hbq
    clear HPU
    have cc67:w66.cell? ⟨w.heap.size,0,none⟩=some (.slice (some ⟨tb,ofs,none⟩) m cap):=RowIs.cell R1.out 0
    have zz68:w.heap.size<w66.heap.size:=RowIs.lt R1.out
    obtain ⟨ab,ao,hab,haz,hac⟩:=Cells.at HA.out.cells 0 (by omega)
    obtain ⟨bb,bo,hbb,hbz,hbc⟩:=Cells.at HB.out.cells 0 (by omega)
    subst hab hbb
    have ac:=hac i hi
    have bc:=hbc k hk
    dsimp only at ac bc
    clear hac hbc
    have i1:=rising_get S1.out hi
    have i2:=rising_get S2.out hk
    obtain ⟨i3,hi3⟩ : ∃ i3,L1.getD i 0=i3:=⟨_,rfl⟩
    obtain ⟨k3,hk3⟩ : ∃ k3,L2.getD k 0=k3:=⟨_,rfl⟩
    rw [hi3] at ac i1
    rw [hk3] at bc i2
    have d1:decide (i<L1.length)=true:=decide_eq_true hi
    have d2:decide (k<L2.length)=true:=decide_eq_true hk
    have d3:decide ((i:Int)<(L1.length:Int))=true:=decide_eq_true (by omega)
    have d4:decide ((k:Int)<(L2.length:Int))=true:=decide_eq_true (by omega)
    have CP:=fun (x:World) (h:Below w66.heap.size w66 x)=>rIsPure_c (some ⟨tb,ofs,none⟩) m n cap f i3 k3 x (H1.out.below h) KO.out i1 i2
    rw [← hi3, ← hk3,HU.out,hi3,hk3] at CP
    replace CP:=Lib.hid CP
    have hlc69:=fun (x:Later w66)=>later_cell x
    go_wp2_with fail
    refine wp_region_later (by kernel_rfl) (by kernel_rfl) ?_
    repeat (go_big_quiet_step ((first | (with_reducible refine calls_later (CP.out _ (Later.h _))) | (with_reducible refine calls_later (works_c _)))))
    refine wpQuiet_nil ?_
    clear hlc69
    clear cc67 zz68
    rintro ⟨w70,hbl71⟩
    replace R1:=Lib.hid (RowIs.below R1.out hbl71)
    replace H1:=Lib.hid (H1.out.below hbl71)
    replace Ggr:=Lib.hid (RowIs.below Ggr.out hbl71)
    replace Ggk:=Lib.hid (RowIs.below Ggk.out hbl71)
    replace QV:=Lib.hid (RowIs.below QV.out hbl71)
    replace HA:=Lib.hid (HA.out.below hbl71)
    replace HB:=Lib.hid (HB.out.below hbl71)
    replace HX:=Lib.hid (HX.out.below hbl71)
    replace RX:=Lib.hid (RowIs.below RX.out hbl71)
    replace Ggr2:=Lib.hid (RowIs.below Ggr2.out hbl71)
    replace Ggk2:=Lib.hid (RowIs.below Ggk2.out hbl71)
    replace QW:=Lib.hid (RowIs.below QW.out hbl71)
    replace HC:=Lib.hid (HC.out.below hbl71)
    replace HD:=Lib.hid (HD.out.below hbl71)
    replace HX2:=Lib.hid (HX2.out.below hbl71)
    replace B1:=Lib.hid (bup B1.out hbl71)
    go_wp2_with fail
    go_ret
    exact ⟨rfl,B1.out⟩
end Go.Proofs.Ytkbbhihndigmeaa

namespace Go.Proofs.Ytkbbhihndigmeaa
open Go Go.RowKit Go.ChangeShapes Go.WideShapes Go.ChangeAt
theorem own_left:ownKnob Try.prog.godebug = .none:=by kernel_rfl
theorem laidOut_left:laidOutB Try.prog=true:=by kernel_rfl
set_option maxRecDepth 100000 in
theorem left_lifted (os:Os) (started:os.Started) (H:Type) (enc:TypeId × Value→H) :
 ReturnsInHanded {} Try.checked os 11 .any (Rows.searchLeftSpec.pre6 enc Try.prog Try.f11 Rows.searchLeftRow.domain false) (Rows.searchLeftSpec.post enc Try.prog Try.f11 false true false false):=by
 refine returnsInHanded_of_change (C:=Try.checked) own_left started (by kernel_rfl) Try.func11
  (ChangeSpec.witness6 (enc:=enc) (C:=Try.checked) false ⟨#[], #[.agg #[.slice .none 0 0]],[]⟩ 8 (by kernel_rfl) (by kernel_rfl) (by kernel_rfl) (by kernel_rfl)) ?_
 intro W base args ds gs before hval0 hW hcnd _
 have hval : ∀ (j:Nat) t v,Try.f11.params[j]? = some t→args[j]? = some v→Value.okWide Try.prog W .any base t v:=hval0
 have hW':=hW
 obtain ⟨p,q,hA0,hV,rfl,hfz,hnd⟩:=hW
 have hA:DataW.TrodAll enc Try.prog W 0 (fun _=>true) true Try.f11.params.toList args.toList ds p:=hA0
 rw [Try.params11] at hA hval
 obtain ⟨v0,vs0,d0,ds0,p0,q0,hargs,rfl,rfl,h0,r0⟩:=trodAll_cons hA
 obtain ⟨rfl,rfl,rfl⟩:=trodAll_nil r0
 obtain rfl:args = #[v0]:=by cases args; simp_all
 obtain ⟨rfl,rfl⟩:=trodVars_none hV
 obtain ⟨a0,m0,cap0,f0,rfl,hT0⟩:=open_table (hval 0 24 v0 rfl rfl) h0
 refine (law_left_c a0 m0 cap0 f0 W hT0).mono fun e W' ⟨he,hb⟩ => ?_
 subst he
 have hlt:=hW'.lt
 simp only [List.append_nil] at hlt
 refine ⟨_,rfl,_,_,_,[],p0 ++ [],[],hW',trodAll_mk1 (shut_bool Try.underlying4 true),?_,rfl,hb.frame _,fun h=>Bool.noConfusion h⟩
 exact trodAll_cons_mk (Below.trod laidOut_left (by kernel_rfl) (of_decide_eq_true (by kernel_rfl)) h0 hb fun x hx=>hlt x (by simp [hx])) trodAll_mk0
theorem left_holds:Rows.SearchLeftSaid:=
 OpenClaim.holds_of_wide 11 Try.f11 rfl rfl rfl rfl rfl rfl rfl ⟨rfl,rfl,rfl,rfl,rfl⟩ rfl rfl rfl rfl rfl (by kernel_rfl) Try.func11 (by kernel_rfl)
  (of_decide_eq_true (by kernel_rfl)) (by unfold Func.isWrapper; first | (rw [if_pos (by decide +kernel)]; kernel_rfl) | (rw [if_neg (by decide +kernel)]; exact ⟨rfl,rfl⟩))
  (fun os started H enc _=>left_lifted os started H enc)
end Go.Proofs.Ytkbbhihndigmeaa
