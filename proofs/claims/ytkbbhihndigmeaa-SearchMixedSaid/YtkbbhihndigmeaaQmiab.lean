/- The law SearchMixed answers true: what is mixed of two plans of rows is sure of at least the lesser of what both are, and is best if both are. Written by tools/law3mixed.py. -/
import Derived.Shelf.Abstract
import Derived.Shelf.RegionOpen
import Derived.Conc.Own4
import Derived.Test.YtkbbhihndigmeaaQmiaa
import Derived.Test.YtkbbhihndigmeaaBasac
namespace Go.Proofs.Ytkbbhihndigmeaa
open Go Go.RowKit Go.Shelf
set_option maxRecDepth 100000 in
set_option maxHeartbeats 16000000 in
theorem law_mixed_c (a:Option Addr) (m cap:Nat) (f:Nat→Row3) (pa:Option Addr) (k pcap:Nat) (p:Nat→Int) (qa:Option Addr) (l qcap:Nat) (q:Nat→Int) (w:World) (hf:Tab w a m f) (hp:Shorts w pa k p) (hpb : ∀ i,i<k→0≤p i∧p i≤65535) (hq:Shorts w qa l q) (hqb : ∀ i,i<l→0≤q i∧q i≤65535) :
 Calls Try.prog 10 #[tabV a m cap, .slice pa k pcap, .slice qa l qcap] w fun e w'=>e = .returned (.bool true)∧Below w.heap.size w w':=by
 obtain ⟨W,hW⟩ : ∃ W,w.alloc (.cells #[.slice a m cap] 24)=W:=⟨_,rfl⟩
 have hB:Below w.heap.size w W:=by rw [← hW]; exact Below.alloc1 (Below.refl _ _) _ (Nat.le_refl _)
 have R1:=Lib.hid (show RowIs W w.heap.size #[.slice a m cap] 24 by rw [← hW]; exact heap_new_at _ _ _ rfl)
 have H1:=Lib.hid (hf.below hB)
 have HP:=Lib.hid (hp.below hB)
 have HQ:=Lib.hid (hq.below hB)
 have PB:=Lib.hid hpb
 have QB:=Lib.hid hqb
 have B1:=Lib.hid hB
 clear hf hp hq hB hpb hqb
 cases hT:fineB m f with
 | false=>
   have HF:=Lib.hid hT
   clear hT
   go_enter Try.func10,Try.ntmps10
   have cc1:W.cell? ⟨w.heap.size,0,none⟩=some (.slice a m cap):=RowIs.cell R1.out 0
   have zz2:w.heap.size<W.heap.size:=RowIs.lt R1.out
   go_wp2_with fail
   clear cc1 zz2 hW
   refine (fine_c a m cap f _ H1.out).mono ?_
   rintro e w3 ⟨rfl,hbq⟩
   replace R1:=Lib.hid (RowIs.below R1.out hbq)
   replace H1:=Lib.hid (H1.out.below hbq)
   replace HP:=Lib.hid (Shorts.below HP.out hbq)
   replace HQ:=Lib.hid (Shorts.below HQ.out hbq)
   replace B1:=Lib.hid (bup B1.out hbq)
   clear hbq
   rw [HF.out]
   have cc4:w3.cell? ⟨w.heap.size,0,none⟩=some (.slice a m cap):=RowIs.cell R1.out 0
   have zz5:w.heap.size<w3.heap.size:=RowIs.lt R1.out
   go_wp2_with fail
   clear cc4 zz5
   refine (works_c _).mono ?_
   rintro e w6 ⟨rfl,hbq⟩
   go_wp2_with fail
   go_ret
   exact ⟨rfl,bup B1.out hbq⟩
 | true=>
   have HF:=Lib.hid hT
   by_cases h1:(10:Int)<k
   ·have h1b:decide ((10:Int)<k)=true:=decide_eq_true h1
    clear hT
    go_enter Try.func10,Try.ntmps10
    have cc7:W.cell? ⟨w.heap.size,0,none⟩=some (.slice a m cap):=RowIs.cell R1.out 0
    have zz8:w.heap.size<W.heap.size:=RowIs.lt R1.out
    go_wp2_with fail
    clear cc7 zz8 hW
    refine (fine_c a m cap f _ H1.out).mono ?_
    rintro e w9 ⟨rfl,hbq⟩
    replace R1:=Lib.hid (RowIs.below R1.out hbq)
    replace H1:=Lib.hid (H1.out.below hbq)
    replace HP:=Lib.hid (Shorts.below HP.out hbq)
    replace HQ:=Lib.hid (Shorts.below HQ.out hbq)
    replace B1:=Lib.hid (bup B1.out hbq)
    clear hbq
    rw [HF.out]
    have cc10:w9.cell? ⟨w.heap.size,0,none⟩=some (.slice a m cap):=RowIs.cell R1.out 0
    have zz11:w.heap.size<w9.heap.size:=RowIs.lt R1.out
    go_wp2_with fail
    clear cc10 zz11
    refine (works_c _).mono ?_
    rintro e w12 ⟨rfl,hbq⟩
    go_wp2_with fail
    go_ret
    exact ⟨rfl,bup B1.out hbq⟩
   by_cases h2:(10:Int)<l
   ·have h2b:decide ((10:Int)<l)=true:=decide_eq_true h2
    clear hT
    go_enter Try.func10,Try.ntmps10
    have cc13:W.cell? ⟨w.heap.size,0,none⟩=some (.slice a m cap):=RowIs.cell R1.out 0
    have zz14:w.heap.size<W.heap.size:=RowIs.lt R1.out
    go_wp2_with fail
    clear cc13 zz14 hW
    refine (fine_c a m cap f _ H1.out).mono ?_
    rintro e w15 ⟨rfl,hbq⟩
    replace R1:=Lib.hid (RowIs.below R1.out hbq)
    replace H1:=Lib.hid (H1.out.below hbq)
    replace HP:=Lib.hid (Shorts.below HP.out hbq)
    replace HQ:=Lib.hid (Shorts.below HQ.out hbq)
    replace B1:=Lib.hid (bup B1.out hbq)
    clear hbq
    rw [HF.out]
    have cc16:w15.cell? ⟨w.heap.size,0,none⟩=some (.slice a m cap):=RowIs.cell R1.out 0
    have zz17:w.heap.size<w15.heap.size:=RowIs.lt R1.out
    go_wp2_with fail
    clear cc16 zz17
    refine (works_c _).mono ?_
    rintro e w18 ⟨rfl,hbq⟩
    go_wp2_with fail
    go_ret
    exact ⟨rfl,bup B1.out hbq⟩
   have hE:tableE m f=0:=of_decide_eq_true hT
   have hO:=okay_of hE
   obtain ⟨n,hn⟩ : ∃ n,(f 0).n=n:=⟨_,rfl⟩
   rw [hn] at hO
   have hm4:=hO.m4
   have hm1:=hO.m1
   have hn4:=hO.n4
   have hm2:m≤1048576:=by omega
   have hr2 : ∀ i,i<m→(f i).n≤1048576:=fun i hi=>by rw [hO.len i hi]; omega
   have KO:=Lib.hid hO
   have RR:=Lib.hid hr2
   have hk10:k≤10:=by omega
   have hl10:l≤10:=by omega
   obtain ⟨tb,ofs,ha0,htb, -⟩:=Tab.at H1.out 0 (by omega)
   subst ha0
   obtain ⟨r,hr⟩ : ∃ r,planX m k p=r:=⟨_,rfl⟩
   obtain ⟨c,hc⟩ : ∃ c,planX m l q=c:=⟨_,rfl⟩
   have hrb : ∀ i,0≤r i∧r i≤65535:=fun i=>by have:=planX_bd (n:=m) PB.out i; rw [hr] at this; omega
   have hcb : ∀ i,0≤c i∧c i≤65535:=fun i=>by have:=planX_bd (n:=m) QB.out i; rw [hc] at this; omega
   have hr0:0<sumI r m:=by rw [← hr]; exact planX_pos hm1 PB.out
   have hc0:0<sumI c m:=by rw [← hc]; exact planX_pos hm1 QB.out
   obtain ⟨a1,a2,ha, -, -⟩:=sure_is hO (fun i _=>by have:=hrb i; omega) hr0
   obtain ⟨b1,b2,hb, -, -⟩:=sure_is hO (fun i _=>by have:=hcb i; omega) hc0
   have hz0:0<sumI (fun i=>r i+c i) m:=sumI_some (fun i _=>by have:=hrb i; have:=hcb i; omega) (by
    refine Classical.byContradiction fun hno => ?_
    have:sumI r m=0:=sumI_all0 fun i hi=>by
     have h1:=hrb i; have h2:=hcb i
     refine Classical.byContradiction fun h3=>hno ⟨i,hi,by omega⟩
    omega)
   obtain ⟨z1,z2,hz, -, -⟩:=sure_is hO (r:=fun i=>r i+c i) (fun i _=>by have:=hrb i; have:=hcb i; omega) hz0
   have hmx:=mix_sure ha hb hz
   obtain ⟨v1,hv1⟩ : ∃ v1,(valOf (lossA f) m n).1=v1:=⟨_,rfl⟩
   obtain ⟨v2,hv2⟩ : ∃ v2,(valOf (lossA f) m n).2=v2:=⟨_,rfl⟩
   have rs:=sum_upto (x:=r) (m:=m) (b:=65535) fun i _=>(hrb i).2
   have cs:=sum_upto (x:=c) (m:=m) (b:=65535) fun i _=>(hcb i).2
   have zs:=sum_upto (x:=fun i=>r i+c i) (m:=m) (b:=131070) fun i _=>by have:=hrb i; have:=hcb i; omega
   have a2b:a2≤96000000:=by have:=ha.d2; omega
   have b2b:b2≤96000000:=by have:=hb.d2; omega
   have z2b:z2≤96000000:=by have:=hz.d2; omega
   have A:=Lib.hid ha
   have BD:=Lib.hid hb
   have ZD:=Lib.hid hz
   have MX:=Lib.hid hmx
   have V1:=Lib.hid hv1
   have V2:=Lib.hid hv2
   have HR:=Lib.hid hr
   have HC:=Lib.hid hc
   have HN:=Lib.hid hn
   have A2:=Lib.hid a2b
   have B2:=Lib.hid b2b
   have Z2:=Lib.hid z2b
   have RB:=Lib.hid hrb
   have CB:=Lib.hid hcb
   have R0:=Lib.hid hr0
   clear ha hb hz hmx hv1 hv2 hr hc hn hO hE hT hr2 rs cs zs a2b b2b z2b hrb hcb hr0 hc0 hz0
   go_enter Try.func10,Try.ntmps10
   have cc19:W.cell? ⟨w.heap.size,0,none⟩=some (.slice (some ⟨tb,ofs,none⟩) m cap):=RowIs.cell R1.out 0
   have zz20:w.heap.size<W.heap.size:=RowIs.lt R1.out
   go_wp2_with fail
   clear cc19 zz20 hW
   refine (fine_c (some ⟨tb,ofs,none⟩) m cap f _ H1.out).mono ?_
   rintro e w21 ⟨rfl,hbq⟩
   replace R1:=Lib.hid (RowIs.below R1.out hbq)
   replace H1:=Lib.hid (H1.out.below hbq)
   replace HP:=Lib.hid (Shorts.below HP.out hbq)
   replace HQ:=Lib.hid (Shorts.below HQ.out hbq)
   replace B1:=Lib.hid (bup B1.out hbq)
   clear hbq
   rw [HF.out]
   have cc22:w21.cell? ⟨w.heap.size,0,none⟩=some (.slice (some ⟨tb,ofs,none⟩) m cap):=RowIs.cell R1.out 0
   have zz23:w.heap.size<w21.heap.size:=RowIs.lt R1.out
   go_wp2_with fail
   clear cc22 zz23
   refine (value_c (some ⟨tb,ofs,none⟩) m n cap f _ H1.out KO.out).mono ?_
   rintro e w24 ⟨hres,hbq⟩
   obtain ⟨gr,xr,gk,xk,hbr,hbc,rfl,hrr,hrk⟩:=hres
   rw [V1.out,V2.out]
   replace R1:=Lib.hid (RowIs.below R1.out hbq)
   replace H1:=Lib.hid (H1.out.below hbq)
   replace HP:=Lib.hid (Shorts.below HP.out hbq)
   replace HQ:=Lib.hid (Shorts.below HQ.out hbq)
   replace B1:=Lib.hid (bup B1.out hbq)
   clear hbq
   have BR1:=Lib.hid hbr
   have BC1:=Lib.hid hbc
   have Ggr:=Lib.hid hrr
   have Ggk:=Lib.hid hrk
   clear hbr hbc hrr hrk
   obtain ⟨Y25,hY25⟩ : ∃ Y25,w24.alloc (.cells #[.int .i64 v1, .int .i64 v2] 30)=Y25:=⟨_,rfl⟩
   have hb26:Below w24.heap.size w24 Y25:=by rw [← hY25]; exact Below.alloc1 (Below.refl _ _) _ (Nat.le_refl _)
   have hr27:RowIs Y25 w24.heap.size #[.int .i64 v1, .int .i64 v2] 30:=by rw [← hY25]; exact heap_new_at _ _ _ rfl
   replace R1:=Lib.hid (RowIs.below R1.out hb26)
   replace H1:=Lib.hid (H1.out.below hb26)
   replace HP:=Lib.hid (Shorts.below HP.out hb26)
   replace HQ:=Lib.hid (Shorts.below HQ.out hb26)
   replace Ggr:=Lib.hid (RowIs.below Ggr.out hb26)
   replace Ggk:=Lib.hid (RowIs.below Ggk.out hb26)
   replace B1:=Lib.hid (bup B1.out hb26)
   have Q7:=Lib.hid hr27
   clear hb26 hr27
   have cc28:Y25.cell? ⟨w.heap.size,0,none⟩=some (.slice (some ⟨tb,ofs,none⟩) m cap):=RowIs.cell R1.out 0
   have zz29:w.heap.size<Y25.heap.size:=RowIs.lt R1.out
   have hsm:=val_small KO.out BR1.out
   rw [V1.out,V2.out] at hsm
   have VS:=Lib.hid hsm
   clear hsm
   go_wp2_with fail
   clear hY25 cc28 zz29
   refine RC.wp_region_runF (C:=fun y=>Below Y25.heap.size Y25 y) (fun y=>Below Y25.heap.size Y25 y∧True) (by kernel_rfl) (fun _ _ h hb=>⟨h.1.trans (hb.mono h.1.size),trivial⟩) ⟨Below.refl _ _,trivial⟩ ?_
   change RC.Run _ _ _ _ _ 12 _ _ _
   refine RC.run_take (i:=0) (.pointer (some ⟨w.heap.size,0,none⟩)) rfl (by kernel_rfl) (by kernel_rfl) (by kernel_rfl) rfl (fun y h=>h.1) (fun y hy=>by have k0:=R1.out.below hy; have q0:=RowIs.cell k0 0; have qz:=RowIs.lt k0; go_simp) ?_
   simp only [puts]
   refine RC.run_take (i:=1) (.slice (some ⟨tb,ofs,none⟩) m cap) rfl (by kernel_rfl) (by kernel_rfl) (by kernel_rfl) rfl (fun y h=>h.1) (fun y hy=>by have k0:=R1.out.below hy; have q0:=RowIs.cell k0 0; have qz:=RowIs.lt k0; go_simp) ?_
   simp only [puts]
   refine RC.run_take (i:=2) (.int .i64 m) rfl (by kernel_rfl) (by kernel_rfl) (by kernel_rfl) rfl (fun y h=>h.1) (fun y hy=>by have k0:=R1.out.below hy; have q0:=RowIs.cell k0 0; have qz:=RowIs.lt k0; go_simp) ?_
   simp only [puts]
   refine RC.run_take (i:=3) (.slice pa k pcap) rfl (by kernel_rfl) (by kernel_rfl) (by kernel_rfl) rfl (fun y h=>h.1) (fun y hy=>by have k0:=R1.out.below hy; have q0:=RowIs.cell k0 0; have qz:=RowIs.lt k0; go_simp) ?_
   simp only [puts]
   refine RC.run_take (i:=5) (.pointer (some ⟨w.heap.size,0,none⟩)) rfl (by kernel_rfl) (by kernel_rfl) (by kernel_rfl) rfl (fun y h=>h.1) (fun y hy=>by have k0:=R1.out.below hy; have q0:=RowIs.cell k0 0; have qz:=RowIs.lt k0; go_simp) ?_
   simp only [puts]
   refine RC.run_take (i:=6) (.slice (some ⟨tb,ofs,none⟩) m cap) rfl (by kernel_rfl) (by kernel_rfl) (by kernel_rfl) rfl (fun y h=>h.1) (fun y hy=>by have k0:=R1.out.below hy; have q0:=RowIs.cell k0 0; have qz:=RowIs.lt k0; go_simp) ?_
   simp only [puts]
   refine RC.run_take (i:=7) (.int .i64 m) rfl (by kernel_rfl) (by kernel_rfl) (by kernel_rfl) rfl (fun y h=>h.1) (fun y hy=>by have k0:=R1.out.below hy; have q0:=RowIs.cell k0 0; have qz:=RowIs.lt k0; go_simp) ?_
   simp only [puts]
   refine RC.run_take (i:=8) (.slice qa l qcap) rfl (by kernel_rfl) (by kernel_rfl) (by kernel_rfl) rfl (fun y h=>h.1) (fun y hy=>by have k0:=R1.out.below hy; have q0:=RowIs.cell k0 0; have qz:=RowIs.lt k0; go_simp) ?_
   simp only [puts]
   refine RC.run_only (i:=4) (by kernel_rfl) (RC.at_call (fun v y=> ∃ g1 c1,v=(.slice (some ⟨g1,0,none⟩) m c1:Value)∧(Below Y25.heap.size Y25 y∧True)∧Ints y (some ⟨g1,0,none⟩) m r) rfl rfl (fun v y y1 ⟨g1,c1,e,h,h2⟩ hb=>⟨g1,c1,e,⟨(h).1.trans (hb.mono (h).1.size),trivial⟩,Cells.below h2 hb⟩) (fun v y ⟨_,_,_,h,_⟩=>h.1) (fun y hy => ?_) ?_)
   ·have hy1:=hy.1
    refine ⟨_, #[.int .i64 m, .slice pa k pcap],(Go.Conc.run_call_body (fn:=Try.f42) rfl Try.func42 (by kernel_rfl) (by kernel_rfl)).trans (by simp [Act.eval]),(Planned_c pa m k pcap p y (HP.out.below hy1) (⟨hm1,hm4⟩) (by omega) PB.out).mono ?_⟩
    rintro e y1 ⟨g1,c1,rfl,hfact,hb⟩
    rw [HR.out] at hfact
    exact ⟨_,rfl,g1,c1,rfl,⟨(hy).1.trans (hb.mono (hy).1.size),trivial⟩,hfact⟩
   rintro v ⟨_,g1,c1,rfl, -⟩
   simp only [puts]
   refine RC.run_mono _ _ _ (fun y=>((Below Y25.heap.size Y25 y∧True)∧Ints y (some ⟨g1,0,none⟩) m r)) _ (by
    rintro y ⟨g1',c1',e,h1,h2⟩
    obtain ⟨rfl, -,rfl⟩:=sl_inj e
    exact ⟨h1,h2⟩) ?_
   refine RC.run_only (i:=9) (by kernel_rfl) (RC.at_call (fun v y=> ∃ g2 c2,v=(.slice (some ⟨g2,0,none⟩) m c2:Value)∧((Below Y25.heap.size Y25 y∧True)∧Ints y (some ⟨g1,0,none⟩) m r)∧Ints y (some ⟨g2,0,none⟩) m c) rfl rfl (fun v y y1 ⟨g2,c2,e,h,h2⟩ hb=>⟨g2,c2,e,⟨⟨(h.1).1.trans (hb.mono (h.1).1.size),trivial⟩,Cells.below (h).2 hb⟩,Cells.below h2 hb⟩) (fun v y ⟨_,_,_,h,_⟩=>h.1.1) (fun y hy => ?_) ?_)
   ·have hy1:=hy.1.1
    refine ⟨_, #[.int .i64 m, .slice qa l qcap],(Go.Conc.run_call_body (fn:=Try.f42) rfl Try.func42 (by kernel_rfl) (by kernel_rfl)).trans (by simp [Act.eval]),(Planned_c qa m l qcap q y (HQ.out.below hy1) (⟨hm1,hm4⟩) (by omega) QB.out).mono ?_⟩
    rintro e y1 ⟨g2,c2,rfl,hfact,hb⟩
    rw [HC.out] at hfact
    exact ⟨_,rfl,g2,c2,rfl,⟨⟨(hy.1).1.trans (hb.mono (hy.1).1.size),trivial⟩,Cells.below (hy).2 hb⟩,hfact⟩
   rintro v ⟨_,g2,c2,rfl, -⟩
   simp only [puts]
   refine RC.run_mono _ _ _ (fun y=>(((Below Y25.heap.size Y25 y∧True)∧Ints y (some ⟨g1,0,none⟩) m r)∧Ints y (some ⟨g2,0,none⟩) m c)) _ (by
    rintro y ⟨g2',c2',e,h1,h2⟩
    obtain ⟨rfl, -,rfl⟩:=sl_inj e
    exact ⟨h1,h2⟩) ?_
   refine RC.run_take (i:=10) (.slice (some ⟨g1,0,none⟩) m c1) rfl (by kernel_rfl) (by kernel_rfl) (by kernel_rfl) rfl (fun y h=>h.1.1.1) (fun y hy=>by have k0:=R1.out.below hy; have q0:=RowIs.cell k0 0; have qz:=RowIs.lt k0; go_simp) ?_
   simp only [puts]
   refine RC.run_take (i:=11) (.slice (some ⟨g2,0,none⟩) m c2) rfl (by kernel_rfl) (by kernel_rfl) (by kernel_rfl) rfl (fun y h=>h.1.1.1) (fun y hy=>by have k0:=R1.out.below hy; have q0:=RowIs.cell k0 0; have qz:=RowIs.lt k0; go_simp) ?_
   simp only [puts]
   refine ⟨by kernel_rfl,fun w30 hy => ?_⟩
   obtain ⟨⟨⟨hbq, -⟩,hf0⟩,hf1⟩:=hy
   replace R1:=Lib.hid (RowIs.below R1.out hbq)
   replace H1:=Lib.hid (H1.out.below hbq)
   replace HP:=Lib.hid (Shorts.below HP.out hbq)
   replace HQ:=Lib.hid (Shorts.below HQ.out hbq)
   replace Ggr:=Lib.hid (RowIs.below Ggr.out hbq)
   replace Ggk:=Lib.hid (RowIs.below Ggk.out hbq)
   replace Q7:=Lib.hid (RowIs.below Q7.out hbq)
   replace B1:=Lib.hid (bup B1.out hbq)
   have HF0:=Lib.hid hf0
   have HF1:=Lib.hid hf1
   clear hbq hf0 hf1
   have cc31:w30.cell? ⟨w.heap.size,0,none⟩=some (.slice (some ⟨tb,ofs,none⟩) m cap):=RowIs.cell R1.out 0
   have zz32:w.heap.size<w30.heap.size:=RowIs.lt R1.out
   have hHA : ∀ y,Below w30.heap.size w30 y→g1<y.heap.size ∧ ∀ i,i<m→y.cell? ⟨g1,i,none⟩=some (.int .i64 (r i)):=fun y hy=>by
    obtain ⟨b2,o2,e2,hz2,hc2⟩:=Cells.at (Cells.below HF0.out hy) 0 (by omega)
    obtain ⟨rfl,rfl⟩:b2=g1∧o2=0:=by injection e2 with he; injection he with h1 h2 _; exact ⟨h1.symm,h2.symm⟩
    refine ⟨hz2,fun i hi => ?_⟩
    have:=hc2 i hi
    rwa [Nat.zero_add] at this
   have HA:=Lib.hid hHA
   clear hHA
   have hHC2 : ∀ y,Below w30.heap.size w30 y→g2<y.heap.size ∧ ∀ i,i<m→y.cell? ⟨g2,i,none⟩=some (.int .i64 (c i)):=fun y hy=>by
    obtain ⟨b2,o2,e2,hz2,hc2⟩:=Cells.at (Cells.below HF1.out hy) 0 (by omega)
    obtain ⟨rfl,rfl⟩:b2=g2∧o2=0:=by injection e2 with he; injection he with h1 h2 _; exact ⟨h1.symm,h2.symm⟩
    refine ⟨hz2,fun i hi => ?_⟩
    have:=hc2 i hi
    rwa [Nat.zero_add] at this
   have HC2:=Lib.hid hHC2
   clear hHC2
   have hHD : ∀ y,Below w30.heap.size w30 y→gr<y.heap.size ∧ ∀ i,i<m→y.cell? ⟨gr,i,none⟩=some (.int .i64 (xr i)):=fun y hy=>by
    obtain ⟨b2,o2,e2,hz2,hc2⟩:=Cells.at (Cells.below (rowA_ints Ggr.out) hy) 0 (by omega)
    obtain ⟨rfl,rfl⟩:b2=gr∧o2=0:=by injection e2 with he; injection he with h1 h2 _; exact ⟨h1.symm,h2.symm⟩
    refine ⟨hz2,fun i hi => ?_⟩
    have:=hc2 i hi
    rwa [Nat.zero_add] at this
   have HD:=Lib.hid hHD
   clear hHD
   go_wp2_with fail
   clear cc31 zz32
   go_loopw [13,14,15] (fun x y i wr=> ∃ (k:Nat),k≤m∧i = .int .i64 k∧OwnV 2 wr w30.heap.size (numL (fun i=>r i+c i) k) x∧OwnV 2 wr w30.heap.size (numL (fun i=>r i+xr i) k) y∧(∀ g,x.ownBlock=some g→y.ownBlock ≠ some g)∧Below w30.heap.size w30 wr) (fun _ _ i _=>m-(intOf i).toNat)
   case atStart=>exact ⟨0,Nat.zero_le _,rfl,ownV_nil _ _ _,ownV_nil _ _ _,fun g h=>(by cases h),Below.refl _ _⟩
   case round=>
    obtain ⟨i,hi,rfl,hx,hy,hd,hb⟩:=hrel
    have r0:wr.cell? ⟨w.heap.size,0,none⟩=some (.slice (some ⟨tb,ofs,none⟩) m cap):=RowIs.cell (R1.out.below hb) 0
    have rz:w.heap.size<wr.heap.size:=RowIs.lt (R1.out.below hb)
    by_cases hlt:i<m
    ·have HX:=Lib.hid hx
     have HY:=Lib.hid hy
     have HDJ:=Lib.hid hd
     have HB:=Lib.hid hb
     clear hx hy hd hb
     have bn1:=RB.out i
     have bn2:=CB.out i
     have bn3:=BR1.out.few i hlt
     obtain ⟨n1,hn1⟩ : ∃ n1,r i=n1:=⟨_,rfl⟩
     obtain ⟨n2,hn2⟩ : ∃ n2,c i=n2:=⟨_,rfl⟩
     obtain ⟨n3,hn3⟩ : ∃ n3,xr i=n3:=⟨_,rfl⟩
     rw [hn1] at bn1
     rw [hn2] at bn2
     rw [hn3] at bn3
     have hw1:IntKind.i64.wrap (n1+n2)=n1+n2:=IntWalk.i64_in _ (by omega)
     have hw2:IntKind.i64.wrap (n1+n3)=n1+n3:=IntWalk.i64_in _ (by omega)
     have hmin : ¬ (100000000:Int)≤n1+n3:=by omega
     have N1:=Lib.hid hn1
     have N2:=Lib.hid hn2
     have N3:=Lib.hid hn3
     clear hn1 hn2 hn3
     have ht1:(i:Int)<(m:Int):=by omega
     go_wp2_with fail
     clear r0 rz
     refine RC.wp_region_runF (C:=fun y=>Below w30.heap.size w30 y) (fun y=>Below w30.heap.size w30 y∧OwnV 2 y w30.heap.size (numL (fun i=>r i+c i) i) u13∧OwnV 2 y w30.heap.size (numL (fun i=>r i+xr i) i) u14) (by kernel_rfl) (fun _ _ h hb=>⟨h.1.trans (hb.mono h.1.size),h.2.1.below hb,h.2.2.below hb⟩) ⟨HB.out,HX.out,HY.out⟩ ?_
     change RC.Run _ _ _ _ _ 13 _ _ _
     refine RC.run_take (i:=0) (u13) rfl (by kernel_rfl) (by kernel_rfl) (by kernel_rfl) rfl (fun y h=>h.1) (fun y hy=>by go_simp) ?_
     simp only [puts]
     refine RC.run_take (i:=1) (.slice (some ⟨g1,0,none⟩) m c1) rfl (by kernel_rfl) (by kernel_rfl) (by kernel_rfl) rfl (fun y h=>h.1) (fun y hy=>by go_simp) ?_
     simp only [puts]
     refine RC.run_take (i:=2) (.int .i64 i) rfl (by kernel_rfl) (by kernel_rfl) (by kernel_rfl) rfl (fun y h=>h.1) (fun y hy=>by go_simp) ?_
     simp only [puts]
     refine RC.run_take (i:=3) (.pointer (some ⟨g1,i,none⟩)) rfl (by kernel_rfl) (by kernel_rfl) (by kernel_rfl) rfl (fun y h=>h.1) (fun y hy=>by obtain ⟨z1,e1⟩:=HA.out y hy; obtain ⟨z2,e2⟩:=HC2.out y hy; obtain ⟨z3,e3⟩:=HD.out y hy; have d1:=e1 i hlt; have d2:=e2 i hlt; have d3:=e3 i hlt; rw [N1.out] at d1; rw [N2.out] at d2; rw [N3.out] at d3; clear e1 e2 e3; go_simp) ?_
     simp only [puts]
     refine RC.run_take (i:=4) (.int .i64 n1) rfl (by kernel_rfl) (by kernel_rfl) (by kernel_rfl) rfl (fun y h=>h.1) (fun y hy=>by obtain ⟨z1,e1⟩:=HA.out y hy; obtain ⟨z2,e2⟩:=HC2.out y hy; obtain ⟨z3,e3⟩:=HD.out y hy; have d1:=e1 i hlt; have d2:=e2 i hlt; have d3:=e3 i hlt; rw [N1.out] at d1; rw [N2.out] at d2; rw [N3.out] at d3; clear e1 e2 e3; go_simp) ?_
     simp only [puts]
     refine RC.run_take (i:=5) (.slice (some ⟨g2,0,none⟩) m c2) rfl (by kernel_rfl) (by kernel_rfl) (by kernel_rfl) rfl (fun y h=>h.1) (fun y hy=>by go_simp) ?_
     simp only [puts]
     refine RC.run_take (i:=6) (.int .i64 i) rfl (by kernel_rfl) (by kernel_rfl) (by kernel_rfl) rfl (fun y h=>h.1) (fun y hy=>by go_simp) ?_
     simp only [puts]
     refine RC.run_take (i:=7) (.pointer (some ⟨g2,i,none⟩)) rfl (by kernel_rfl) (by kernel_rfl) (by kernel_rfl) rfl (fun y h=>h.1) (fun y hy=>by obtain ⟨z1,e1⟩:=HA.out y hy; obtain ⟨z2,e2⟩:=HC2.out y hy; obtain ⟨z3,e3⟩:=HD.out y hy; have d1:=e1 i hlt; have d2:=e2 i hlt; have d3:=e3 i hlt; rw [N1.out] at d1; rw [N2.out] at d2; rw [N3.out] at d3; clear e1 e2 e3; go_simp) ?_
     simp only [puts]
     refine RC.run_take (i:=8) (.int .i64 n2) rfl (by kernel_rfl) (by kernel_rfl) (by kernel_rfl) rfl (fun y h=>h.1) (fun y hy=>by obtain ⟨z1,e1⟩:=HA.out y hy; obtain ⟨z2,e2⟩:=HC2.out y hy; obtain ⟨z3,e3⟩:=HD.out y hy; have d1:=e1 i hlt; have d2:=e2 i hlt; have d3:=e3 i hlt; rw [N1.out] at d1; rw [N2.out] at d2; rw [N3.out] at d3; clear e1 e2 e3; go_simp) ?_
     simp only [puts]
     refine RC.run_take (i:=9) (.int .i64 (n1+n2)) rfl (by kernel_rfl) (by kernel_rfl) (by kernel_rfl) rfl (fun y h=>h.1) (fun y hy=>by go_simp) ?_
     simp only [puts]
     refine RC.run_only (i:=10) (by kernel_rfl) (RC.at_make (w0:=w30) (t:=72) (z:= .cells #[.int .i64 (n1+n2)] 2 (0,0)) (fun q=> .slice (some ⟨q,0,none⟩) 1 1) (fun _=>False) slice_inj rfl rfl rfl (fun y _=>by go_simp) (fun y h=>h.1.size) (fun _ _ _ h=>h.elim) ?_)
     intro d hd0 _
     simp only [puts]
     refine RC.run_only (i:=11) (by kernel_rfl) (RC.at_upd (fun v y=>Below w30.heap.size w30 y∧OwnV 2 y w30.heap.size (numL (fun i=>r i+c i) (i+1)) v∧OwnV 2 y w30.heap.size (numL (fun i=>r i+xr i) i) u14∧(∀ g,v.ownBlock=some g→u14.ownBlock ≠ some g)) rfl rfl (fun v y y1 h hb=>⟨h.1.trans (hb.mono h.1.size),h.2.1.below hb,h.2.2.1.below hb,h.2.2.2⟩) (fun v y h=>h.1) (fun y hy => ?_) ?_)
     ·obtain ⟨⟨h0,h1,h2⟩,h3⟩:=hy
      obtain ⟨v',A',hrun,ho,hg,hbl,hnw⟩:=app64 h1 (.int .i64 (n1+n2)) d (RowIs.cell (show RowIs y d #[.int .i64 (n1+n2)] 2 from h3) 0) rfl h0.size (by rw [numL_len]; omega)
      rw [show (Value.int .i64 (n1+n2)) = .int .i64 ((fun i=>r i+c i) i) by dsimp only; rw [N1.out,N2.out], ← numL_more] at ho
      refine ⟨v',A',exec_app _ _ _ rfl _ _ rfl rfl hrun,h0.trans hbl,ho,h2.block fun g hgo=>hg.block g (h2.lt hgo).2 (fun e => ?_),fun g hgo he => ?_⟩
      ·exact HDJ.out g e.symm hgo
      ·rcases hnw with e | e
       ·exact HDJ.out g (e.symm.trans hgo) he
       ·have e2:some y.heap.size=some g:=e.symm.trans hgo
        obtain rfl:=Option.some.inj e2
        exact absurd (h2.lt he).2 (Nat.lt_irrefl _)
     rintro u13n ⟨_, -⟩
     simp only [puts]
     refine RC.run_quiet (i:=12) u13n (by kernel_rfl) rfl rfl (fun y hy=>by go_simp) ?_
     simp only [puts]
     refine ⟨by kernel_rfl,fun y hy => ?_⟩
     obtain ⟨h0,h1,h2,h3⟩:=hy
     replace HX:=Lib.hid h1
     replace HY:=Lib.hid h2
     replace HDJ:=Lib.hid h3
     replace HB:=Lib.hid h0
     clear h0 h1 h2 h3
     go_wp2_with fail
     refine RC.wp_region_runF (C:=fun y=>Below w30.heap.size w30 y) (fun y=>Below w30.heap.size w30 y∧OwnV 2 y w30.heap.size (numL (fun i=>r i+xr i) i) u14∧OwnV 2 y w30.heap.size (numL (fun i=>r i+c i) (i+1)) u13n) (by kernel_rfl) (fun _ _ h hb=>⟨h.1.trans (hb.mono h.1.size),h.2.1.below hb,h.2.2.below hb⟩) ⟨HB.out,HY.out,HX.out⟩ ?_
     change RC.Run _ _ _ _ _ 14 _ _ _
     refine RC.run_take (i:=0) (u14) rfl (by kernel_rfl) (by kernel_rfl) (by kernel_rfl) rfl (fun y h=>h.1) (fun y hy=>by go_simp) ?_
     simp only [puts]
     refine RC.run_take (i:=1) (.slice (some ⟨g1,0,none⟩) m c1) rfl (by kernel_rfl) (by kernel_rfl) (by kernel_rfl) rfl (fun y h=>h.1) (fun y hy=>by go_simp) ?_
     simp only [puts]
     refine RC.run_take (i:=2) (.int .i64 i) rfl (by kernel_rfl) (by kernel_rfl) (by kernel_rfl) rfl (fun y h=>h.1) (fun y hy=>by go_simp) ?_
     simp only [puts]
     refine RC.run_take (i:=3) (.pointer (some ⟨g1,i,none⟩)) rfl (by kernel_rfl) (by kernel_rfl) (by kernel_rfl) rfl (fun y h=>h.1) (fun y hy=>by obtain ⟨z1,e1⟩:=HA.out y hy; obtain ⟨z2,e2⟩:=HC2.out y hy; obtain ⟨z3,e3⟩:=HD.out y hy; have d1:=e1 i hlt; have d2:=e2 i hlt; have d3:=e3 i hlt; rw [N1.out] at d1; rw [N2.out] at d2; rw [N3.out] at d3; clear e1 e2 e3; go_simp) ?_
     simp only [puts]
     refine RC.run_take (i:=4) (.int .i64 n1) rfl (by kernel_rfl) (by kernel_rfl) (by kernel_rfl) rfl (fun y h=>h.1) (fun y hy=>by obtain ⟨z1,e1⟩:=HA.out y hy; obtain ⟨z2,e2⟩:=HC2.out y hy; obtain ⟨z3,e3⟩:=HD.out y hy; have d1:=e1 i hlt; have d2:=e2 i hlt; have d3:=e3 i hlt; rw [N1.out] at d1; rw [N2.out] at d2; rw [N3.out] at d3; clear e1 e2 e3; go_simp) ?_
     simp only [puts]
     refine RC.run_take (i:=5) (.slice (some ⟨gr,0,none⟩) m m) rfl (by kernel_rfl) (by kernel_rfl) (by kernel_rfl) rfl (fun y h=>h.1) (fun y hy=>by go_simp) ?_
     simp only [puts]
     refine RC.run_take (i:=6) (.int .i64 i) rfl (by kernel_rfl) (by kernel_rfl) (by kernel_rfl) rfl (fun y h=>h.1) (fun y hy=>by go_simp) ?_
     simp only [puts]
     refine RC.run_take (i:=7) (.pointer (some ⟨gr,i,none⟩)) rfl (by kernel_rfl) (by kernel_rfl) (by kernel_rfl) rfl (fun y h=>h.1) (fun y hy=>by obtain ⟨z1,e1⟩:=HA.out y hy; obtain ⟨z2,e2⟩:=HC2.out y hy; obtain ⟨z3,e3⟩:=HD.out y hy; have d1:=e1 i hlt; have d2:=e2 i hlt; have d3:=e3 i hlt; rw [N1.out] at d1; rw [N2.out] at d2; rw [N3.out] at d3; clear e1 e2 e3; go_simp) ?_
     simp only [puts]
     refine RC.run_take (i:=8) (.int .i64 n3) rfl (by kernel_rfl) (by kernel_rfl) (by kernel_rfl) rfl (fun y h=>h.1) (fun y hy=>by obtain ⟨z1,e1⟩:=HA.out y hy; obtain ⟨z2,e2⟩:=HC2.out y hy; obtain ⟨z3,e3⟩:=HD.out y hy; have d1:=e1 i hlt; have d2:=e2 i hlt; have d3:=e3 i hlt; rw [N1.out] at d1; rw [N2.out] at d2; rw [N3.out] at d3; clear e1 e2 e3; go_simp) ?_
     simp only [puts]
     refine RC.run_take (i:=9) (.int .i64 (n1+n3)) rfl (by kernel_rfl) (by kernel_rfl) (by kernel_rfl) rfl (fun y h=>h.1) (fun y hy=>by go_simp) ?_
     simp only [puts]
     refine RC.run_take (i:=10) (.int .i64 (n1+n3)) rfl (by kernel_rfl) (by kernel_rfl) (by kernel_rfl) rfl (fun y h=>h.1) (fun y hy=>by go_simp) ?_
     simp only [puts]
     refine RC.run_only (i:=11) (by kernel_rfl) (RC.at_make (w0:=w30) (t:=86) (z:= .cells #[.int .i64 (n1+n3)] 2 (0,0)) (fun q=> .slice (some ⟨q,0,none⟩) 1 1) (fun _=>False) slice_inj rfl rfl rfl (fun y _=>by go_simp) (fun y h=>h.1.size) (fun _ _ _ h=>h.elim) ?_)
     intro d hd0 _
     simp only [puts]
     refine RC.run_only (i:=12) (by kernel_rfl) (RC.at_upd (fun v y=>Below w30.heap.size w30 y∧OwnV 2 y w30.heap.size (numL (fun i=>r i+xr i) (i+1)) v∧OwnV 2 y w30.heap.size (numL (fun i=>r i+c i) (i+1)) u13n∧(∀ g,u13n.ownBlock=some g→v.ownBlock ≠ some g)) rfl rfl (fun v y y1 h hb=>⟨h.1.trans (hb.mono h.1.size),h.2.1.below hb,h.2.2.1.below hb,h.2.2.2⟩) (fun v y h=>h.1) (fun y hy => ?_) ?_)
     ·obtain ⟨⟨h0,h1,h2⟩,h3⟩:=hy
      obtain ⟨v',A',hrun,ho,hg,hbl,hnw⟩:=app64 h1 (.int .i64 (n1+n3)) d (RowIs.cell (show RowIs y d #[.int .i64 (n1+n3)] 2 from h3) 0) rfl h0.size (by rw [numL_len]; omega)
      rw [show (Value.int .i64 (n1+n3)) = .int .i64 ((fun i=>r i+xr i) i) by dsimp only; rw [N1.out,N3.out], ← numL_more] at ho
      refine ⟨v',A',exec_app _ _ _ rfl _ _ rfl rfl hrun,h0.trans hbl,ho,h2.block fun g hgo=>hg.block g (h2.lt hgo).2 (fun e => ?_),fun g hgo he => ?_⟩
      ·exact HDJ.out g hgo e.symm
      ·rcases hnw with e | e
       ·exact HDJ.out g hgo (e.symm.trans he)
       ·have e2:some y.heap.size=some g:=e.symm.trans he
        obtain rfl:=Option.some.inj e2
        exact absurd (h2.lt hgo).2 (Nat.lt_irrefl _)
     rintro u14n ⟨_, -⟩
     simp only [puts]
     refine RC.run_quiet (i:=13) u14n (by kernel_rfl) rfl rfl (fun y hy=>by go_simp) ?_
     simp only [puts]
     refine ⟨by kernel_rfl,fun y2 hy => ?_⟩
     obtain ⟨h0,h1,h2,h3⟩:=hy
     replace HY:=Lib.hid h1
     replace HX:=Lib.hid h2
     replace HDJ:=Lib.hid h3
     replace HB:=Lib.hid h0
     clear h0 h1 h2 h3
     go_wp2_with fail
     go_roundw
     case rel=>exact ⟨i+1,by omega,by go_num,HX.out,HY.out,HDJ.out,HB.out⟩
     case measure=>simp [intOf]; omega
    ·obtain rfl:i=m:=by omega
     obtain ⟨p3,c3,hx3, -, -, -,hI3, -⟩:=hx.form
     obtain ⟨p4,c4,hy4, -, -, -,hI4, -⟩:=hy.form
     rw [numL_len] at hx3 hy4
     subst hx3 hy4
     have HI3:=Lib.hid (show Ints wr p3 i (fun i=>r i+c i) from hI3 i _ (numL_len _ _).symm fun j hj=>numL_get _ _ _ hj)
     have HI4:=Lib.hid (show Ints wr p4 i (fun i=>r i+xr i) from hI4 i _ (numL_len _ _).symm fun j hj=>numL_get _ _ _ hj)
     clear hx hy hd hI3 hI4 r0 rz
     replace R1:=Lib.hid (RowIs.below R1.out hb)
     replace H1:=Lib.hid (H1.out.below hb)
     replace HP:=Lib.hid (Shorts.below HP.out hb)
     replace HQ:=Lib.hid (Shorts.below HQ.out hb)
     replace Ggr:=Lib.hid (RowIs.below Ggr.out hb)
     replace Ggk:=Lib.hid (RowIs.below Ggk.out hb)
     replace Q7:=Lib.hid (RowIs.below Q7.out hb)
     replace HF0:=Lib.hid (Cells.below HF0.out hb)
     replace HF1:=Lib.hid (Cells.below HF1.out hb)
     replace B1:=Lib.hid (bup B1.out hb)
     clear hb HA HC2 HD
     have cc33:wr.cell? ⟨w.heap.size,0,none⟩=some (.slice (some ⟨tb,ofs,none⟩) i cap):=RowIs.cell R1.out 0
     have zz34:w.heap.size<wr.heap.size:=RowIs.lt R1.out
     have KA:=Lib.hid A.out.eq
     have KB:=Lib.hid BD.out.eq
     have KZ:=Lib.hid ZD.out.eq
     have C35:=Sure_c (some ⟨tb,ofs,none⟩) i cap f (some ⟨g1,0,none⟩) i c1 r wr H1.out hm2 RR.out HF0.out hm2
     rw [KA.out] at C35
     replace C35:=Lib.hid C35
     go_wp2_with fail
     clear cc33 zz34
     refine (C35.out).mono ?_
     rintro e w36 ⟨rfl,hbq⟩
     replace R1:=Lib.hid (RowIs.below R1.out hbq)
     replace H1:=Lib.hid (H1.out.below hbq)
     replace HP:=Lib.hid (Shorts.below HP.out hbq)
     replace HQ:=Lib.hid (Shorts.below HQ.out hbq)
     replace Ggr:=Lib.hid (RowIs.below Ggr.out hbq)
     replace Ggk:=Lib.hid (RowIs.below Ggk.out hbq)
     replace Q7:=Lib.hid (RowIs.below Q7.out hbq)
     replace HF0:=Lib.hid (Cells.below HF0.out hbq)
     replace HF1:=Lib.hid (Cells.below HF1.out hbq)
     replace HI3:=Lib.hid (Cells.below HI3.out hbq)
     replace HI4:=Lib.hid (Cells.below HI4.out hbq)
     replace B1:=Lib.hid (bup B1.out hbq)
     clear hbq
     clear C35
     obtain ⟨Y37,hY37⟩ : ∃ Y37,w36.alloc (.cells #[.int .i64 a1, .int .i64 a2] 30)=Y37:=⟨_,rfl⟩
     have hb38:Below w36.heap.size w36 Y37:=by rw [← hY37]; exact Below.alloc1 (Below.refl _ _) _ (Nat.le_refl _)
     have hr39:RowIs Y37 w36.heap.size #[.int .i64 a1, .int .i64 a2] 30:=by rw [← hY37]; exact heap_new_at _ _ _ rfl
     replace R1:=Lib.hid (RowIs.below R1.out hb38)
     replace H1:=Lib.hid (H1.out.below hb38)
     replace HP:=Lib.hid (Shorts.below HP.out hb38)
     replace HQ:=Lib.hid (Shorts.below HQ.out hb38)
     replace Ggr:=Lib.hid (RowIs.below Ggr.out hb38)
     replace Ggk:=Lib.hid (RowIs.below Ggk.out hb38)
     replace Q7:=Lib.hid (RowIs.below Q7.out hb38)
     replace HF0:=Lib.hid (Cells.below HF0.out hb38)
     replace HF1:=Lib.hid (Cells.below HF1.out hb38)
     replace HI3:=Lib.hid (Cells.below HI3.out hb38)
     replace HI4:=Lib.hid (Cells.below HI4.out hb38)
     replace B1:=Lib.hid (bup B1.out hb38)
     have QA:=Lib.hid hr39
     clear hb38 hr39
     have cc40:Y37.cell? ⟨w.heap.size,0,none⟩=some (.slice (some ⟨tb,ofs,none⟩) i cap):=RowIs.cell R1.out 0
     have zz41:w.heap.size<Y37.heap.size:=RowIs.lt R1.out
     have C42:=Sure_c (some ⟨tb,ofs,none⟩) i cap f (some ⟨g2,0,none⟩) i c2 c Y37 H1.out hm2 RR.out HF1.out hm2
     rw [KB.out] at C42
     replace C42:=Lib.hid C42
     go_wp2_with fail
     clear hY37 cc40 zz41
     refine (C42.out).mono ?_
     rintro e w43 ⟨rfl,hbq⟩
     replace R1:=Lib.hid (RowIs.below R1.out hbq)
     replace H1:=Lib.hid (H1.out.below hbq)
     replace HP:=Lib.hid (Shorts.below HP.out hbq)
     replace HQ:=Lib.hid (Shorts.below HQ.out hbq)
     replace Ggr:=Lib.hid (RowIs.below Ggr.out hbq)
     replace Ggk:=Lib.hid (RowIs.below Ggk.out hbq)
     replace Q7:=Lib.hid (RowIs.below Q7.out hbq)
     replace HF0:=Lib.hid (Cells.below HF0.out hbq)
     replace HF1:=Lib.hid (Cells.below HF1.out hbq)
     replace HI3:=Lib.hid (Cells.below HI3.out hbq)
     replace HI4:=Lib.hid (Cells.below HI4.out hbq)
     replace QA:=Lib.hid (RowIs.below QA.out hbq)
     replace B1:=Lib.hid (bup B1.out hbq)
     clear hbq
     clear C42
     obtain ⟨Y44,hY44⟩ : ∃ Y44,w43.alloc (.cells #[.int .i64 b1, .int .i64 b2] 30)=Y44:=⟨_,rfl⟩
     have hb45:Below w43.heap.size w43 Y44:=by rw [← hY44]; exact Below.alloc1 (Below.refl _ _) _ (Nat.le_refl _)
     have hr46:RowIs Y44 w43.heap.size #[.int .i64 b1, .int .i64 b2] 30:=by rw [← hY44]; exact heap_new_at _ _ _ rfl
     replace R1:=Lib.hid (RowIs.below R1.out hb45)
     replace H1:=Lib.hid (H1.out.below hb45)
     replace HP:=Lib.hid (Shorts.below HP.out hb45)
     replace HQ:=Lib.hid (Shorts.below HQ.out hb45)
     replace Ggr:=Lib.hid (RowIs.below Ggr.out hb45)
     replace Ggk:=Lib.hid (RowIs.below Ggk.out hb45)
     replace Q7:=Lib.hid (RowIs.below Q7.out hb45)
     replace HF0:=Lib.hid (Cells.below HF0.out hb45)
     replace HF1:=Lib.hid (Cells.below HF1.out hb45)
     replace HI3:=Lib.hid (Cells.below HI3.out hb45)
     replace HI4:=Lib.hid (Cells.below HI4.out hb45)
     replace QA:=Lib.hid (RowIs.below QA.out hb45)
     replace B1:=Lib.hid (bup B1.out hb45)
     have QB2:=Lib.hid hr46
     clear hb45 hr46
     have cc47:Y44.cell? ⟨w.heap.size,0,none⟩=some (.slice (some ⟨tb,ofs,none⟩) i cap):=RowIs.cell R1.out 0
     have zz48:w.heap.size<Y44.heap.size:=RowIs.lt R1.out
     have C49:=Sure_c (some ⟨tb,ofs,none⟩) i cap f p3 i c3 (fun i=>r i+c i) Y44 H1.out hm2 RR.out HI3.out hm2
     rw [KZ.out] at C49
     replace C49:=Lib.hid C49
     go_wp2_with fail
     clear hY44 cc47 zz48
     refine (C49.out).mono ?_
     rintro e w50 ⟨rfl,hbq⟩
     replace R1:=Lib.hid (RowIs.below R1.out hbq)
     replace H1:=Lib.hid (H1.out.below hbq)
     replace HP:=Lib.hid (Shorts.below HP.out hbq)
     replace HQ:=Lib.hid (Shorts.below HQ.out hbq)
     replace Ggr:=Lib.hid (RowIs.below Ggr.out hbq)
     replace Ggk:=Lib.hid (RowIs.below Ggk.out hbq)
     replace Q7:=Lib.hid (RowIs.below Q7.out hbq)
     replace HF0:=Lib.hid (Cells.below HF0.out hbq)
     replace HF1:=Lib.hid (Cells.below HF1.out hbq)
     replace HI3:=Lib.hid (Cells.below HI3.out hbq)
     replace HI4:=Lib.hid (Cells.below HI4.out hbq)
     replace QA:=Lib.hid (RowIs.below QA.out hbq)
     replace QB2:=Lib.hid (RowIs.below QB2.out hbq)
     replace B1:=Lib.hid (bup B1.out hbq)
     clear hbq
     clear C49
     obtain ⟨Y51,hY51⟩ : ∃ Y51,w50.alloc (.cells #[.int .i64 z1, .int .i64 z2] 30)=Y51:=⟨_,rfl⟩
     have hb52:Below w50.heap.size w50 Y51:=by rw [← hY51]; exact Below.alloc1 (Below.refl _ _) _ (Nat.le_refl _)
     have hr53:RowIs Y51 w50.heap.size #[.int .i64 z1, .int .i64 z2] 30:=by rw [← hY51]; exact heap_new_at _ _ _ rfl
     replace R1:=Lib.hid (RowIs.below R1.out hb52)
     replace H1:=Lib.hid (H1.out.below hb52)
     replace HP:=Lib.hid (Shorts.below HP.out hb52)
     replace HQ:=Lib.hid (Shorts.below HQ.out hb52)
     replace Ggr:=Lib.hid (RowIs.below Ggr.out hb52)
     replace Ggk:=Lib.hid (RowIs.below Ggk.out hb52)
     replace Q7:=Lib.hid (RowIs.below Q7.out hb52)
     replace HF0:=Lib.hid (Cells.below HF0.out hb52)
     replace HF1:=Lib.hid (Cells.below HF1.out hb52)
     replace HI3:=Lib.hid (Cells.below HI3.out hb52)
     replace HI4:=Lib.hid (Cells.below HI4.out hb52)
     replace QA:=Lib.hid (RowIs.below QA.out hb52)
     replace QB2:=Lib.hid (RowIs.below QB2.out hb52)
     replace B1:=Lib.hid (bup B1.out hb52)
     have QZ:=Lib.hid hr53
     clear hb52 hr53
     have cc54:Y51.cell? ⟨w.heap.size,0,none⟩=some (.slice (some ⟨tb,ofs,none⟩) i cap):=RowIs.cell R1.out 0
     have zz55:w.heap.size<Y51.heap.size:=RowIs.lt R1.out
     have CSa:=Lib.hid (fun (x:World)=>small_c a1 a2 x A.out.d1 (by have:=A2.out; omega) A.out.n1 A.out.n2 A.out.r1 A.out.r2)
     have CSb:=Lib.hid (fun (x:World)=>small_c b1 b2 x BD.out.d1 (by have:=B2.out; omega) BD.out.n1 BD.out.n2 BD.out.r1 BD.out.r2)
     have CSz:=Lib.hid (fun (x:World)=>small_c z1 z2 x ZD.out.d1 (by have:=Z2.out; omega) ZD.out.n1 ZD.out.n2 ZD.out.r1 ZD.out.r2)
     have CLA:=Lib.hid (fun (x:World)=>less_fit z1 z2 a1 a2 x ZD.out.d1 Z2.out ZD.out.n1 ZD.out.n2 A.out.d1 A2.out A.out.n1 A.out.n2)
     have CLB:=Lib.hid (fun (x:World)=>less_fit z1 z2 b1 b2 x ZD.out.d1 Z2.out ZD.out.n1 ZD.out.n2 BD.out.d1 B2.out BD.out.n1 BD.out.n2)
     have cc56:Y51.cell? ⟨w36.heap.size,0,none⟩=some (.int .i64 a1):=RowIs.cell QA.out 0
     have cc57:Y51.cell? ⟨w36.heap.size,1,none⟩=some (.int .i64 a2):=RowIs.cell QA.out 1
     have zz58:w36.heap.size<Y51.heap.size:=RowIs.lt QA.out
     have cc59:Y51.cell? ⟨w43.heap.size,0,none⟩=some (.int .i64 b1):=RowIs.cell QB2.out 0
     have cc60:Y51.cell? ⟨w43.heap.size,1,none⟩=some (.int .i64 b2):=RowIs.cell QB2.out 1
     have zz61:w43.heap.size<Y51.heap.size:=RowIs.lt QB2.out
     have cc62:Y51.cell? ⟨w50.heap.size,0,none⟩=some (.int .i64 z1):=RowIs.cell QZ.out 0
     have cc63:Y51.cell? ⟨w50.heap.size,1,none⟩=some (.int .i64 z2):=RowIs.cell QZ.out 1
     have zz64:w50.heap.size<Y51.heap.size:=RowIs.lt QZ.out
     go_wp2_with fail
     clear hY51 cc54 zz55 cc56 cc57 zz58 cc59 cc60 zz61 cc62 cc63 zz64
     refine (CSa.out _).mono ?_
     rintro e w65 ⟨rfl,hbq⟩
     replace R1:=Lib.hid (RowIs.below R1.out hbq)
     replace H1:=Lib.hid (H1.out.below hbq)
     replace HP:=Lib.hid (Shorts.below HP.out hbq)
     replace HQ:=Lib.hid (Shorts.below HQ.out hbq)
     replace Ggr:=Lib.hid (RowIs.below Ggr.out hbq)
     replace Ggk:=Lib.hid (RowIs.below Ggk.out hbq)
     replace Q7:=Lib.hid (RowIs.below Q7.out hbq)
     replace HF0:=Lib.hid (Cells.below HF0.out hbq)
     replace HF1:=Lib.hid (Cells.below HF1.out hbq)
     replace HI3:=Lib.hid (Cells.below HI3.out hbq)
     replace HI4:=Lib.hid (Cells.below HI4.out hbq)
     replace QA:=Lib.hid (RowIs.below QA.out hbq)
     replace QB2:=Lib.hid (RowIs.below QB2.out hbq)
     replace QZ:=Lib.hid (RowIs.below QZ.out hbq)
     replace B1:=Lib.hid (bup B1.out hbq)
     clear hbq
     have cc66:w65.cell? ⟨w36.heap.size,0,none⟩=some (.int .i64 a1):=RowIs.cell QA.out 0
     have cc67:w65.cell? ⟨w36.heap.size,1,none⟩=some (.int .i64 a2):=RowIs.cell QA.out 1
     have zz68:w36.heap.size<w65.heap.size:=RowIs.lt QA.out
     have cc69:w65.cell? ⟨w43.heap.size,0,none⟩=some (.int .i64 b1):=RowIs.cell QB2.out 0
     have cc70:w65.cell? ⟨w43.heap.size,1,none⟩=some (.int .i64 b2):=RowIs.cell QB2.out 1
     have zz71:w43.heap.size<w65.heap.size:=RowIs.lt QB2.out
     have cc72:w65.cell? ⟨w50.heap.size,0,none⟩=some (.int .i64 z1):=RowIs.cell QZ.out 0
     have cc73:w65.cell? ⟨w50.heap.size,1,none⟩=some (.int .i64 z2):=RowIs.cell QZ.out 1
     have zz74:w50.heap.size<w65.heap.size:=RowIs.lt QZ.out
     have cc75:w65.cell? ⟨w.heap.size,0,none⟩=some (.slice (some ⟨tb,ofs,none⟩) i cap):=RowIs.cell R1.out 0
     have zz76:w.heap.size<w65.heap.size:=RowIs.lt R1.out
     go_wp2_with fail
     clear cc66 cc67 zz68 cc69 cc70 zz71 cc72 cc73 zz74 cc75 zz76
     refine (CSb.out _).mono ?_
     rintro e w77 ⟨rfl,hbq⟩
     replace R1:=Lib.hid (RowIs.below R1.out hbq)
     replace H1:=Lib.hid (H1.out.below hbq)
     replace HP:=Lib.hid (Shorts.below HP.out hbq)
     replace HQ:=Lib.hid (Shorts.below HQ.out hbq)
     replace Ggr:=Lib.hid (RowIs.below Ggr.out hbq)
     replace Ggk:=Lib.hid (RowIs.below Ggk.out hbq)
     replace Q7:=Lib.hid (RowIs.below Q7.out hbq)
     replace HF0:=Lib.hid (Cells.below HF0.out hbq)
     replace HF1:=Lib.hid (Cells.below HF1.out hbq)
     replace HI3:=Lib.hid (Cells.below HI3.out hbq)
     replace HI4:=Lib.hid (Cells.below HI4.out hbq)
     replace QA:=Lib.hid (RowIs.below QA.out hbq)
     replace QB2:=Lib.hid (RowIs.below QB2.out hbq)
     replace QZ:=Lib.hid (RowIs.below QZ.out hbq)
     replace B1:=Lib.hid (bup B1.out hbq)
     clear hbq
     have cc78:w77.cell? ⟨w36.heap.size,0,none⟩=some (.int .i64 a1):=RowIs.cell QA.out 0
     have cc79:w77.cell? ⟨w36.heap.size,1,none⟩=some (.int .i64 a2):=RowIs.cell QA.out 1
     have zz80:w36.heap.size<w77.heap.size:=RowIs.lt QA.out
     have cc81:w77.cell? ⟨w43.heap.size,0,none⟩=some (.int .i64 b1):=RowIs.cell QB2.out 0
     have cc82:w77.cell? ⟨w43.heap.size,1,none⟩=some (.int .i64 b2):=RowIs.cell QB2.out 1
     have zz83:w43.heap.size<w77.heap.size:=RowIs.lt QB2.out
     have cc84:w77.cell? ⟨w50.heap.size,0,none⟩=some (.int .i64 z1):=RowIs.cell QZ.out 0
     have cc85:w77.cell? ⟨w50.heap.size,1,none⟩=some (.int .i64 z2):=RowIs.cell QZ.out 1
     have zz86:w50.heap.size<w77.heap.size:=RowIs.lt QZ.out
     have cc87:w77.cell? ⟨w.heap.size,0,none⟩=some (.slice (some ⟨tb,ofs,none⟩) i cap):=RowIs.cell R1.out 0
     have zz88:w.heap.size<w77.heap.size:=RowIs.lt R1.out
     go_wp2_with fail
     clear cc78 cc79 zz80 cc81 cc82 zz83 cc84 cc85 zz86 cc87 zz88
     refine (CSz.out _).mono ?_
     rintro e w89 ⟨rfl,hbq⟩
     replace R1:=Lib.hid (RowIs.below R1.out hbq)
     replace H1:=Lib.hid (H1.out.below hbq)
     replace HP:=Lib.hid (Shorts.below HP.out hbq)
     replace HQ:=Lib.hid (Shorts.below HQ.out hbq)
     replace Ggr:=Lib.hid (RowIs.below Ggr.out hbq)
     replace Ggk:=Lib.hid (RowIs.below Ggk.out hbq)
     replace Q7:=Lib.hid (RowIs.below Q7.out hbq)
     replace HF0:=Lib.hid (Cells.below HF0.out hbq)
     replace HF1:=Lib.hid (Cells.below HF1.out hbq)
     replace HI3:=Lib.hid (Cells.below HI3.out hbq)
     replace HI4:=Lib.hid (Cells.below HI4.out hbq)
     replace QA:=Lib.hid (RowIs.below QA.out hbq)
     replace QB2:=Lib.hid (RowIs.below QB2.out hbq)
     replace QZ:=Lib.hid (RowIs.below QZ.out hbq)
     replace B1:=Lib.hid (bup B1.out hbq)
     clear hbq
     have cc90:w89.cell? ⟨w36.heap.size,0,none⟩=some (.int .i64 a1):=RowIs.cell QA.out 0
     have cc91:w89.cell? ⟨w36.heap.size,1,none⟩=some (.int .i64 a2):=RowIs.cell QA.out 1
     have zz92:w36.heap.size<w89.heap.size:=RowIs.lt QA.out
     have cc93:w89.cell? ⟨w43.heap.size,0,none⟩=some (.int .i64 b1):=RowIs.cell QB2.out 0
     have cc94:w89.cell? ⟨w43.heap.size,1,none⟩=some (.int .i64 b2):=RowIs.cell QB2.out 1
     have zz95:w43.heap.size<w89.heap.size:=RowIs.lt QB2.out
     have cc96:w89.cell? ⟨w50.heap.size,0,none⟩=some (.int .i64 z1):=RowIs.cell QZ.out 0
     have cc97:w89.cell? ⟨w50.heap.size,1,none⟩=some (.int .i64 z2):=RowIs.cell QZ.out 1
     have zz98:w50.heap.size<w89.heap.size:=RowIs.lt QZ.out
     have cc99:w89.cell? ⟨w.heap.size,0,none⟩=some (.slice (some ⟨tb,ofs,none⟩) i cap):=RowIs.cell R1.out 0
     have zz100:w.heap.size<w89.heap.size:=RowIs.lt R1.out
     clear CSa CSb CSz
     cases hl1:ltB z1 z2 a1 a2 with
     | false=>
       rw [hl1] at CLA
       go_wp2_with fail
       clear cc90 cc91 zz92 cc93 cc94 zz95 cc96 cc97 zz98 cc99 zz100
       refine (CLA.out _).mono ?_
       rintro e w101 ⟨rfl,hbq⟩
       replace R1:=Lib.hid (RowIs.below R1.out hbq)
       replace H1:=Lib.hid (H1.out.below hbq)
       replace HP:=Lib.hid (Shorts.below HP.out hbq)
       replace HQ:=Lib.hid (Shorts.below HQ.out hbq)
       replace Ggr:=Lib.hid (RowIs.below Ggr.out hbq)
       replace Ggk:=Lib.hid (RowIs.below Ggk.out hbq)
       replace Q7:=Lib.hid (RowIs.below Q7.out hbq)
       replace HF0:=Lib.hid (Cells.below HF0.out hbq)
       replace HF1:=Lib.hid (Cells.below HF1.out hbq)
       replace HI3:=Lib.hid (Cells.below HI3.out hbq)
       replace HI4:=Lib.hid (Cells.below HI4.out hbq)
       replace QA:=Lib.hid (RowIs.below QA.out hbq)
       replace QB2:=Lib.hid (RowIs.below QB2.out hbq)
       replace QZ:=Lib.hid (RowIs.below QZ.out hbq)
       replace B1:=Lib.hid (bup B1.out hbq)
       clear hbq
       clear CLA CLB MX
       have cc102:w101.cell? ⟨w.heap.size,0,none⟩=some (.slice (some ⟨tb,ofs,none⟩) i cap):=RowIs.cell R1.out 0
       have zz103:w.heap.size<w101.heap.size:=RowIs.lt R1.out
       have hbb : ∀ j,j<i→0≤r j+xr j∧r j+xr j≤100000000:=fun j hj=>by have:=RB.out j; have:=BR1.out.few j hj; omega
       have hb0:0<sumI (fun j=>r j+xr j) i:=sumI_some (fun j hj=>(hbb j hj).1) (by
        refine Classical.byContradiction fun hno => ?_
        have:sumI r i=0:=sumI_all0 fun j hj=>by
         have h1:=RB.out j; have h2:=BR1.out.few j hj
         refine Classical.byContradiction fun h3=>hno ⟨j,hj,by omega⟩
        have:=R0.out
        omega)
       obtain ⟨w1,w2,hw,ew1,ew2⟩:=sure_is KO.out hbb hb0
       have KW:=Lib.hid hw.eq
       have EW1:=Lib.hid ew1
       have EW2:=Lib.hid ew2
       clear hbb hb0 hw ew1 ew2
       have C104:=Sure_c (some ⟨tb,ofs,none⟩) i cap f p4 i c4 (fun i=>r i+xr i) w101 H1.out hm2 RR.out HI4.out hm2
       rw [KW.out] at C104
       replace C104:=Lib.hid C104
       go_wp2_with fail
       clear cc102 zz103
       refine (C104.out).mono ?_
       rintro e w105 ⟨rfl,hbq⟩
       replace R1:=Lib.hid (RowIs.below R1.out hbq)
       replace H1:=Lib.hid (H1.out.below hbq)
       replace HP:=Lib.hid (Shorts.below HP.out hbq)
       replace HQ:=Lib.hid (Shorts.below HQ.out hbq)
       replace Ggr:=Lib.hid (RowIs.below Ggr.out hbq)
       replace Ggk:=Lib.hid (RowIs.below Ggk.out hbq)
       replace Q7:=Lib.hid (RowIs.below Q7.out hbq)
       replace HF0:=Lib.hid (Cells.below HF0.out hbq)
       replace HF1:=Lib.hid (Cells.below HF1.out hbq)
       replace HI3:=Lib.hid (Cells.below HI3.out hbq)
       replace HI4:=Lib.hid (Cells.below HI4.out hbq)
       replace QA:=Lib.hid (RowIs.below QA.out hbq)
       replace QB2:=Lib.hid (RowIs.below QB2.out hbq)
       replace QZ:=Lib.hid (RowIs.below QZ.out hbq)
       replace B1:=Lib.hid (bup B1.out hbq)
       clear hbq
       clear C104
       obtain ⟨Y106,hY106⟩ : ∃ Y106,w105.alloc (.cells #[.int .i64 w1, .int .i64 w2] 30)=Y106:=⟨_,rfl⟩
       have hb107:Below w105.heap.size w105 Y106:=by rw [← hY106]; exact Below.alloc1 (Below.refl _ _) _ (Nat.le_refl _)
       have hr108:RowIs Y106 w105.heap.size #[.int .i64 w1, .int .i64 w2] 30:=by rw [← hY106]; exact heap_new_at _ _ _ rfl
       replace R1:=Lib.hid (RowIs.below R1.out hb107)
       replace H1:=Lib.hid (H1.out.below hb107)
       replace HP:=Lib.hid (Shorts.below HP.out hb107)
       replace HQ:=Lib.hid (Shorts.below HQ.out hb107)
       replace Ggr:=Lib.hid (RowIs.below Ggr.out hb107)
       replace Ggk:=Lib.hid (RowIs.below Ggk.out hb107)
       replace Q7:=Lib.hid (RowIs.below Q7.out hb107)
       replace HF0:=Lib.hid (Cells.below HF0.out hb107)
       replace HF1:=Lib.hid (Cells.below HF1.out hb107)
       replace HI3:=Lib.hid (Cells.below HI3.out hb107)
       replace HI4:=Lib.hid (Cells.below HI4.out hb107)
       replace QA:=Lib.hid (RowIs.below QA.out hb107)
       replace QB2:=Lib.hid (RowIs.below QB2.out hb107)
       replace QZ:=Lib.hid (RowIs.below QZ.out hb107)
       replace B1:=Lib.hid (bup B1.out hb107)
       have QW:=Lib.hid hr108
       clear hb107 hr108
       have cc109:Y106.cell? ⟨w.heap.size,0,none⟩=some (.slice (some ⟨tb,ofs,none⟩) i cap):=RowIs.cell R1.out 0
       have zz110:w.heap.size<Y106.heap.size:=RowIs.lt R1.out
       by_cases hav:a1=v1∧a2=v2
       ·have hav1:a1=v1:=hav.1
        have hav2:a2=v2:=hav.2
        have hva:valOf (lossA f) i n=(v1,v2):=by rw [← V1.out, ← V2.out]
        have hs1:=A.out
        rw [hav1,hav2] at hs1
        have hww:=mix_best KO.out hva hs1 BR1.out EW1.out EW2.out
        have HA1:=Lib.hid hav1
        have HA2:=Lib.hid hav2
        have HWW:=Lib.hid hww
        clear hva hs1 hww hav hav1 hav2
        have hsx:=sum_upto (x:=xr) (m:=i) (b:=24000000) fun j hj=>(BR1.out.few j hj).2
        obtain ⟨sx,hsx2⟩ : ∃ sx,sumI xr i=sx:=⟨_,rfl⟩
        rw [hsx2] at hsx
        have hsl : ¬ (99934464:Int)<sx:=by omega
        have hsd:decide ((99934464:Int)<sx)=false:=decide_eq_false hsl
        have SX:=Lib.hid hsx2
        clear hsx hsx2
        have cc111:Y106.cell? ⟨w36.heap.size,0,none⟩=some (.int .i64 a1):=RowIs.cell QA.out 0
        have cc112:Y106.cell? ⟨w36.heap.size,1,none⟩=some (.int .i64 a2):=RowIs.cell QA.out 1
        have zz113:w36.heap.size<Y106.heap.size:=RowIs.lt QA.out
        have cc114:Y106.cell? ⟨w24.heap.size,0,none⟩=some (.int .i64 v1):=RowIs.cell Q7.out 0
        have cc115:Y106.cell? ⟨w24.heap.size,1,none⟩=some (.int .i64 v2):=RowIs.cell Q7.out 1
        have zz116:w24.heap.size<Y106.heap.size:=RowIs.lt Q7.out
        have cc117:Y106.cell? ⟨w105.heap.size,0,none⟩=some (.int .i64 w1):=RowIs.cell QW.out 0
        have cc118:Y106.cell? ⟨w105.heap.size,1,none⟩=some (.int .i64 w2):=RowIs.cell QW.out 1
        have zz119:w105.heap.size<Y106.heap.size:=RowIs.lt QW.out
        have eq120 : ∀ x,(Op.equalIn 10000 30 (.agg #[.int .i64 a1, .int .i64 a2]) (.agg #[.int .i64 v1, .int .i64 v2])).run Try.prog x = .ok true x:=fun x=>(eqRat a1 a2 v1 v2 x).trans (by simp [HA1.out,HA2.out])
        have eq121 : ∀ x,(Op.equalIn 10000 30 (.agg #[.int .i64 w1, .int .i64 w2]) (.agg #[.int .i64 v1, .int .i64 v2])).run Try.prog x = .ok true x:=fun x=>(eqRat w1 w2 v1 v2 x).trans (by simp [HWW.out.1,HWW.out.2])
        have CSU:=lsum_c (some ⟨gr,0,none⟩) i i xr Y106 (rowA_ints Ggr.out) hm2 (fun j hj=>by have:=BR1.out.few j hj; omega)
        rw [SX.out] at CSU
        replace CSU:=Lib.hid CSU
        go_wp2_with fail
        refine CSU.out.mono ?_
        rintro e _ ⟨rfl,rfl⟩
        go_wp2_with fail
        clear hY106 cc109 zz110 cc111 cc112 zz113 cc114 cc115 zz116 cc117 cc118 zz119 eq120 eq121
        refine (works_c _).mono ?_
        rintro e w122 ⟨rfl,hbq⟩
        go_wp2_with fail
        go_ret
        exact ⟨rfl,bup B1.out hbq⟩
       ·have HAV:=Lib.hid hav
        clear hav
        have cc123:Y106.cell? ⟨w36.heap.size,0,none⟩=some (.int .i64 a1):=RowIs.cell QA.out 0
        have cc124:Y106.cell? ⟨w36.heap.size,1,none⟩=some (.int .i64 a2):=RowIs.cell QA.out 1
        have zz125:w36.heap.size<Y106.heap.size:=RowIs.lt QA.out
        have cc126:Y106.cell? ⟨w24.heap.size,0,none⟩=some (.int .i64 v1):=RowIs.cell Q7.out 0
        have cc127:Y106.cell? ⟨w24.heap.size,1,none⟩=some (.int .i64 v2):=RowIs.cell Q7.out 1
        have zz128:w24.heap.size<Y106.heap.size:=RowIs.lt Q7.out
        have cc129:Y106.cell? ⟨w105.heap.size,0,none⟩=some (.int .i64 w1):=RowIs.cell QW.out 0
        have cc130:Y106.cell? ⟨w105.heap.size,1,none⟩=some (.int .i64 w2):=RowIs.cell QW.out 1
        have zz131:w105.heap.size<Y106.heap.size:=RowIs.lt QW.out
        have eq132 : ∀ x,(Op.equalIn 10000 30 (.agg #[.int .i64 a1, .int .i64 a2]) (.agg #[.int .i64 v1, .int .i64 v2])).run Try.prog x = .ok false x:=fun x=>(eqRat a1 a2 v1 v2 x).trans (by simp; intro h; exact fun h2=>HAV.out ⟨h,h2⟩)
        go_wp2_with fail
        clear hY106 cc109 zz110 cc123 cc124 zz125 cc126 cc127 zz128 cc129 cc130 zz131 eq132
        refine (works_c _).mono ?_
        rintro e w133 ⟨rfl,hbq⟩
        go_wp2_with fail
        go_ret
        exact ⟨rfl,bup B1.out hbq⟩
     | true=>
       have hl2:ltB z1 z2 b1 b2=false:=MX.out.resolve_left (by rw [hl1]; decide)
       rw [hl1] at CLA
       rw [hl2] at CLB
       go_wp2_with fail
       clear cc90 cc91 zz92 cc93 cc94 zz95 cc96 cc97 zz98 cc99 zz100
       refine (CLA.out _).mono ?_
       rintro e w134 ⟨rfl,hbq⟩
       replace R1:=Lib.hid (RowIs.below R1.out hbq)
       replace H1:=Lib.hid (H1.out.below hbq)
       replace HP:=Lib.hid (Shorts.below HP.out hbq)
       replace HQ:=Lib.hid (Shorts.below HQ.out hbq)
       replace Ggr:=Lib.hid (RowIs.below Ggr.out hbq)
       replace Ggk:=Lib.hid (RowIs.below Ggk.out hbq)
       replace Q7:=Lib.hid (RowIs.below Q7.out hbq)
       replace HF0:=Lib.hid (Cells.below HF0.out hbq)
       replace HF1:=Lib.hid (Cells.below HF1.out hbq)
       replace HI3:=Lib.hid (Cells.below HI3.out hbq)
       replace HI4:=Lib.hid (Cells.below HI4.out hbq)
       replace QA:=Lib.hid (RowIs.below QA.out hbq)
       replace QB2:=Lib.hid (RowIs.below QB2.out hbq)
       replace QZ:=Lib.hid (RowIs.below QZ.out hbq)
       replace B1:=Lib.hid (bup B1.out hbq)
       clear hbq
       have cc135:w134.cell? ⟨w36.heap.size,0,none⟩=some (.int .i64 a1):=RowIs.cell QA.out 0
       have cc136:w134.cell? ⟨w36.heap.size,1,none⟩=some (.int .i64 a2):=RowIs.cell QA.out 1
       have zz137:w36.heap.size<w134.heap.size:=RowIs.lt QA.out
       have cc138:w134.cell? ⟨w43.heap.size,0,none⟩=some (.int .i64 b1):=RowIs.cell QB2.out 0
       have cc139:w134.cell? ⟨w43.heap.size,1,none⟩=some (.int .i64 b2):=RowIs.cell QB2.out 1
       have zz140:w43.heap.size<w134.heap.size:=RowIs.lt QB2.out
       have cc141:w134.cell? ⟨w50.heap.size,0,none⟩=some (.int .i64 z1):=RowIs.cell QZ.out 0
       have cc142:w134.cell? ⟨w50.heap.size,1,none⟩=some (.int .i64 z2):=RowIs.cell QZ.out 1
       have zz143:w50.heap.size<w134.heap.size:=RowIs.lt QZ.out
       have cc144:w134.cell? ⟨w.heap.size,0,none⟩=some (.slice (some ⟨tb,ofs,none⟩) i cap):=RowIs.cell R1.out 0
       have zz145:w.heap.size<w134.heap.size:=RowIs.lt R1.out
       go_wp2_with fail
       clear cc135 cc136 zz137 cc138 cc139 zz140 cc141 cc142 zz143 cc144 zz145
       refine (CLB.out _).mono ?_
       rintro e w146 ⟨rfl,hbq⟩
       replace R1:=Lib.hid (RowIs.below R1.out hbq)
       replace H1:=Lib.hid (H1.out.below hbq)
       replace HP:=Lib.hid (Shorts.below HP.out hbq)
       replace HQ:=Lib.hid (Shorts.below HQ.out hbq)
       replace Ggr:=Lib.hid (RowIs.below Ggr.out hbq)
       replace Ggk:=Lib.hid (RowIs.below Ggk.out hbq)
       replace Q7:=Lib.hid (RowIs.below Q7.out hbq)
       replace HF0:=Lib.hid (Cells.below HF0.out hbq)
       replace HF1:=Lib.hid (Cells.below HF1.out hbq)
       replace HI3:=Lib.hid (Cells.below HI3.out hbq)
       replace HI4:=Lib.hid (Cells.below HI4.out hbq)
       replace QA:=Lib.hid (RowIs.below QA.out hbq)
       replace QB2:=Lib.hid (RowIs.below QB2.out hbq)
       replace QZ:=Lib.hid (RowIs.below QZ.out hbq)
       replace B1:=Lib.hid (bup B1.out hbq)
       clear hbq
       clear CLA CLB MX hl2
       have cc147:w146.cell? ⟨w.heap.size,0,none⟩=some (.slice (some ⟨tb,ofs,none⟩) i cap):=RowIs.cell R1.out 0
       have zz148:w.heap.size<w146.heap.size:=RowIs.lt R1.out
       have hbb : ∀ j,j<i→0≤r j+xr j∧r j+xr j≤100000000:=fun j hj=>by have:=RB.out j; have:=BR1.out.few j hj; omega
       have hb0:0<sumI (fun j=>r j+xr j) i:=sumI_some (fun j hj=>(hbb j hj).1) (by
        refine Classical.byContradiction fun hno => ?_
        have:sumI r i=0:=sumI_all0 fun j hj=>by
         have h1:=RB.out j; have h2:=BR1.out.few j hj
         refine Classical.byContradiction fun h3=>hno ⟨j,hj,by omega⟩
        have:=R0.out
        omega)
       obtain ⟨w1,w2,hw,ew1,ew2⟩:=sure_is KO.out hbb hb0
       have KW:=Lib.hid hw.eq
       have EW1:=Lib.hid ew1
       have EW2:=Lib.hid ew2
       clear hbb hb0 hw ew1 ew2
       have C149:=Sure_c (some ⟨tb,ofs,none⟩) i cap f p4 i c4 (fun i=>r i+xr i) w146 H1.out hm2 RR.out HI4.out hm2
       rw [KW.out] at C149
       replace C149:=Lib.hid C149
       go_wp2_with fail
       clear cc147 zz148
       refine (C149.out).mono ?_
       rintro e w150 ⟨rfl,hbq⟩
       replace R1:=Lib.hid (RowIs.below R1.out hbq)
       replace H1:=Lib.hid (H1.out.below hbq)
       replace HP:=Lib.hid (Shorts.below HP.out hbq)
       replace HQ:=Lib.hid (Shorts.below HQ.out hbq)
       replace Ggr:=Lib.hid (RowIs.below Ggr.out hbq)
       replace Ggk:=Lib.hid (RowIs.below Ggk.out hbq)
       replace Q7:=Lib.hid (RowIs.below Q7.out hbq)
       replace HF0:=Lib.hid (Cells.below HF0.out hbq)
       replace HF1:=Lib.hid (Cells.below HF1.out hbq)
       replace HI3:=Lib.hid (Cells.below HI3.out hbq)
       replace HI4:=Lib.hid (Cells.below HI4.out hbq)
       replace QA:=Lib.hid (RowIs.below QA.out hbq)
       replace QB2:=Lib.hid (RowIs.below QB2.out hbq)
       replace QZ:=Lib.hid (RowIs.below QZ.out hbq)
       replace B1:=Lib.hid (bup B1.out hbq)
       clear hbq
       clear C149
       obtain ⟨Y151,hY151⟩ : ∃ Y151,w150.alloc (.cells #[.int .i64 w1, .int .i64 w2] 30)=Y151:=⟨_,rfl⟩
       have hb152:Below w150.heap.size w150 Y151:=by rw [← hY151]; exact Below.alloc1 (Below.refl _ _) _ (Nat.le_refl _)
       have hr153:RowIs Y151 w150.heap.size #[.int .i64 w1, .int .i64 w2] 30:=by rw [← hY151]; exact heap_new_at _ _ _ rfl
       replace R1:=Lib.hid (RowIs.below R1.out hb152)
       replace H1:=Lib.hid (H1.out.below hb152)
       replace HP:=Lib.hid (Shorts.below HP.out hb152)
       replace HQ:=Lib.hid (Shorts.below HQ.out hb152)
       replace Ggr:=Lib.hid (RowIs.below Ggr.out hb152)
       replace Ggk:=Lib.hid (RowIs.below Ggk.out hb152)
       replace Q7:=Lib.hid (RowIs.below Q7.out hb152)
       replace HF0:=Lib.hid (Cells.below HF0.out hb152)
       replace HF1:=Lib.hid (Cells.below HF1.out hb152)
       replace HI3:=Lib.hid (Cells.below HI3.out hb152)
       replace HI4:=Lib.hid (Cells.below HI4.out hb152)
       replace QA:=Lib.hid (RowIs.below QA.out hb152)
       replace QB2:=Lib.hid (RowIs.below QB2.out hb152)
       replace QZ:=Lib.hid (RowIs.below QZ.out hb152)
       replace B1:=Lib.hid (bup B1.out hb152)
       have QW:=Lib.hid hr153
       clear hb152 hr153
       have cc154:Y151.cell? ⟨w.heap.size,0,none⟩=some (.slice (some ⟨tb,ofs,none⟩) i cap):=RowIs.cell R1.out 0
       have zz155:w.heap.size<Y151.heap.size:=RowIs.lt R1.out
       by_cases hav:a1=v1∧a2=v2
       ·have hav1:a1=v1:=hav.1
        have hav2:a2=v2:=hav.2
        have hva:valOf (lossA f) i n=(v1,v2):=by rw [← V1.out, ← V2.out]
        have hs1:=A.out
        rw [hav1,hav2] at hs1
        have hww:=mix_best KO.out hva hs1 BR1.out EW1.out EW2.out
        have HA1:=Lib.hid hav1
        have HA2:=Lib.hid hav2
        have HWW:=Lib.hid hww
        clear hva hs1 hww hav hav1 hav2
        have hsx:=sum_upto (x:=xr) (m:=i) (b:=24000000) fun j hj=>(BR1.out.few j hj).2
        obtain ⟨sx,hsx2⟩ : ∃ sx,sumI xr i=sx:=⟨_,rfl⟩
        rw [hsx2] at hsx
        have hsl : ¬ (99934464:Int)<sx:=by omega
        have hsd:decide ((99934464:Int)<sx)=false:=decide_eq_false hsl
        have SX:=Lib.hid hsx2
        clear hsx hsx2
        have cc156:Y151.cell? ⟨w36.heap.size,0,none⟩=some (.int .i64 a1):=RowIs.cell QA.out 0
        have cc157:Y151.cell? ⟨w36.heap.size,1,none⟩=some (.int .i64 a2):=RowIs.cell QA.out 1
        have zz158:w36.heap.size<Y151.heap.size:=RowIs.lt QA.out
        have cc159:Y151.cell? ⟨w24.heap.size,0,none⟩=some (.int .i64 v1):=RowIs.cell Q7.out 0
        have cc160:Y151.cell? ⟨w24.heap.size,1,none⟩=some (.int .i64 v2):=RowIs.cell Q7.out 1
        have zz161:w24.heap.size<Y151.heap.size:=RowIs.lt Q7.out
        have cc162:Y151.cell? ⟨w150.heap.size,0,none⟩=some (.int .i64 w1):=RowIs.cell QW.out 0
        have cc163:Y151.cell? ⟨w150.heap.size,1,none⟩=some (.int .i64 w2):=RowIs.cell QW.out 1
        have zz164:w150.heap.size<Y151.heap.size:=RowIs.lt QW.out
        have eq165 : ∀ x,(Op.equalIn 10000 30 (.agg #[.int .i64 a1, .int .i64 a2]) (.agg #[.int .i64 v1, .int .i64 v2])).run Try.prog x = .ok true x:=fun x=>(eqRat a1 a2 v1 v2 x).trans (by simp [HA1.out,HA2.out])
        have eq166 : ∀ x,(Op.equalIn 10000 30 (.agg #[.int .i64 w1, .int .i64 w2]) (.agg #[.int .i64 v1, .int .i64 v2])).run Try.prog x = .ok true x:=fun x=>(eqRat w1 w2 v1 v2 x).trans (by simp [HWW.out.1,HWW.out.2])
        have CSU:=lsum_c (some ⟨gr,0,none⟩) i i xr Y151 (rowA_ints Ggr.out) hm2 (fun j hj=>by have:=BR1.out.few j hj; omega)
        rw [SX.out] at CSU
        replace CSU:=Lib.hid CSU
        go_wp2_with fail
        refine CSU.out.mono ?_
        rintro e _ ⟨rfl,rfl⟩
        go_wp2_with fail
        clear hY151 cc154 zz155 cc156 cc157 zz158 cc159 cc160 zz161 cc162 cc163 zz164 eq165 eq166
        refine (works_c _).mono ?_
        rintro e w167 ⟨rfl,hbq⟩
        go_wp2_with fail
        go_ret
        exact ⟨rfl,bup B1.out hbq⟩
       ·have HAV:=Lib.hid hav
        clear hav
        have cc168:Y151.cell? ⟨w36.heap.size,0,none⟩=some (.int .i64 a1):=RowIs.cell QA.out 0
        have cc169:Y151.cell? ⟨w36.heap.size,1,none⟩=some (.int .i64 a2):=RowIs.cell QA.out 1
        have zz170:w36.heap.size<Y151.heap.size:=RowIs.lt QA.out
        have cc171:Y151.cell? ⟨w24.heap.size,0,none⟩=some (.int .i64 v1):=RowIs.cell Q7.out 0
        have cc172:Y151.cell? ⟨w24.heap.size,1,none⟩=some (.int .i64 v2):=RowIs.cell Q7.out 1
        have zz173:w24.heap.size<Y151.heap.size:=RowIs.lt Q7.out
        have cc174:Y151.cell? ⟨w150.heap.size,0,none⟩=some (.int .i64 w1):=RowIs.cell QW.out 0
        have cc175:Y151.cell? ⟨w150.heap.size,1,none⟩=some (.int .i64 w2):=RowIs.cell QW.out 1
        have zz176:w150.heap.size<Y151.heap.size:=RowIs.lt QW.out
        have eq177 : ∀ x,(Op.equalIn 10000 30 (.agg #[.int .i64 a1, .int .i64 a2]) (.agg #[.int .i64 v1, .int .i64 v2])).run Try.prog x = .ok false x:=fun x=>(eqRat a1 a2 v1 v2 x).trans (by simp; intro h; exact fun h2=>HAV.out ⟨h,h2⟩)
        go_wp2_with fail
        clear hY151 cc154 zz155 cc168 cc169 zz170 cc171 cc172 zz173 cc174 cc175 zz176 eq177
        refine (works_c _).mono ?_
        rintro e w178 ⟨rfl,hbq⟩
        go_wp2_with fail
        go_ret
        exact ⟨rfl,bup B1.out hbq⟩
end Go.Proofs.Ytkbbhihndigmeaa
