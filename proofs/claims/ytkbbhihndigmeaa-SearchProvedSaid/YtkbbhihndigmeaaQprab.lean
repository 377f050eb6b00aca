/- For whatever arguments, the law SearchProved returns true, and each argument reads behind the call as it read before. No condition. -/
import Derived.Shelf.Abstract
import Derived.Shelf.RegionOpen
import Derived.Conc.Own4
import Derived.Test.YtkbbhihndigmeaaQpraa
import Derived.Test.YtkbbhihndigmeaaRows
import Derived.ProofKit
namespace Go.Proofs.Ytkbbhihndigmeaa
open Go Go.RowKit Go.Shelf
set_option maxRecDepth 100000 in
set_option maxHeartbeats 16000000 in
theorem law_proved_c (a:Option Addr) (m cap:Nat) (f:Nat→Row3) (pa:Option Addr) (k pcap:Nat) (p:Nat→Int) (qa:Option Addr) (l qcap:Nat) (q:Nat→Int) (w:World) (hf:Tab w a m f) (hp:Shorts w pa k p) (hpb : ∀ i,i<k→0≤p i∧p i≤65535) (hq:Shorts w qa l q) (hqb : ∀ i,i<l→0≤q i∧q i≤65535) :
 Calls Try.prog 7 #[tabV a m cap, .slice pa k pcap, .slice qa l qcap] w fun e w'=>e = .returned (.bool true)∧Below w.heap.size w w':=by
 obtain ⟨W,hW⟩ : ∃ W,w.alloc (.cells #[.slice a m cap] 24)=W:=⟨_,rfl⟩
 have hB:Below w.heap.size w W:=by rw [← hW]; exact Below.alloc1 (Below.refl _ _) _ (Nat.le_refl _)
 have R1:=Lib.hid (show RowIs W w.heap.size #[.slice a m cap] 24 by rw [← hW]; exact heap_new_at _ _ _ rfl)
 have H1:=Lib.hid (hf.below hB)
 have HP:=Lib.hid (hp.below hB)
 have HQ:=Lib.hid (hq.below hB)
 have PB:=Lib.hid hpb
 have QB:=Lib.hid hqb
 have B1:=Lib.hid hB
 clear hf hp hq hB hpb hqb
 cases hT:fineB m f with
 | false=>
   have HF:=Lib.hid hT
   clear hT
   go_enter Try.func7,Try.ntmps7
   have cc1:W.cell? ⟨w.heap.size,0,none⟩=some (.slice a m cap):=RowIs.cell R1.out 0
   have zz2:w.heap.size<W.heap.size:=RowIs.lt R1.out
   go_wp2_with fail
   clear cc1 zz2 hW
   refine (fine_c a m cap f _ H1.out).mono ?_
   rintro e w3 ⟨rfl,hbq⟩
   replace R1:=Lib.hid (RowIs.below R1.out hbq)
   replace H1:=Lib.hid (H1.out.below hbq)
   replace HP:=Lib.hid (Shorts.below HP.out hbq)
   replace HQ:=Lib.hid (Shorts.below HQ.out hbq)
   replace B1:=Lib.hid (bup B1.out hbq)
   clear hbq
   rw [HF.out]
   have cc4:w3.cell? ⟨w.heap.size,0,none⟩=some (.slice a m cap):=RowIs.cell R1.out 0
   have zz5:w.heap.size<w3.heap.size:=RowIs.lt R1.out
   go_wp2_with fail
   clear cc4 zz5
   refine (works_c _).mono ?_
   rintro e w6 ⟨rfl,hbq⟩
   go_wp2_with fail
   go_ret
   exact ⟨rfl,bup B1.out hbq⟩
 | true=>
   have HF:=Lib.hid hT
   by_cases h1:(10:Int)<k
   ·have h1b:decide ((10:Int)<k)=true:=decide_eq_true h1
    clear hT
    go_enter Try.func7,Try.ntmps7
    have cc7:W.cell? ⟨w.heap.size,0,none⟩=some (.slice a m cap):=RowIs.cell R1.out 0
    have zz8:w.heap.size<W.heap.size:=RowIs.lt R1.out
    go_wp2_with fail
    clear cc7 zz8 hW
    refine (fine_c a m cap f _ H1.out).mono ?_
    rintro e w9 ⟨rfl,hbq⟩
    replace R1:=Lib.hid (RowIs.below R1.out hbq)
    replace H1:=Lib.hid (H1.out.below hbq)
    replace HP:=Lib.hid (Shorts.below HP.out hbq)
    replace HQ:=Lib.hid (Shorts.below HQ.out hbq)
    replace B1:=Lib.hid (bup B1.out hbq)
    clear hbq
    rw [HF.out]
    have cc10:w9.cell? ⟨w.heap.size,0,none⟩=some (.slice a m cap):=RowIs.cell R1.out 0
    have zz11:w.heap.size<w9.heap.size:=RowIs.lt R1.out
    go_wp2_with fail
    clear cc10 zz11
    refine (works_c _).mono ?_
    rintro e w12 ⟨rfl,hbq⟩
    go_wp2_with fail
    go_ret
    exact ⟨rfl,bup B1.out hbq⟩
   by_cases h2:(10:Int)<l
   ·have h2b:decide ((10:Int)<l)=true:=decide_eq_true h2
    clear hT
    go_enter Try.func7,Try.ntmps7
    have cc13:W.cell? ⟨w.heap.size,0,none⟩=some (.slice a m cap):=RowIs.cell R1.out 0
    have zz14:w.heap.size<W.heap.size:=RowIs.lt R1.out
    go_wp2_with fail
    clear cc13 zz14 hW
    refine (fine_c a m cap f _ H1.out).mono ?_
    rintro e w15 ⟨rfl,hbq⟩
    replace R1:=Lib.hid (RowIs.below R1.out hbq)
    replace H1:=Lib.hid (H1.out.below hbq)
    replace HP:=Lib.hid (Shorts.below HP.out hbq)
    replace HQ:=Lib.hid (Shorts.below HQ.out hbq)
    replace B1:=Lib.hid (bup B1.out hbq)
    clear hbq
    rw [HF.out]
    have cc16:w15.cell? ⟨w.heap.size,0,none⟩=some (.slice a m cap):=RowIs.cell R1.out 0
    have zz17:w.heap.size<w15.heap.size:=RowIs.lt R1.out
    go_wp2_with fail
    clear cc16 zz17
    refine (works_c _).mono ?_
    rintro e w18 ⟨rfl,hbq⟩
    go_wp2_with fail
    go_ret
    exact ⟨rfl,bup B1.out hbq⟩
   have hE:tableE m f=0:=of_decide_eq_true hT
   have hO:=okay_of hE
   obtain ⟨n,hn⟩ : ∃ n,(f 0).n=n:=⟨_,rfl⟩
   rw [hn] at hO
   have hm4:=hO.m4
   have hm1:=hO.m1
   have hn4:=hO.n4
   have hn1:=hO.n1
   have hm2:m≤1048576:=by omega
   have hr2 : ∀ i,i<m→(f i).n≤1048576:=fun i hi=>by rw [hO.len i hi]; omega
   have KO:=Lib.hid hO
   have RR:=Lib.hid hr2
   have hk10:k≤10:=by omega
   have hl10:l≤10:=by omega
   obtain ⟨tb,ofs,ha0,htb, -⟩:=Tab.at H1.out 0 (by omega)
   subst ha0
   obtain ⟨r,hr⟩ : ∃ r,planX m k p=r:=⟨_,rfl⟩
   obtain ⟨c,hc⟩ : ∃ c,planX n l q=c:=⟨_,rfl⟩
   have hrb : ∀ i,i<m→0≤r i∧r i≤100000000:=fun i _=>by have:=planX_bd (n:=m) PB.out i; rw [hr] at this; omega
   have hcb : ∀ i,i<n→0≤c i∧c i≤100000000:=fun i _=>by have:=planX_bd (n:=n) QB.out i; rw [hc] at this; omega
   have hr0:0<sumI r m:=by rw [← hr]; exact planX_pos hm1 PB.out
   have hc0:0<sumI c n:=by rw [← hc]; exact planX_pos hn1 QB.out
   obtain ⟨a1,a2,ha, -, -⟩:=sure_is hO hrb hr0
   obtain ⟨b1,b2,hb, -, -⟩:=bound_is hO hcb hc0
   have hpf:=proof_is hO hrb hr0 hcb hc0 ha hb
   obtain ⟨v1,hv1⟩ : ∃ v1,(valOf (lossA f) m n).1=v1:=⟨_,rfl⟩
   obtain ⟨v2,hv2⟩ : ∃ v2,(valOf (lossA f) m n).2=v2:=⟨_,rfl⟩
   have ln1:=sure_no_more hO ha
   have ln2:=bound_no_less hO hb
   rw [hv1,hv2] at ln1 ln2
   have lt1:ltB v1 v2 a1 a2=false:=decide_eq_false (by omega)
   have lt2:ltB b1 b2 v1 v2=false:=decide_eq_false (by omega)
   have rs:=sum_upto (x:=r) (m:=m) (b:=65535) fun i _=>by have:=planX_bd (n:=m) PB.out i; rw [hr] at this; omega
   have cs:=sum_upto (x:=c) (m:=n) (b:=65535) fun i _=>by have:=planX_bd (n:=n) QB.out i; rw [hc] at this; omega
   have a2b:a2≤262140:=by have:=ha.d2; omega
   have b2b:b2≤262140:=by have:=hb.d2; omega
   have A:=Lib.hid ha
   have BD:=Lib.hid hb
   have L1:=Lib.hid lt1
   have L2:=Lib.hid lt2
   have HPF:=Lib.hid hpf
   have V1:=Lib.hid hv1
   have V2:=Lib.hid hv2
   have HR:=Lib.hid hr
   have HC:=Lib.hid hc
   have HN:=Lib.hid hn
   have A2:=Lib.hid a2b
   have B2:=Lib.hid b2b
   clear ha hb lt1 lt2 hpf hv1 hv2 hr hc hn hO hE hT hr2 ln1 ln2 rs cs a2b b2b hrb hcb hr0 hc0
   go_enter Try.func7,Try.ntmps7
   have cc19:W.cell? ⟨w.heap.size,0,none⟩=some (.slice (some ⟨tb,ofs,none⟩) m cap):=RowIs.cell R1.out 0
   have zz20:w.heap.size<W.heap.size:=RowIs.lt R1.out
   go_wp2_with fail
   clear cc19 zz20 hW
   refine (fine_c (some ⟨tb,ofs,none⟩) m cap f _ H1.out).mono ?_
   rintro e w21 ⟨rfl,hbq⟩
   replace R1:=Lib.hid (RowIs.below R1.out hbq)
   replace H1:=Lib.hid (H1.out.below hbq)
   replace HP:=Lib.hid (Shorts.below HP.out hbq)
   replace HQ:=Lib.hid (Shorts.below HQ.out hbq)
   replace B1:=Lib.hid (bup B1.out hbq)
   clear hbq
   rw [HF.out]
   have cc22:w21.cell? ⟨w.heap.size,0,none⟩=some (.slice (some ⟨tb,ofs,none⟩) m cap):=RowIs.cell R1.out 0
   have zz23:w.heap.size<w21.heap.size:=RowIs.lt R1.out
   go_wp2_with fail
   clear cc22 zz23
   refine (value_c (some ⟨tb,ofs,none⟩) m n cap f _ H1.out KO.out).mono ?_
   rintro e w25 ⟨hres,hbq⟩
   obtain ⟨gr,xr,gk,xk,hbr,hbc,rfl,hrr,hrk⟩:=hres
   rw [V1.out,V2.out]
   have hsm:=val_small KO.out hbr
   rw [V1.out,V2.out] at hsm
   have VS:=Lib.hid hsm
   clear hsm hbr hbc hrr hrk
   replace R1:=Lib.hid (RowIs.below R1.out hbq)
   replace H1:=Lib.hid (H1.out.below hbq)
   replace HP:=Lib.hid (Shorts.below HP.out hbq)
   replace HQ:=Lib.hid (Shorts.below HQ.out hbq)
   replace B1:=Lib.hid (bup B1.out hbq)
   clear hbq
   obtain ⟨Y26,hY26⟩ : ∃ Y26,w25.alloc (.cells #[.int .i64 v1, .int .i64 v2] 30)=Y26:=⟨_,rfl⟩
   have hb27:Below w25.heap.size w25 Y26:=by rw [← hY26]; exact Below.alloc1 (Below.refl _ _) _ (Nat.le_refl _)
   have hr28:RowIs Y26 w25.heap.size #[.int .i64 v1, .int .i64 v2] 30:=by rw [← hY26]; exact heap_new_at _ _ _ rfl
   replace R1:=Lib.hid (RowIs.below R1.out hb27)
   replace H1:=Lib.hid (H1.out.below hb27)
   replace HP:=Lib.hid (Shorts.below HP.out hb27)
   replace HQ:=Lib.hid (Shorts.below HQ.out hb27)
   replace B1:=Lib.hid (bup B1.out hb27)
   have Q7:=Lib.hid hr28
   clear hb27 hr28
   have cc29:Y26.cell? ⟨w.heap.size,0,none⟩=some (.slice (some ⟨tb,ofs,none⟩) m cap):=RowIs.cell R1.out 0
   have zz30:w.heap.size<Y26.heap.size:=RowIs.lt R1.out
   have hT0 : ∀ y,Below Y26.heap.size Y26 y→y.cell? ⟨tb,ofs,none⟩=some (.slice (f 0).a n (f 0).cap)∧tb<y.heap.size:=fun y hy=>by
    obtain ⟨b2,o2,e2,hz2,hc2⟩:=Tab.at (H1.out.below hy) 0 (by omega)
    obtain ⟨rfl,rfl⟩:b2=tb∧o2=ofs:=by injection e2 with he; injection he with h1 h2 _; exact ⟨h1.symm,h2.symm⟩
    have:=hc2 0 (by omega)
    rw [Nat.add_zero,HN.out] at this
    exact ⟨this,hz2⟩
   have HT0:=Lib.hid hT0
   clear hT0
   go_wp2_with fail
   clear hY26 cc29 zz30
   refine RC.wp_region_runF (C:=fun y=>Below Y26.heap.size Y26 y) (fun y=>Below Y26.heap.size Y26 y∧True) (by kernel_rfl) (fun _ _ h hb=>⟨h.1.trans (hb.mono h.1.size),trivial⟩) ⟨Below.refl _ _,trivial⟩ ?_
   change RC.Run _ _ _ _ _ 14 _ _ _
   refine RC.run_take (i:=0) (.pointer (some ⟨w.heap.size,0,none⟩)) rfl (by kernel_rfl) (by kernel_rfl) (by kernel_rfl) rfl (fun y h=>h.1) (fun y hy=>by have k0:=R1.out.below hy; have q0:=RowIs.cell k0 0; have qz:=RowIs.lt k0; obtain ⟨q1,qz1⟩:=HT0.out y hy; have hmz : ¬ m=0:=(by omega); go_simp) ?_
   simp only [puts]
   refine RC.run_take (i:=1) (.slice (some ⟨tb,ofs,none⟩) m cap) rfl (by kernel_rfl) (by kernel_rfl) (by kernel_rfl) rfl (fun y h=>h.1) (fun y hy=>by have k0:=R1.out.below hy; have q0:=RowIs.cell k0 0; have qz:=RowIs.lt k0; obtain ⟨q1,qz1⟩:=HT0.out y hy; have hmz : ¬ m=0:=(by omega); go_simp) ?_
   simp only [puts]
   refine RC.run_take (i:=2) (.int .i64 m) rfl (by kernel_rfl) (by kernel_rfl) (by kernel_rfl) rfl (fun y h=>h.1) (fun y hy=>by have k0:=R1.out.below hy; have q0:=RowIs.cell k0 0; have qz:=RowIs.lt k0; obtain ⟨q1,qz1⟩:=HT0.out y hy; have hmz : ¬ m=0:=(by omega); go_simp) ?_
   simp only [puts]
   refine RC.run_take (i:=3) (.slice pa k pcap) rfl (by kernel_rfl) (by kernel_rfl) (by kernel_rfl) rfl (fun y h=>h.1) (fun y hy=>by have k0:=R1.out.below hy; have q0:=RowIs.cell k0 0; have qz:=RowIs.lt k0; obtain ⟨q1,qz1⟩:=HT0.out y hy; have hmz : ¬ m=0:=(by omega); go_simp) ?_
   simp only [puts]
   refine RC.run_take (i:=5) (.pointer (some ⟨w.heap.size,0,none⟩)) rfl (by kernel_rfl) (by kernel_rfl) (by kernel_rfl) rfl (fun y h=>h.1) (fun y hy=>by have k0:=R1.out.below hy; have q0:=RowIs.cell k0 0; have qz:=RowIs.lt k0; obtain ⟨q1,qz1⟩:=HT0.out y hy; have hmz : ¬ m=0:=(by omega); go_simp) ?_
   simp only [puts]
   refine RC.run_take (i:=6) (.slice (some ⟨tb,ofs,none⟩) m cap) rfl (by kernel_rfl) (by kernel_rfl) (by kernel_rfl) rfl (fun y h=>h.1) (fun y hy=>by have k0:=R1.out.below hy; have q0:=RowIs.cell k0 0; have qz:=RowIs.lt k0; obtain ⟨q1,qz1⟩:=HT0.out y hy; have hmz : ¬ m=0:=(by omega); go_simp) ?_
   simp only [puts]
   refine RC.run_take (i:=7) (.pointer (some ⟨tb,ofs,none⟩)) rfl (by kernel_rfl) (by kernel_rfl) (by kernel_rfl) rfl (fun y h=>h.1) (fun y hy=>by have k0:=R1.out.below hy; have q0:=RowIs.cell k0 0; have qz:=RowIs.lt k0; obtain ⟨q1,qz1⟩:=HT0.out y hy; have hmz : ¬ m=0:=(by omega); go_simp) ?_
   simp only [puts]
   refine RC.run_take (i:=8) (.slice (f 0).a n (f 0).cap) rfl (by kernel_rfl) (by kernel_rfl) (by kernel_rfl) rfl (fun y h=>h.1) (fun y hy=>by have k0:=R1.out.below hy; have q0:=RowIs.cell k0 0; have qz:=RowIs.lt k0; obtain ⟨q1,qz1⟩:=HT0.out y hy; have hmz : ¬ m=0:=(by omega); go_simp) ?_
   simp only [puts]
   refine RC.run_take (i:=9) (.int .i64 n) rfl (by kernel_rfl) (by kernel_rfl) (by kernel_rfl) rfl (fun y h=>h.1) (fun y hy=>by have k0:=R1.out.below hy; have q0:=RowIs.cell k0 0; have qz:=RowIs.lt k0; obtain ⟨q1,qz1⟩:=HT0.out y hy; have hmz : ¬ m=0:=(by omega); go_simp) ?_
   simp only [puts]
   refine RC.run_take (i:=10) (.slice qa l qcap) rfl (by kernel_rfl) (by kernel_rfl) (by kernel_rfl) rfl (fun y h=>h.1) (fun y hy=>by have k0:=R1.out.below hy; have q0:=RowIs.cell k0 0; have qz:=RowIs.lt k0; obtain ⟨q1,qz1⟩:=HT0.out y hy; have hmz : ¬ m=0:=(by omega); go_simp) ?_
   simp only [puts]
   refine RC.run_only (i:=4) (by kernel_rfl) (RC.at_call (fun v y=> ∃ g1 c1,v=(.slice (some ⟨g1,0,none⟩) m c1:Value)∧(Below Y26.heap.size Y26 y∧True)∧Ints y (some ⟨g1,0,none⟩) m r) rfl rfl (fun v y y1 ⟨g1,c1,e,h,h2⟩ hb=>⟨g1,c1,e,⟨(h).1.trans (hb.mono (h).1.size),trivial⟩,Cells.below h2 hb⟩) (fun v y ⟨_,_,_,h,_⟩=>h.1) (fun y hy => ?_) ?_)
   ·have hy1:=hy.1
    refine ⟨_, #[.int .i64 m, .slice pa k pcap],(Go.Conc.run_call_body (fn:=Try.f42) rfl Try.func42 (by kernel_rfl) (by kernel_rfl)).trans (by simp [Act.eval]),(Planned_c pa m k pcap p y (HP.out.below hy1) (⟨hm1,hm4⟩) (by omega) PB.out).mono ?_⟩
    rintro e y1 ⟨g1,c1,rfl,hfact,hb⟩
    rw [HR.out] at hfact
    exact ⟨_,rfl,g1,c1,rfl,⟨(hy).1.trans (hb.mono (hy).1.size),trivial⟩,hfact⟩
   rintro v ⟨_,g1,c1,rfl, -⟩
   simp only [puts]
   refine RC.run_mono _ _ _ (fun y=>((Below Y26.heap.size Y26 y∧True)∧Ints y (some ⟨g1,0,none⟩) m r)) _ (by
    rintro y ⟨g1',c1',e,h1,h2⟩
    obtain ⟨rfl, -,rfl⟩:=sl_inj e
    exact ⟨h1,h2⟩) ?_
   refine RC.run_only (i:=11) (by kernel_rfl) (RC.at_call (fun v y=> ∃ g2 c2,v=(.slice (some ⟨g2,0,none⟩) n c2:Value)∧((Below Y26.heap.size Y26 y∧True)∧Ints y (some ⟨g1,0,none⟩) m r)∧Ints y (some ⟨g2,0,none⟩) n c) rfl rfl (fun v y y1 ⟨g2,c2,e,h,h2⟩ hb=>⟨g2,c2,e,⟨⟨(h.1).1.trans (hb.mono (h.1).1.size),trivial⟩,Cells.below (h).2 hb⟩,Cells.below h2 hb⟩) (fun v y ⟨_,_,_,h,_⟩=>h.1.1) (fun y hy => ?_) ?_)
   ·have hy1:=hy.1.1
    refine ⟨_, #[.int .i64 n, .slice qa l qcap],(Go.Conc.run_call_body (fn:=Try.f42) rfl Try.func42 (by kernel_rfl) (by kernel_rfl)).trans (by simp [Act.eval]),(Planned_c qa n l qcap q y (HQ.out.below hy1) (⟨hn1,hn4⟩) (by omega) QB.out).mono ?_⟩
    rintro e y1 ⟨g2,c2,rfl,hfact,hb⟩
    rw [HC.out] at hfact
    exact ⟨_,rfl,g2,c2,rfl,⟨⟨(hy.1).1.trans (hb.mono (hy.1).1.size),trivial⟩,Cells.below (hy).2 hb⟩,hfact⟩
   rintro v ⟨_,g2,c2,rfl, -⟩
   simp only [puts]
   refine RC.run_mono _ _ _ (fun y=>(((Below Y26.heap.size Y26 y∧True)∧Ints y (some ⟨g1,0,none⟩) m r)∧Ints y (some ⟨g2,0,none⟩) n c)) _ (by
    rintro y ⟨g2',c2',e,h1,h2⟩
    obtain ⟨rfl, -,rfl⟩:=sl_inj e
    exact ⟨h1,h2⟩) ?_
   refine RC.run_take (i:=12) (.slice (some ⟨g1,0,none⟩) m c1) rfl (by kernel_rfl) (by kernel_rfl) (by kernel_rfl) rfl (fun y h=>h.1.1.1) (fun y hy=>by have k0:=R1.out.below hy; have q0:=RowIs.cell k0 0; have qz:=RowIs.lt k0; obtain ⟨q1,qz1⟩:=HT0.out y hy; have hmz : ¬ m=0:=(by omega); go_simp) ?_
   simp only [puts]
   refine RC.run_take (i:=13) (.slice (some ⟨g2,0,none⟩) n c2) rfl (by kernel_rfl) (by kernel_rfl) (by kernel_rfl) rfl (fun y h=>h.1.1.1) (fun y hy=>by have k0:=R1.out.below hy; have q0:=RowIs.cell k0 0; have qz:=RowIs.lt k0; obtain ⟨q1,qz1⟩:=HT0.out y hy; have hmz : ¬ m=0:=(by omega); go_simp) ?_
   simp only [puts]
   refine ⟨by kernel_rfl,fun w31 hy => ?_⟩
   obtain ⟨⟨⟨hbq, -⟩,hf0⟩,hf1⟩:=hy
   replace R1:=Lib.hid (RowIs.below R1.out hbq)
   replace H1:=Lib.hid (H1.out.below hbq)
   replace HP:=Lib.hid (Shorts.below HP.out hbq)
   replace HQ:=Lib.hid (Shorts.below HQ.out hbq)
   replace Q7:=Lib.hid (RowIs.below Q7.out hbq)
   replace B1:=Lib.hid (bup B1.out hbq)
   have HF0:=Lib.hid hf0
   have HF1:=Lib.hid hf1
   clear hbq hf0 hf1
   have cc32:w31.cell? ⟨w.heap.size,0,none⟩=some (.slice (some ⟨tb,ofs,none⟩) m cap):=RowIs.cell R1.out 0
   have zz33:w.heap.size<w31.heap.size:=RowIs.lt R1.out
   have KA:=Lib.hid A.out.eq
   have KB:=Lib.hid BD.out.eq
   have C34:=Sure_c (some ⟨tb,ofs,none⟩) m cap f (some ⟨g1,0,none⟩) m c1 r w31 H1.out hm2 RR.out HF0.out hm2
   rw [KA.out] at C34
   replace C34:=Lib.hid C34
   go_wp2_with fail
   clear cc32 zz33
   refine (C34.out).mono ?_
   rintro e w35 ⟨rfl,hbq⟩
   replace R1:=Lib.hid (RowIs.below R1.out hbq)
   replace H1:=Lib.hid (H1.out.below hbq)
   replace HP:=Lib.hid (Shorts.below HP.out hbq)
   replace HQ:=Lib.hid (Shorts.below HQ.out hbq)
   replace Q7:=Lib.hid (RowIs.below Q7.out hbq)
   replace HF0:=Lib.hid (Cells.below HF0.out hbq)
   replace HF1:=Lib.hid (Cells.below HF1.out hbq)
   replace B1:=Lib.hid (bup B1.out hbq)
   clear hbq
   clear C34
   obtain ⟨Y36,hY36⟩ : ∃ Y36,w35.alloc (.cells #[.int .i64 a1, .int .i64 a2] 30)=Y36:=⟨_,rfl⟩
   have hb37:Below w35.heap.size w35 Y36:=by rw [← hY36]; exact Below.alloc1 (Below.refl _ _) _ (Nat.le_refl _)
   have hr38:RowIs Y36 w35.heap.size #[.int .i64 a1, .int .i64 a2] 30:=by rw [← hY36]; exact heap_new_at _ _ _ rfl
   replace R1:=Lib.hid (RowIs.below R1.out hb37)
   replace H1:=Lib.hid (H1.out.below hb37)
   replace HP:=Lib.hid (Shorts.below HP.out hb37)
   replace HQ:=Lib.hid (Shorts.below HQ.out hb37)
   replace Q7:=Lib.hid (RowIs.below Q7.out hb37)
   replace HF0:=Lib.hid (Cells.below HF0.out hb37)
   replace HF1:=Lib.hid (Cells.below HF1.out hb37)
   replace B1:=Lib.hid (bup B1.out hb37)
   have QA:=Lib.hid hr38
   clear hb37 hr38
   have cc39:Y36.cell? ⟨w.heap.size,0,none⟩=some (.slice (some ⟨tb,ofs,none⟩) m cap):=RowIs.cell R1.out 0
   have zz40:w.heap.size<Y36.heap.size:=RowIs.lt R1.out
   have C41:=Bound_c (some ⟨tb,ofs,none⟩) m cap f (some ⟨g2,0,none⟩) n c2 c Y36 H1.out hm2 RR.out HF1.out (by omega)
   rw [KB.out] at C41
   replace C41:=Lib.hid C41
   go_wp2_with fail
   clear hY36 cc39 zz40
   refine (C41.out).mono ?_
   rintro e w42 ⟨rfl,hbq⟩
   replace R1:=Lib.hid (RowIs.below R1.out hbq)
   replace H1:=Lib.hid (H1.out.below hbq)
   replace HP:=Lib.hid (Shorts.below HP.out hbq)
   replace HQ:=Lib.hid (Shorts.below HQ.out hbq)
   replace Q7:=Lib.hid (RowIs.below Q7.out hbq)
   replace HF0:=Lib.hid (Cells.below HF0.out hbq)
   replace HF1:=Lib.hid (Cells.below HF1.out hbq)
   replace QA:=Lib.hid (RowIs.below QA.out hbq)
   replace B1:=Lib.hid (bup B1.out hbq)
   clear hbq
   clear C41
   obtain ⟨Y43,hY43⟩ : ∃ Y43,w42.alloc (.cells #[.int .i64 b1, .int .i64 b2] 30)=Y43:=⟨_,rfl⟩
   have hb44:Below w42.heap.size w42 Y43:=by rw [← hY43]; exact Below.alloc1 (Below.refl _ _) _ (Nat.le_refl _)
   have hr45:RowIs Y43 w42.heap.size #[.int .i64 b1, .int .i64 b2] 30:=by rw [← hY43]; exact heap_new_at _ _ _ rfl
   replace R1:=Lib.hid (RowIs.below R1.out hb44)
   replace H1:=Lib.hid (H1.out.below hb44)
   replace HP:=Lib.hid (Shorts.below HP.out hb44)
   replace HQ:=Lib.hid (Shorts.below HQ.out hb44)
   replace Q7:=Lib.hid (RowIs.below Q7.out hb44)
   replace HF0:=Lib.hid (Cells.below HF0.out hb44)
   replace HF1:=Lib.hid (Cells.below HF1.out hb44)
   replace QA:=Lib.hid (RowIs.below QA.out hb44)
   replace B1:=Lib.hid (bup B1.out hb44)
   have QB2:=Lib.hid hr45
   clear hb44 hr45
   have cc46:Y43.cell? ⟨w.heap.size,0,none⟩=some (.slice (some ⟨tb,ofs,none⟩) m cap):=RowIs.cell R1.out 0
   have zz47:w.heap.size<Y43.heap.size:=RowIs.lt R1.out
   obtain ⟨sm1,sm2,sm3,sm4,sm5,sm6⟩:=VS.out
   have CSA:=Lib.hid (fun (x:World)=>small_c a1 a2 x A.out.d1 (by have:=A2.out; omega) A.out.n1 A.out.n2 A.out.r1 A.out.r2)
   have CSB:=Lib.hid (fun (x:World)=>small_c b1 b2 x BD.out.d1 (by have:=B2.out; omega) BD.out.n1 BD.out.n2 BD.out.r1 BD.out.r2)
   have CLA:=Lib.hid (fun (x:World)=>less_fit v1 v2 a1 a2 x sm1 sm2 sm3 sm4 A.out.d1 (by have:=A2.out; omega) A.out.n1 A.out.n2)
   have CLB:=Lib.hid (fun (x:World)=>less_fit b1 b2 v1 v2 x BD.out.d1 (by have:=B2.out; omega) BD.out.n1 BD.out.n2 sm1 sm2 sm3 sm4)
   rw [L1.out] at CLA
   rw [L2.out] at CLB
   clear sm1 sm2 sm3 sm4 sm5 sm6
   have cc48:Y43.cell? ⟨w25.heap.size,0,none⟩=some (.int .i64 v1):=RowIs.cell Q7.out 0
   have cc49:Y43.cell? ⟨w25.heap.size,1,none⟩=some (.int .i64 v2):=RowIs.cell Q7.out 1
   have zz50:w25.heap.size<Y43.heap.size:=RowIs.lt Q7.out
   have cc51:Y43.cell? ⟨w35.heap.size,0,none⟩=some (.int .i64 a1):=RowIs.cell QA.out 0
   have cc52:Y43.cell? ⟨w35.heap.size,1,none⟩=some (.int .i64 a2):=RowIs.cell QA.out 1
   have zz53:w35.heap.size<Y43.heap.size:=RowIs.lt QA.out
   have cc54:Y43.cell? ⟨w42.heap.size,0,none⟩=some (.int .i64 b1):=RowIs.cell QB2.out 0
   have cc55:Y43.cell? ⟨w42.heap.size,1,none⟩=some (.int .i64 b2):=RowIs.cell QB2.out 1
   have zz56:w42.heap.size<Y43.heap.size:=RowIs.lt QB2.out
   go_wp2_with fail
   clear hY43 cc46 zz47 cc48 cc49 zz50 cc51 cc52 zz53 cc54 cc55 zz56
   refine (CSA.out _).mono ?_
   rintro e w57 ⟨rfl,hbq⟩
   replace R1:=Lib.hid (RowIs.below R1.out hbq)
   replace H1:=Lib.hid (H1.out.below hbq)
   replace HP:=Lib.hid (Shorts.below HP.out hbq)
   replace HQ:=Lib.hid (Shorts.below HQ.out hbq)
   replace Q7:=Lib.hid (RowIs.below Q7.out hbq)
   replace HF0:=Lib.hid (Cells.below HF0.out hbq)
   replace HF1:=Lib.hid (Cells.below HF1.out hbq)
   replace QA:=Lib.hid (RowIs.below QA.out hbq)
   replace QB2:=Lib.hid (RowIs.below QB2.out hbq)
   replace B1:=Lib.hid (bup B1.out hbq)
   clear hbq
   have cc58:w57.cell? ⟨w25.heap.size,0,none⟩=some (.int .i64 v1):=RowIs.cell Q7.out 0
   have cc59:w57.cell? ⟨w25.heap.size,1,none⟩=some (.int .i64 v2):=RowIs.cell Q7.out 1
   have zz60:w25.heap.size<w57.heap.size:=RowIs.lt Q7.out
   have cc61:w57.cell? ⟨w35.heap.size,0,none⟩=some (.int .i64 a1):=RowIs.cell QA.out 0
   have cc62:w57.cell? ⟨w35.heap.size,1,none⟩=some (.int .i64 a2):=RowIs.cell QA.out 1
   have zz63:w35.heap.size<w57.heap.size:=RowIs.lt QA.out
   have cc64:w57.cell? ⟨w42.heap.size,0,none⟩=some (.int .i64 b1):=RowIs.cell QB2.out 0
   have cc65:w57.cell? ⟨w42.heap.size,1,none⟩=some (.int .i64 b2):=RowIs.cell QB2.out 1
   have zz66:w42.heap.size<w57.heap.size:=RowIs.lt QB2.out
   have cc67:w57.cell? ⟨w.heap.size,0,none⟩=some (.slice (some ⟨tb,ofs,none⟩) m cap):=RowIs.cell R1.out 0
   have zz68:w.heap.size<w57.heap.size:=RowIs.lt R1.out
   go_wp2_with fail
   clear cc58 cc59 zz60 cc61 cc62 zz63 cc64 cc65 zz66 cc67 zz68
   refine (CSB.out _).mono ?_
   rintro e w69 ⟨rfl,hbq⟩
   replace R1:=Lib.hid (RowIs.below R1.out hbq)
   replace H1:=Lib.hid (H1.out.below hbq)
   replace HP:=Lib.hid (Shorts.below HP.out hbq)
   replace HQ:=Lib.hid (Shorts.below HQ.out hbq)
   replace Q7:=Lib.hid (RowIs.below Q7.out hbq)
   replace HF0:=Lib.hid (Cells.below HF0.out hbq)
   replace HF1:=Lib.hid (Cells.below HF1.out hbq)
   replace QA:=Lib.hid (RowIs.below QA.out hbq)
   replace QB2:=Lib.hid (RowIs.below QB2.out hbq)
   replace B1:=Lib.hid (bup B1.out hbq)
   clear hbq
   have cc70:w69.cell? ⟨w25.heap.size,0,none⟩=some (.int .i64 v1):=RowIs.cell Q7.out 0
   have cc71:w69.cell? ⟨w25.heap.size,1,none⟩=some (.int .i64 v2):=RowIs.cell Q7.out 1
   have zz72:w25.heap.size<w69.heap.size:=RowIs.lt Q7.out
   have cc73:w69.cell? ⟨w35.heap.size,0,none⟩=some (.int .i64 a1):=RowIs.cell QA.out 0
   have cc74:w69.cell? ⟨w35.heap.size,1,none⟩=some (.int .i64 a2):=RowIs.cell QA.out 1
   have zz75:w35.heap.size<w69.heap.size:=RowIs.lt QA.out
   have cc76:w69.cell? ⟨w42.heap.size,0,none⟩=some (.int .i64 b1):=RowIs.cell QB2.out 0
   have cc77:w69.cell? ⟨w42.heap.size,1,none⟩=some (.int .i64 b2):=RowIs.cell QB2.out 1
   have zz78:w42.heap.size<w69.heap.size:=RowIs.lt QB2.out
   have cc79:w69.cell? ⟨w.heap.size,0,none⟩=some (.slice (some ⟨tb,ofs,none⟩) m cap):=RowIs.cell R1.out 0
   have zz80:w.heap.size<w69.heap.size:=RowIs.lt R1.out
   go_wp2_with fail
   clear cc70 cc71 zz72 cc73 cc74 zz75 cc76 cc77 zz78 cc79 zz80
   refine (CLA.out _).mono ?_
   rintro e w81 ⟨rfl,hbq⟩
   replace R1:=Lib.hid (RowIs.below R1.out hbq)
   replace H1:=Lib.hid (H1.out.below hbq)
   replace HP:=Lib.hid (Shorts.below HP.out hbq)
   replace HQ:=Lib.hid (Shorts.below HQ.out hbq)
   replace Q7:=Lib.hid (RowIs.below Q7.out hbq)
   replace HF0:=Lib.hid (Cells.below HF0.out hbq)
   replace HF1:=Lib.hid (Cells.below HF1.out hbq)
   replace QA:=Lib.hid (RowIs.below QA.out hbq)
   replace QB2:=Lib.hid (RowIs.below QB2.out hbq)
   replace B1:=Lib.hid (bup B1.out hbq)
   clear hbq
   have cc82:w81.cell? ⟨w25.heap.size,0,none⟩=some (.int .i64 v1):=RowIs.cell Q7.out 0
   have cc83:w81.cell? ⟨w25.heap.size,1,none⟩=some (.int .i64 v2):=RowIs.cell Q7.out 1
   have zz84:w25.heap.size<w81.heap.size:=RowIs.lt Q7.out
   have cc85:w81.cell? ⟨w35.heap.size,0,none⟩=some (.int .i64 a1):=RowIs.cell QA.out 0
   have cc86:w81.cell? ⟨w35.heap.size,1,none⟩=some (.int .i64 a2):=RowIs.cell QA.out 1
   have zz87:w35.heap.size<w81.heap.size:=RowIs.lt QA.out
   have cc88:w81.cell? ⟨w42.heap.size,0,none⟩=some (.int .i64 b1):=RowIs.cell QB2.out 0
   have cc89:w81.cell? ⟨w42.heap.size,1,none⟩=some (.int .i64 b2):=RowIs.cell QB2.out 1
   have zz90:w42.heap.size<w81.heap.size:=RowIs.lt QB2.out
   have cc91:w81.cell? ⟨w.heap.size,0,none⟩=some (.slice (some ⟨tb,ofs,none⟩) m cap):=RowIs.cell R1.out 0
   have zz92:w.heap.size<w81.heap.size:=RowIs.lt R1.out
   go_wp2_with fail
   clear cc82 cc83 zz84 cc85 cc86 zz87 cc88 cc89 zz90 cc91 zz92
   refine (CLB.out _).mono ?_
   rintro e w93 ⟨rfl,hbq⟩
   replace R1:=Lib.hid (RowIs.below R1.out hbq)
   replace H1:=Lib.hid (H1.out.below hbq)
   replace HP:=Lib.hid (Shorts.below HP.out hbq)
   replace HQ:=Lib.hid (Shorts.below HQ.out hbq)
   replace Q7:=Lib.hid (RowIs.below Q7.out hbq)
   replace HF0:=Lib.hid (Cells.below HF0.out hbq)
   replace HF1:=Lib.hid (Cells.below HF1.out hbq)
   replace QA:=Lib.hid (RowIs.below QA.out hbq)
   replace QB2:=Lib.hid (RowIs.below QB2.out hbq)
   replace B1:=Lib.hid (bup B1.out hbq)
   clear hbq
   have cc94:w93.cell? ⟨w25.heap.size,0,none⟩=some (.int .i64 v1):=RowIs.cell Q7.out 0
   have cc95:w93.cell? ⟨w25.heap.size,1,none⟩=some (.int .i64 v2):=RowIs.cell Q7.out 1
   have zz96:w25.heap.size<w93.heap.size:=RowIs.lt Q7.out
   have cc97:w93.cell? ⟨w35.heap.size,0,none⟩=some (.int .i64 a1):=RowIs.cell QA.out 0
   have cc98:w93.cell? ⟨w35.heap.size,1,none⟩=some (.int .i64 a2):=RowIs.cell QA.out 1
   have zz99:w35.heap.size<w93.heap.size:=RowIs.lt QA.out
   have cc100:w93.cell? ⟨w42.heap.size,0,none⟩=some (.int .i64 b1):=RowIs.cell QB2.out 0
   have cc101:w93.cell? ⟨w42.heap.size,1,none⟩=some (.int .i64 b2):=RowIs.cell QB2.out 1
   have zz102:w42.heap.size<w93.heap.size:=RowIs.lt QB2.out
   have cc103:w93.cell? ⟨w.heap.size,0,none⟩=some (.slice (some ⟨tb,ofs,none⟩) m cap):=RowIs.cell R1.out 0
   have zz104:w.heap.size<w93.heap.size:=RowIs.lt R1.out
   clear CSA CSB CLA CLB
   by_cases hab:a1=b1∧a2=b2
   ·have hpf:=HPF.out
    rw [if_pos hab] at hpf
    obtain ⟨hab1,hab2⟩:=hab
    have hvv:v1=a1∧v2=a2:=by
     have hb:=BD.out
     rw [← hab1, ← hab2] at hb
     have:=both_val A.out hb
     rw [← V1.out, ← V2.out,this]
     exact ⟨rfl,rfl⟩
    have HAB:=Lib.hid hab1
    have HAC:=Lib.hid hab2
    have HVV:=Lib.hid hvv
    have KP:=Lib.hid hpf
    clear hpf hab1 hab2 hvv
    have C105:=CheckProof_c (some ⟨tb,ofs,none⟩) m cap f (some ⟨g1,0,none⟩) m c1 r (some ⟨g2,0,none⟩) n c2 c w93 H1.out hm2 RR.out HF0.out hm2 HF1.out (by omega)
    rw [KP.out] at C105
    replace C105:=Lib.hid C105
    go_wp2_with fail
    clear cc94 cc95 zz96 cc97 cc98 zz99 cc100 cc101 zz102 cc103 zz104
    refine (C105.out).mono ?_
    rintro e w106 ⟨rfl,hbq⟩
    replace R1:=Lib.hid (RowIs.below R1.out hbq)
    replace H1:=Lib.hid (H1.out.below hbq)
    replace HP:=Lib.hid (Shorts.below HP.out hbq)
    replace HQ:=Lib.hid (Shorts.below HQ.out hbq)
    replace Q7:=Lib.hid (RowIs.below Q7.out hbq)
    replace HF0:=Lib.hid (Cells.below HF0.out hbq)
    replace HF1:=Lib.hid (Cells.below HF1.out hbq)
    replace QA:=Lib.hid (RowIs.below QA.out hbq)
    replace QB2:=Lib.hid (RowIs.below QB2.out hbq)
    replace B1:=Lib.hid (bup B1.out hbq)
    clear hbq
    clear C105
    obtain ⟨Y107,hY107⟩ : ∃ Y107,w106.alloc (.cells #[.int .i64 a1, .int .i64 a2] 30)=Y107:=⟨_,rfl⟩
    have hb108:Below w106.heap.size w106 Y107:=by rw [← hY107]; exact Below.alloc1 (Below.refl _ _) _ (Nat.le_refl _)
    have hr109:RowIs Y107 w106.heap.size #[.int .i64 a1, .int .i64 a2] 30:=by rw [← hY107]; exact heap_new_at _ _ _ rfl
    replace R1:=Lib.hid (RowIs.below R1.out hb108)
    replace H1:=Lib.hid (H1.out.below hb108)
    replace HP:=Lib.hid (Shorts.below HP.out hb108)
    replace HQ:=Lib.hid (Shorts.below HQ.out hb108)
    replace Q7:=Lib.hid (RowIs.below Q7.out hb108)
    replace HF0:=Lib.hid (Cells.below HF0.out hb108)
    replace HF1:=Lib.hid (Cells.below HF1.out hb108)
    replace QA:=Lib.hid (RowIs.below QA.out hb108)
    replace QB2:=Lib.hid (RowIs.below QB2.out hb108)
    replace B1:=Lib.hid (bup B1.out hb108)
    have QP:=Lib.hid hr109
    clear hb108 hr109
    have cc110:Y107.cell? ⟨w.heap.size,0,none⟩=some (.slice (some ⟨tb,ofs,none⟩) m cap):=RowIs.cell R1.out 0
    have zz111:w.heap.size<Y107.heap.size:=RowIs.lt R1.out
    have cc112:Y107.cell? ⟨w25.heap.size,0,none⟩=some (.int .i64 v1):=RowIs.cell Q7.out 0
    have cc113:Y107.cell? ⟨w25.heap.size,1,none⟩=some (.int .i64 v2):=RowIs.cell Q7.out 1
    have zz114:w25.heap.size<Y107.heap.size:=RowIs.lt Q7.out
    have cc115:Y107.cell? ⟨w35.heap.size,0,none⟩=some (.int .i64 a1):=RowIs.cell QA.out 0
    have cc116:Y107.cell? ⟨w35.heap.size,1,none⟩=some (.int .i64 a2):=RowIs.cell QA.out 1
    have zz117:w35.heap.size<Y107.heap.size:=RowIs.lt QA.out
    have cc118:Y107.cell? ⟨w42.heap.size,0,none⟩=some (.int .i64 b1):=RowIs.cell QB2.out 0
    have cc119:Y107.cell? ⟨w42.heap.size,1,none⟩=some (.int .i64 b2):=RowIs.cell QB2.out 1
    have zz120:w42.heap.size<Y107.heap.size:=RowIs.lt QB2.out
    have cc121:Y107.cell? ⟨w106.heap.size,0,none⟩=some (.int .i64 a1):=RowIs.cell QP.out 0
    have cc122:Y107.cell? ⟨w106.heap.size,1,none⟩=some (.int .i64 a2):=RowIs.cell QP.out 1
    have zz123:w106.heap.size<Y107.heap.size:=RowIs.lt QP.out
    have eq124 : ∀ x,(Op.equalIn 10000 30 (.agg #[.int .i64 a1, .int .i64 a2]) (.agg #[.int .i64 b1, .int .i64 b2])).run Try.prog x = .ok true x:=fun x=>(eqRat a1 a2 b1 b2 x).trans (by simp [HAB.out,HAC.out])
    have eq125 : ∀ x,(Op.equalIn 10000 30 (.agg #[.int .i64 a1, .int .i64 a2]) (.agg #[.int .i64 v1, .int .i64 v2])).run Try.prog x = .ok true x:=fun x=>(eqRat a1 a2 v1 v2 x).trans (by simp [HVV.out.1,HVV.out.2])
    go_wp2_with fail
    clear hY107 cc110 zz111 cc112 cc113 zz114 cc115 cc116 zz117 cc118 cc119 zz120 cc121 cc122 zz123 eq124 eq125
    refine (works_c _).mono ?_
    rintro e w126 ⟨rfl,hbq⟩
    go_wp2_with fail
    go_ret
    exact ⟨rfl,bup B1.out hbq⟩
   ·have hpf:=HPF.out
    rw [if_neg hab] at hpf
    have KP:=Lib.hid hpf
    have HAB:=Lib.hid hab
    clear hpf hab
    have C127:=CheckProof_c (some ⟨tb,ofs,none⟩) m cap f (some ⟨g1,0,none⟩) m c1 r (some ⟨g2,0,none⟩) n c2 c w93 H1.out hm2 RR.out HF0.out hm2 HF1.out (by omega)
    rw [KP.out] at C127
    replace C127:=Lib.hid C127
    go_wp2_with fail
    clear cc94 cc95 zz96 cc97 cc98 zz99 cc100 cc101 zz102 cc103 zz104
    refine (C127.out).mono ?_
    rintro e w128 ⟨rfl,hbq⟩
    replace R1:=Lib.hid (RowIs.below R1.out hbq)
    replace H1:=Lib.hid (H1.out.below hbq)
    replace HP:=Lib.hid (Shorts.below HP.out hbq)
    replace HQ:=Lib.hid (Shorts.below HQ.out hbq)
    replace Q7:=Lib.hid (RowIs.below Q7.out hbq)
    replace HF0:=Lib.hid (Cells.below HF0.out hbq)
    replace HF1:=Lib.hid (Cells.below HF1.out hbq)
    replace QA:=Lib.hid (RowIs.below QA.out hbq)
    replace QB2:=Lib.hid (RowIs.below QB2.out hbq)
    replace B1:=Lib.hid (bup B1.out hbq)
    clear hbq
    clear C127
    obtain ⟨Y129,hY129⟩ : ∃ Y129,w128.alloc (.cells #[.int .i64 0, .int .i64 0] 30)=Y129:=⟨_,rfl⟩
    have hr131:RowIs Y129 w128.heap.size #[.int .i64 0, .int .i64 0] 30:=by rw [← hY129]; exact heap_new_at _ _ _ rfl
    obtain ⟨Z130,hZ130⟩ : ∃ Z130,(Y129.setCell ⟨w128.heap.size,0,none⟩ (.int .i64 0)).setCell ⟨w128.heap.size,1,none⟩ (.int .i64 0)=Z130:=⟨_,rfl⟩
    have hbz:Below w128.heap.size w128 Z130:=by rw [← hZ130, ← hY129]; exact ((Below.alloc1 (Below.refl _ _) _ (Nat.le_refl _)).setCell (p:=⟨w128.heap.size,0,none⟩) (Nat.le_refl _) _).setCell (p:=⟨w128.heap.size,1,none⟩) (Nat.le_refl _) _
    have hrz:RowIs Z130 w128.heap.size #[.int .i64 0, .int .i64 0] 30:=by rw [← hZ130]; exact (hr131.set 0 (.int .i64 0)).set 1 (.int .i64 0)
    have hr131a:=hr131.cell 0
    have hr131b:=hr131.cell 1
    have hr131c:=hr131.frozen 0
    have hr131d:=hr131.frozen 1
    have hr131e:=hr131.lt
    simp at hr131a hr131b
    clear hr131
    replace R1:=Lib.hid (RowIs.below R1.out hbz)
    replace H1:=Lib.hid (H1.out.below hbz)
    replace HP:=Lib.hid (Shorts.below HP.out hbz)
    replace HQ:=Lib.hid (Shorts.below HQ.out hbz)
    replace Q7:=Lib.hid (RowIs.below Q7.out hbz)
    replace HF0:=Lib.hid (Cells.below HF0.out hbz)
    replace HF1:=Lib.hid (Cells.below HF1.out hbz)
    replace QA:=Lib.hid (RowIs.below QA.out hbz)
    replace QB2:=Lib.hid (RowIs.below QB2.out hbz)
    replace B1:=Lib.hid (bup B1.out hbz)
    have QP:=Lib.hid hrz
    clear hbz hrz
    have cc132:Z130.cell? ⟨w.heap.size,0,none⟩=some (.slice (some ⟨tb,ofs,none⟩) m cap):=RowIs.cell R1.out 0
    have zz133:w.heap.size<Z130.heap.size:=RowIs.lt R1.out
    have cc134:Z130.cell? ⟨w25.heap.size,0,none⟩=some (.int .i64 v1):=RowIs.cell Q7.out 0
    have cc135:Z130.cell? ⟨w25.heap.size,1,none⟩=some (.int .i64 v2):=RowIs.cell Q7.out 1
    have zz136:w25.heap.size<Z130.heap.size:=RowIs.lt Q7.out
    have cc137:Z130.cell? ⟨w35.heap.size,0,none⟩=some (.int .i64 a1):=RowIs.cell QA.out 0
    have cc138:Z130.cell? ⟨w35.heap.size,1,none⟩=some (.int .i64 a2):=RowIs.cell QA.out 1
    have zz139:w35.heap.size<Z130.heap.size:=RowIs.lt QA.out
    have cc140:Z130.cell? ⟨w42.heap.size,0,none⟩=some (.int .i64 b1):=RowIs.cell QB2.out 0
    have cc141:Z130.cell? ⟨w42.heap.size,1,none⟩=some (.int .i64 b2):=RowIs.cell QB2.out 1
    have zz142:w42.heap.size<Z130.heap.size:=RowIs.lt QB2.out
    have eq143 : ∀ x,(Op.equalIn 10000 30 (.agg #[.int .i64 a1, .int .i64 a2]) (.agg #[.int .i64 b1, .int .i64 b2])).run Try.prog x = .ok false x:=fun x=>(eqRat a1 a2 b1 b2 x).trans (by simp; intro h; exact fun h2=>HAB.out ⟨h,h2⟩)
    go_wp2_with fail
    clear hY129 hZ130 hr131a hr131b hr131c hr131d hr131e cc132 zz133 cc134 cc135 zz136 cc137 cc138 zz139 cc140 cc141 zz142 eq143
    refine (works_c _).mono ?_
    rintro e w144 ⟨rfl,hbq⟩
    go_wp2_with fail
    go_ret
    exact ⟨rfl,bup B1.out hbq⟩
end Go.Proofs.Ytkbbhihndigmeaa

namespace Go.Proofs.Ytkbbhihndigmeaa
open Go Go.RowKit Go.ChangeShapes Go.WideShapes Go.ChangeAt
theorem own_proved:ownKnob Try.prog.godebug = .none:=by kernel_rfl
theorem laidOut_proved:laidOutB Try.prog=true:=by kernel_rfl
set_option maxRecDepth 100000 in
theorem proved_lifted (os:Os) (started:os.Started) (H:Type) (enc:TypeId × Value→H) :
 ReturnsInHanded {} Try.checked os 7 .any (Rows.searchProvedSpec.pre6 enc Try.prog Try.f7 Rows.searchProvedRow.domain false) (Rows.searchProvedSpec.post enc Try.prog Try.f7 false true false false):=by
 refine returnsInHanded_of_change (C:=Try.checked) own_proved started (by kernel_rfl) Try.func7
  (ChangeSpec.witness6 (enc:=enc) (C:=Try.checked) false ⟨#[], #[.agg #[.slice .none 0 0], .slice .none 0 0, .slice .none 0 0],[]⟩ 8 (by kernel_rfl) (by kernel_rfl) (by kernel_rfl) (by kernel_rfl)) ?_
 intro W base args ds gs before hval0 hW hcnd _
 have hval : ∀ (j:Nat) t v,Try.f7.params[j]? = some t→args[j]? = some v→Value.okWide Try.prog W .any base t v:=hval0
 have hW':=hW
 obtain ⟨p,q,hA0,hV,rfl,hfz,hnd⟩:=hW
 have hA:DataW.TrodAll enc Try.prog W 0 (fun _=>true) true Try.f7.params.toList args.toList ds p:=hA0
 rw [Try.params7] at hA hval
 obtain ⟨v0,vs0,d0,ds0,p0,q0,hargs,rfl,rfl,h0,r0⟩:=trodAll_cons hA
 obtain ⟨v1,vs1,d1,ds1,p1,q1,rfl,rfl,rfl,h1,r1⟩:=trodAll_cons r0
 obtain ⟨v2,vs2,d2,ds2,p2,q2,rfl,rfl,rfl,h2,r2⟩:=trodAll_cons r1
 obtain ⟨rfl,rfl,rfl⟩:=trodAll_nil r2
 obtain rfl:args = #[v0,v1,v2]:=by cases args; simp_all
 obtain ⟨rfl,rfl⟩:=trodVars_none hV
 obtain ⟨a0,m0,cap0,f0,rfl,hT0⟩:=open_table (hval 0 24 v0 rfl rfl) h0
 obtain ⟨a1,n1,cap1,f1,rfl,hF1,hb1⟩:=open_shorts (hval 1 49 v1 rfl rfl) h1
 obtain ⟨a2,n2,cap2,f2,rfl,hF2,hb2⟩:=open_shorts (hval 2 49 v2 rfl rfl) h2
 refine (law_proved_c a0 m0 cap0 f0 a1 n1 cap1 f1 a2 n2 cap2 f2 W hT0 hF1 hb1 hF2 hb2).mono fun e W' ⟨he,hb⟩ => ?_
 subst he
 have hlt:=hW'.lt
 simp only [List.append_nil,List.mem_append] at hlt
 refine ⟨_,rfl,_,_,_,[],p0 ++ (p1 ++ (p2 ++ [])),[],hW',trodAll_mk1 (shut_bool Try.underlying4 true),?_,rfl,hb.frame _,fun h=>Bool.noConfusion h⟩
 exact trodAll_cons_mk (Below.trod laidOut_proved (by kernel_rfl) (of_decide_eq_true (by kernel_rfl)) h0 hb fun x hx=>hlt x (by simp [hx])) (trodAll_cons_mk (Below.trod laidOut_proved (by kernel_rfl) (of_decide_eq_true (by kernel_rfl)) h1 hb fun x hx=>hlt x (by simp [hx])) (trodAll_cons_mk (Below.trod laidOut_proved (by kernel_rfl) (of_decide_eq_true (by kernel_rfl)) h2 hb fun x hx=>hlt x (by simp [hx])) trodAll_mk0))
theorem proved_holds:Rows.SearchProvedSaid:=
 OpenClaim.holds_of_wide 7 Try.f7 rfl rfl rfl rfl rfl rfl rfl ⟨rfl,rfl,rfl,rfl,rfl⟩ rfl rfl rfl rfl rfl (by kernel_rfl) Try.func7 (by kernel_rfl)
  (of_decide_eq_true (by kernel_rfl)) (by unfold Func.isWrapper; first | (rw [if_pos (by decide +kernel)]; kernel_rfl) | (rw [if_neg (by decide +kernel)]; exact ⟨rfl,rfl⟩))
  (fun os started H enc _=>proved_lifted os started H enc)
end Go.Proofs.Ytkbbhihndigmeaa
