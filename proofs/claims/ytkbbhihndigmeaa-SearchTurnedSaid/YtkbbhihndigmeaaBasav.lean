/- Contracts of layer 3: the document's value. -/
import Derived.Shelf.Abstract
import Derived.Shelf.RegionOpen
import Derived.Test.YtkbbhihndigmeaaProg
import Derived.Test.YtkbbhihndigmeaaBasaa
import Derived.Test.YtkbbhihndigmeaaBasar
import Derived.Test.YtkbbhihndigmeaaBasat
import Derived.Test.YtkbbhihndigmeaaBasau
namespace Go.Proofs.Ytkbbhihndigmeaa
open Go Go.RowKit Go.Shelf
abbrev ratRow (n d:Int):Array Value := #[.int .i64 (ratN n d), .int .i64 (ratD n d)]
set_option maxRecDepth 100000 in
set_option maxHeartbeats 16000000 in
theorem rValueOf_c (a:Option Addr) (m n cap:Nat) (f:Nat→Row3) (w:World) (hf:Tab w a m f) (hO:Okay m n f) :
 Calls Try.prog 71 #[tabV a m cap] w fun e w'=>e = .returned (.agg #[.int .i64 (valOf (lossA f) m n).1, .int .i64 (valOf (lossA f) m n).2])∧Below w.heap.size w w':=by
 obtain ⟨W,hW⟩ : ∃ W,(w.alloc (.cells #[.slice a m cap] 24)).alloc (.cells #[.int .i64 0, .int .i64 0] 30)=W:=⟨_,rfl⟩
 have hB:Below w.heap.size w W:=by rw [← hW]; exact Below.alloc1 (Below.alloc1 (Below.refl _ _) _ (Nat.le_refl _)) _ (Nat.le_refl _)
 have hRw:RowIs W w.heap.size #[.slice a m cap] 24:=by rw [← hW]; exact RowIs.alloc (heap_new_at _ _ _ rfl) _
 have hQw:RowIs W (w.heap.size+1) #[.int .i64 0, .int .i64 0] 30:=by rw [← hW]; exact heap_new_at _ _ _ (by simp)
 have r0:W.cell? ⟨w.heap.size,0,none⟩=some (.slice a m cap):=RowIs.cell hRw 0
 have rz:w.heap.size<W.heap.size:=hRw.lt
 have HF:=Lib.hid (fun (x:World) (h:Below w.heap.size w x)=>hf.below h)
 have HO:=Lib.hid hO
 have HR:=Lib.hid hRw
 have HQ:=Lib.hid hQw
 have HB:=Lib.hid hB
 have HP:=Lib.hid (rPlans_c a m n cap f W (hf.below hB) hO)
 clear hf hO hRw hQw hB
 go_enter Try.func71,Try.ntmps71
 go_wp2_with fail
 refine HP.out.mono ?_
 rintro e w1 ⟨⟨N,p,c,F,rfl,hT,hlen,hS,hN, -⟩,hb1⟩
 clear hW r0 rz HP
 have hN0:=set_some HO.out hS
 have HT:=Lib.hid hT
 have HS:=Lib.hid hS
 replace HR:=Lib.hid (HR.out.below hb1)
 replace HQ:=Lib.hid (HQ.out.below hb1)
 replace HB:=Lib.hid (bup HB.out hb1)
 clear hT hS hb1
 obtain ⟨pb,po,rfl,hpb,hpc⟩:=Tab.at HT.out 0 hN0
 have HFew:=Lib.hid (fun i (hi:i<N)=>let ⟨_,_,_,c,e⟩:=HS.out.1 i hi; planC_few HO.out c e)
 obtain ⟨S,hSS⟩ : ∃ S:Nat→Int,(fun i=>sureN f m n (F i).g)=S:=⟨_,rfl⟩
 obtain ⟨T,hTT⟩ : ∃ T:Nat→Int,(fun i=>sumI (F i).g m)=T:=⟨_,rfl⟩
 have hSu : ∀ i,i<N → ∀ y,Below w1.heap.size w1 y→Calls Try.prog 65 #[tabV a m cap, .slice (F i).a m (F i).cap] y fun e w'=>e = .returned (ratV (S i) (T i))∧Below y.heap.size y w':=fun i hi y hy=>by
  have hI:=Cells.below (HT.out.2 i hi) hy
  rw [hlen i] at hI
  rw [← hSS, ← hTT]
  exact rSureOf_c a m n cap f (F i).a (F i).cap (F i).g y (HF.out y (HB.out.trans (hy.mono HB.out.size))) HO.out hI (HFew.out i hi).in8 (HFew.out i hi).some_
 have hTp : ∀ i,i<N→0<T i∧T i≤96000000 ∧ -9600000000≤S i∧S i≤9600000000:=fun i hi=>by
  have h1:=few_sure HO.out (HFew.out i hi)
  have h2:=(HFew.out i hi).pos
  rw [← hSS, ← hTT]
  exact ⟨h2,h1.2,h1.1⟩
 have hval : ∀ k,k<N→(∀ i,i<N→S i*T k≤S k*T i)→(valOf (lossA f) m n)=(ratN (S k) (T k),ratD (S k) (T k)):=fun k hk hb=>by
  rw [← hSS, ← hTT] at hb ⊢
  exact val_of (set_val HO.out HS.out hk hb)
 have HSu:=Lib.hid hSu
 have HTp:=Lib.hid hTp
 have Hval:=Lib.hid hval
 clear hSu hTp hval hSS hTT HFew
 have c0:=hpc 0 hN0
 rw [Nat.add_zero,hlen 0] at c0
 have r0:w1.cell? ⟨w.heap.size,0,none⟩=some (.slice a m cap):=RowIs.cell HR.out 0
 have rz:w.heap.size<w1.heap.size:=HR.out.lt
 have i0:(0:Int)<(N:Int):=by omega
 go_wp2_with fail
 refine wp_region_float 5 4 31 (.cells #[.int .i64 0, .int .i64 0] 30 (0,0)) _ (by kernel_rfl) (by kernel_rfl) rfl rfl rfl ?hal (by kernel_rfl) (by kernel_rfl) rfl rfl ?_
 case hal=>intro a w; go_simp
 simp only [List.take_succ_cons,List.take_zero,List.drop_succ_cons,List.drop_zero]
 apply Exists.intro
 refine ⟨fun w2 hb2 K hK => ?_,?_⟩
 ·have hlc:=fun (x:Later w2)=>later_cell2 hb2 x
  have H0:=Lib.hid (fun (x:Later w2)=>HSu.out 0 hN0 x.w (hb2.trans (x.h.mono hb2.size)))
  repeat (go_big_quiet_step ((first | (with_reducible refine calls_later (H0.out _)))))
  exact wpQuiet_nil hK
 clear r0 rz c0 i0
 intro g4 w2 hg4 hb2 hz
 have hr2:RowIs w2 g4 #[.int .i64 0, .int .i64 0] 30:=hz
 have q0:=hr2.cell 0
 have q1:=hr2.cell 1
 have z0:=hr2.frozen 0
 have z1:=hr2.frozen 1
 simp at q0 q1
 have hbz:=hr2.lt
 have Hr2:=Lib.hid hr2
 have Hb2:=Lib.hid hb2
 have hgb:w.heap.size+1<g4:=Nat.lt_of_lt_of_le HQ.out.lt hg4
 clear hz hr2 hb2
 go_wp2_with fail
 obtain ⟨w3,hw3⟩ : ∃ w3,(w2.setCell ⟨g4,0,none⟩ (.int .i64 (ratN (S 0) (T 0)))).setCell ⟨g4,1,none⟩ (.int .i64 (ratD (S 0) (T 0)))=w3:=⟨_,rfl⟩
 have hr3:RowIs w3 g4 (ratRow (S 0) (T 0)) 30:=by rw [← hw3]; exact (Hr2.out.set 0 (.int .i64 (ratN (S 0) (T 0)))).set 1 (.int .i64 (ratD (S 0) (T 0)))
 have hb3:Below w1.heap.size w1 w3:=by rw [← hw3]; exact (Hb2.out.setCell (p:=⟨g4,0,none⟩) hg4 _).setCell (p:=⟨g4,1,none⟩) hg4 _
 rw [hw3]
 have Hr3:=Lib.hid hr3
 have Hb3:=Lib.hid hb3
 clear hw3 hr3 hb3 q0 q1 z0 z1 hbz Hr2 Hb2
 go_loopw [5,6] (fun i x wr=> ∃ k l:Nat,l<N∧k≤N∧i = .int .i64 k∧(∀ i,i<k→S i*T l≤S l*T i)∧RowIs wr g4 (ratRow (S l) (T l)) 30∧Below w1.heap.size w1 wr) (fun i _ _=>N-(intOf i).toNat)
 case atStart=>exact ⟨0,0,hN0,Nat.zero_le _,rfl,fun i hi=>absurd hi (Nat.not_lt_zero _),Hr3.out,Hb3.out⟩
 case round=>
  obtain ⟨k,l,hl,hk,rfl,hmax,hrow,hb⟩:=hrel
  have Hmax:=Lib.hid hmax
  have Hrow:=Lib.hid hrow
  have Hb:=Lib.hid hb
  clear hmax hrow
  have r0:wr.cell? ⟨w.heap.size,0,none⟩=some (.slice a m cap):=RowIs.cell (HR.out.below hb) 0
  have rz:w.heap.size<wr.heap.size:=(HR.out.below hb).lt
  clear hb
  by_cases hlt:k<N
  ·have c0:wr.cell? ⟨pb,po+k,none⟩=some (.slice (F k).a m (F k).cap):=by
     have h1:=hpc k hlt
     rw [hlen k] at h1
     exact (Hb.out.cell (p:=⟨pb,po+k,none⟩) hpb).trans h1
   have pz:pb<wr.heap.size:=Nat.lt_of_lt_of_le hpb Hb.out.size
   have i0:(k:Int)<(N:Int):=by omega
   go_wp2_with fail
   refine wp_region_float3 6 6 31 (.cells #[.int .i64 0, .int .i64 0] 30 (0,0)) _ (by kernel_rfl) (by kernel_rfl) rfl rfl rfl ?hal (by kernel_rfl) (by kernel_rfl) rfl (show 6<31 by decide) ?_
   case hal=>intro a w; go_simp
   simp only [List.take_succ_cons,List.take_zero,List.drop_succ_cons,List.drop_zero]
   apply Exists.intro
   refine ⟨fun w2 hb2 K hK => ?_,?_⟩
   ·have hlc:=fun (x:Later w2)=>later_cell2 hb2 x
    have H0:=Lib.hid (fun (x:Later w2)=>HSu.out k hlt x.w (Hb.out.trans ((hb2.trans (x.h.mono hb2.size)).mono Hb.out.size)))
    repeat (go_big_quiet_step ((first | (with_reducible refine calls_later (H0.out _)))))
    exact wpQuiet_nil hK
   clear r0 rz c0
   intro g6 w2 hg6 hb2 hz
   have hr2:RowIs w2 g6 #[.int .i64 0, .int .i64 0] 30:=hz
   have q0:=hr2.cell 0
   have q1:=hr2.cell 1
   have z0:=hr2.frozen 0
   have z1:=hr2.frozen 1
   simp at q0 q1
   have hbz:=hr2.lt
   have Hr2:=Lib.hid hr2
   have hg46:g4<g6:=Nat.lt_of_lt_of_le Hrow.out.lt hg6
   replace Hrow:=Lib.hid (Hrow.out.below hb2)
   replace Hb:=Lib.hid (Hb.out.trans (hb2.mono Hb.out.size))
   clear hz hr2 hb2 pz
   obtain ⟨w3,hw3⟩ : ∃ w3,(w2.setCell ⟨g6,0,none⟩ (.int .i64 (ratN (S k) (T k)))).setCell ⟨g6,1,none⟩ (.int .i64 (ratD (S k) (T k)))=w3:=⟨_,rfl⟩
   have hr3:RowIs w3 g6 (ratRow (S k) (T k)) 30:=by rw [← hw3]; exact (Hr2.out.set 0 (.int .i64 (ratN (S k) (T k)))).set 1 (.int .i64 (ratD (S k) (T k)))
   have hr4:RowIs w3 g4 (ratRow (S l) (T l)) 30:=by rw [← hw3]; exact (Hrow.out.other 0 _ (by omega)).other 1 _ (by omega)
   have hb3:Below w1.heap.size w1 w3:=by rw [← hw3]; exact (Hb.out.setCell (p:=⟨g6,0,none⟩) (by show w1.heap.size≤g6; omega) _).setCell (p:=⟨g6,1,none⟩) (by show w1.heap.size≤g6; omega) _
   have p0:=hr4.cell 0
   have p1:=hr4.cell 1
   have pz:=hr4.lt
   have s0:=hr3.cell 0
   have s1:=hr3.cell 1
   have sz:=hr3.lt
   simp at p0 p1 s0 s1
   have Hr3:=Lib.hid hr3
   have Hr4:=Lib.hid hr4
   have Hb3:=Lib.hid hb3
   clear hr3 hr4 hb3
   obtain ⟨t1,t2,t3,t4⟩:=HTp.out k hlt
   obtain ⟨t5,t6,t7,t8⟩:=HTp.out l hl
   have HL:=Lib.hid (fun (x:World)=>rLess_c (ratN (S l) (T l)) (ratD (S l) (T l)) (ratN (S k) (T k)) (ratD (S k) (T k)) x (by have:=(rat_mul_bd ⟨t7,t8⟩ t1 t2 (n:=S l) (n':=S k) (d:=T l) (d':=T k)).1; omega) (by have:=(rat_mul_bd ⟨t7,t8⟩ t1 t2 (n:=S l) (n':=S k) (d:=T l) (d':=T k)).2; omega) (by have:=(rat_mul_bd ⟨t3,t4⟩ t5 t6 (n:=S k) (n':=S l) (d:=T k) (d':=T l)).1; omega) (by have:=(rat_mul_bd ⟨t3,t4⟩ t5 t6 (n:=S k) (n':=S l) (d:=T k) (d':=T l)).2; omega))
   have hlt2:=ltB_rat t5 t1 (n:=S l) (n':=S k)
   rw [hlt2] at HL
   clear t2 t3 t4 t6 t7 t8 hlt2
   go_wp2_with fail
   refine (HL.out _).mono ?_
   rintro e w4 ⟨rfl,hb4⟩
   have hr4:=Hr4.out.below hb4
   have hr3:=Hr3.out.below hb4
   have Hb4:=Lib.hid (Hb3.out.trans (hb4.mono Hb3.out.size))
   clear hb4 hw3 p0 p1 pz s0 s1 sz q0 q1 z0 z1 hbz Hr2 Hr3 Hr4 Hb3 HL Hb Hrow
   have p0:=hr4.cell 0
   have p1:=hr4.cell 1
   have pz:=hr4.lt
   have f0:=hr4.frozen 0
   have f1:=hr4.frozen 1
   have s0:=hr3.cell 0
   have s1:=hr3.cell 1
   have sz:=hr3.lt
   simp at p0 p1 s0 s1
   have Hr4:=Lib.hid hr4
   clear hr4 hr3
   by_cases hc:S l*T k<S k*T l
   ·rw [decide_eq_true hc]
    have Hc:=Lib.hid hc
    clear hc
    go_wp2_with fail
    go_roundw
    case rel=>
     refine ⟨k+1,k,hlt,by omega,by go_num,fun i hi => ?_,(Hr4.out.set 0 (.int .i64 (ratN (S k) (T k)))).set 1 (.int .i64 (ratD (S k) (T k))),(Hb4.out.setCell (p:=⟨g4,0,none⟩) hg4 _).setCell (p:=⟨g4,1,none⟩) hg4 _⟩
     by_cases e:i=k
     ·subst e; exact Int.le_refl _
     ·have h1:=Hmax.out i (by omega)
      have t9:=(HTp.out i (by omega)).1
      have a1:=Int.mul_le_mul_of_nonneg_right h1 (Int.le_of_lt t1)
      have a2:=Int.mul_le_mul_of_nonneg_right (Int.le_of_lt Hc.out) (Int.le_of_lt t9)
      refine Int.le_of_mul_le_mul_right (a:=T l) ?_ t5
      grind
    case measure=>simp [intOf]; omega
   ·rw [decide_eq_false hc]
    have Hc:=Lib.hid hc
    clear hc
    go_wp2_with fail
    go_roundw
    case rel=>
     refine ⟨k+1,l,hl,by omega,by go_num,fun i hi => ?_,Hr4.out,Hb4.out⟩
     by_cases e:i=k
     ·subst e; have:=Hc.out; omega
     ·exact Hmax.out i (by omega)
    case measure=>simp [intOf]; omega
  ·obtain rfl:k=N:=by omega
   have hv:=Hval.out l hl Hmax.out
   have p0:=Hrow.out.cell 0
   have p1:=Hrow.out.cell 1
   have pz:=Hrow.out.lt
   simp at p0 p1
   have hq:=HQ.out.below Hb.out
   have q0:=hq.cell 0
   have q1:=hq.cell 1
   have z0:=hq.frozen 0
   have z1:=hq.frozen 1
   have qz:=hq.lt
   simp at q0 q1
   have Hq:=Lib.hid hq
   have i0 : ¬ (k:Int)<(k:Int):=by omega
   have Hv:=Lib.hid hv
   clear hv hq
   go_wp2_with fail
   have hr5:=(Hq.out.set 0 (.int .i64 (ratN (S l) (T l)))).set 1 (.int .i64 (ratD (S l) (T l)))
   have y0:=hr5.cell 0
   have y1:=hr5.cell 1
   simp at y0 y1
   rw [Hv.out]
   exact bodyPost_ret (v:= .agg #[.int .i64 (ratN (S l) (T l)), .int .i64 (ratD (S l) (T l))]) (by simp [results,Try.results71,go_sem,y0,y1]) rfl ⟨rfl,((HB.out.trans (Hb.out.mono HB.out.size)).setCell (p:=⟨w.heap.size+1,0,none⟩) (by show w.heap.size≤w.heap.size+1; omega) _).setCell (p:=⟨w.heap.size+1,1,none⟩) (by show w.heap.size≤w.heap.size+1; omega) _⟩
noncomputable def valueR (m:Nat) (f:Nat→Row3):Int × Int × Int:=if tableE m f ≠ 0 then (0,0,tableE m f) else ((valOf (lossA f) m (f 0).n).1,(valOf (lossA f) m (f 0).n).2,0)
set_option maxHeartbeats 4000000 in
theorem rValue_c (a:Option Addr) (m cap:Nat) (f:Nat→Row3) (w:World) (hf:Tab w a m f) (hm:m≤1048576) :
 Calls Try.prog 26 #[tabV a m cap] w fun e w'=>e = .returned (re2 (valueR m f))∧Below w.heap.size w w':=by
 obtain ⟨W,hW⟩ : ∃ W,(w.alloc (.cells #[.slice a m cap] 24)).alloc (.cells #[.int .i64 0, .int .i64 0] 30)=W:=⟨_,rfl⟩
 have hB:Below w.heap.size w W:=by rw [← hW]; exact Below.alloc1 (Below.alloc1 (Below.refl _ _) _ (Nat.le_refl _)) _ (Nat.le_refl _)
 have hR:RowIs W w.heap.size #[.slice a m cap] 24:=by rw [← hW]; exact RowIs.alloc (heap_new_at _ _ _ rfl) _
 have hQ:RowIs W (w.heap.size+1) #[.int .i64 0, .int .i64 0] 30:=by rw [← hW]; exact heap_new_at _ _ _ (by simp)
 have r0:W.cell? ⟨w.heap.size,0,none⟩=some (.slice a m cap):=RowIs.cell hR 0
 have rz:w.heap.size<W.heap.size:=hR.lt
 have HF:=Lib.hid (hf.below hB)
 have HT:=Lib.hid (fun (x:World) (h:Tab x a m f)=>rcheckTable_c a m cap f x h hm)
 have HQ:=Lib.hid hQ
 have HR:=Lib.hid hR
 have HB:=Lib.hid hB
 clear hf hB hQ hR
 by_cases hE:tableE m f=0
 ·have hO:=okay_of hE
  have Hv:=Lib.hid (show valueR m f=((valOf (lossA f) m (f 0).n).1,(valOf (lossA f) m (f 0).n).2,0) by unfold valueR; rw [if_neg (by simp [hE])])
  have HS:=Lib.hid (fun (x:World) (h1:Tab x a m f)=>rValueOf_c a m (f 0).n cap f x h1 hO)
  rw [hE] at HT
  obtain ⟨N,hN⟩ : ∃ N,(valOf (lossA f) m (f 0).n).1=N:=⟨_,rfl⟩
  obtain ⟨d,hd⟩ : ∃ d,(valOf (lossA f) m (f 0).n).2=d:=⟨_,rfl⟩
  rw [hN,hd] at HS Hv
  clear hN hd hE hO
  rw [Hv.out]
  go_enter Try.func26,Try.ntmps26
  go_wp2_with fail
  refine (HT.out _ HF.out).mono ?_
  rintro e w1 ⟨rfl,hb1⟩
  clear hW
  have s0:w1.cell? ⟨w.heap.size,0,none⟩=some (.slice a m cap):=RowIs.cell (HR.out.below hb1) 0
  have sz:=(HR.out.below hb1).lt
  have Hb1:=Lib.hid hb1
  clear hb1 r0
  go_wp2_with fail
  refine (HS.out _ (HF.out.below Hb1.out)).mono ?_
  rintro e w3 ⟨rfl,hb3⟩
  have hQ3:=HQ.out.below (bup Hb1.out hb3)
  have q0:=RowIs.cell hQ3 0
  have q1:=RowIs.cell hQ3 1
  have z0:=RowIs.frozen hQ3 0
  have z1:=RowIs.frozen hQ3 1
  have qz:=hQ3.lt
  simp at q0 q1
  have HB3:=Lib.hid (bup HB.out (bup Hb1.out hb3))
  have HQ3:=Lib.hid hQ3
  clear hQ3 hb3
  go_wp2_with fail
  have hQ4:=(HQ3.out.set 0 (.int .i64 N)).set 1 (.int .i64 d)
  have y0:=RowIs.cell hQ4 0
  have y1:=RowIs.cell hQ4 1
  simp at y0 y1
  exact bodyPost_ret (v:=re2 (N,d,0)) (by simp [results,Try.results26,go_sem,y0,y1]) rfl ⟨rfl,(HB3.out.setCell (p:=⟨w.heap.size+1,0,none⟩) (by show w.heap.size≤w.heap.size+1; omega) _).setCell (p:=⟨w.heap.size+1,1,none⟩) (by show w.heap.size≤w.heap.size+1; omega) _⟩
 ·have Hv:=Lib.hid (show valueR m f=(0,0,tableE m f) by unfold valueR; rw [if_pos hE])
  have t0:(tableE m f != 0)=true:=by simpa using hE
  clear hE
  obtain ⟨E,hE⟩ : ∃ E,tableE m f=E:=⟨_,rfl⟩
  rw [hE] at HT Hv t0
  clear hE
  rw [Hv.out]
  go_enter Try.func26,Try.ntmps26
  go_wp2_with fail
  refine (HT.out _ HF.out).mono ?_
  rintro e w1 ⟨rfl,hb1⟩
  clear hW
  have s0:w1.cell? ⟨w.heap.size,0,none⟩=some (.slice a m cap):=RowIs.cell (HR.out.below hb1) 0
  have sz:=(HR.out.below hb1).lt
  have Hb1:=Lib.hid hb1
  clear hb1 r0
  go_wp2_with fail
  refine (HT.out _ (HF.out.below Hb1.out)).mono ?_
  rintro e w3 ⟨rfl,hb3⟩
  have hQ3:=HQ.out.below (bup Hb1.out hb3)
  have q0:=RowIs.cell hQ3 0
  have q1:=RowIs.cell hQ3 1
  have z0:=RowIs.frozen hQ3 0
  have z1:=RowIs.frozen hQ3 1
  have qz:=hQ3.lt
  simp at q0 q1
  have HB3:=Lib.hid (bup HB.out (bup Hb1.out hb3))
  have HQ3:=Lib.hid hQ3
  clear hQ3 hb3
  go_wp2_with fail
  have hQ4:=(HQ3.out.set 0 (.int .i64 0)).set 1 (.int .i64 0)
  have y0:=RowIs.cell hQ4 0
  have y1:=RowIs.cell hQ4 1
  simp at y0 y1
  exact bodyPost_ret (v:=re2 (0,0,E)) (by simp [results,Try.results26,go_sem,y0,y1]) rfl ⟨rfl,(HB3.out.setCell (p:=⟨w.heap.size+1,0,none⟩) (by show w.heap.size≤w.heap.size+1; omega) _).setCell (p:=⟨w.heap.size+1,1,none⟩) (by show w.heap.size≤w.heap.size+1; omega) _⟩
end Go.Proofs.Ytkbbhihndigmeaa

namespace Go.Proofs.Ytkbbhihndigmeaa
open Go Go.RowKit Go.Shelf
open Classical in
noncomputable def usedC (A:Nat→Nat→Int) (m n:Nat):List Nat:=(List.range m).filter fun i=>decide (∃ R G s,Choice A m n R G s∧0<planC A R G s i∧Surely A m n (planC A R G s) (valOf A m n).1 (valOf A m n).2)
theorem bst_iff {f:Nat→Row3} {m n:Nat} (hO:Okay m n f) {p:K9} (hp:Fnd f m n p):Bst f m n p↔Surely (lossA f) m n (valP f m n p) (valOf (lossA f) m n).1 (valOf (lossA f) m n).2:=by
 have fp:=valP_few hO p
 rw [← sure_val hO (fun i hi=>(fp.part i hi).1) fp.pos]
 constructor
 ·intro h
  rw [val_of (bst_val hO h)]
 ·intro h
  refine ⟨hp,fun q hq => ?_⟩
  have fq:=valP_few hO q
  have hs:=(sure_val hO (fun i hi=>(fp.part i hi).1) fp.pos).1 h
  have hq2:=sure_self (f:=f) (n:=n) (fun i hi=>(fq.part i hi).1) fq.pos
  obtain ⟨h0, -,b,hb⟩:=valOf_is hO
  have a1:=weak2 fq.pos h0 hq2 hb
  have a2:=sure_most hO.n1 hs
  have h1:=fp.pos
  have h2:=fq.pos
  simp only [surerB,decide_eq_false_iff_not,Int.not_lt]
  obtain ⟨a,ha⟩ : ∃ a,sureN f m n (valP f m n p)=a:=⟨_,rfl⟩
  obtain ⟨c,hc⟩ : ∃ a,sumI (valP f m n p) m=a:=⟨_,rfl⟩
  obtain ⟨d,hd⟩ : ∃ a,sureN f m n (valP f m n q)=a:=⟨_,rfl⟩
  obtain ⟨g,hg⟩ : ∃ a,sumI (valP f m n q) m=a:=⟨_,rfl⟩
  obtain ⟨v,hv⟩ : ∃ a,(valOf (lossA f) m n).1=a:=⟨_,rfl⟩
  obtain ⟨t,ht⟩ : ∃ a,(valOf (lossA f) m n).2=a:=⟨_,rfl⟩
  rw [hd,hg,hv,ht] at a1
  rw [ha,hc,hv,ht] at a2
  rw [hc] at h1
  rw [hg] at h2
  rw [ht] at h0
  rw [ha,hc,hd,hg]
  have b1:=Int.mul_le_mul_of_nonneg_right a1 (Int.le_of_lt h1)
  have b2:=Int.mul_le_mul_of_nonneg_right a2 (Int.le_of_lt h2)
  refine Int.le_of_mul_le_mul_right (a:=t) ?_ h0
  grind
open Classical in
theorem used_same {f:Nat→Row3} {m n:Nat} (hO:Okay m n f):usedQ f m n=usedC (lossA f) m n:=by
 have h4:List.range 4=List.range m ++ (List.range (4-m)).map (m + ·):=by
  rw [← List.range_add,show m+(4-m)=4 by have:=hO.m4; omega]
 have h : ∀ i,(∃ s,Bst f m n s∧0<valP f m n s i)↔(i<m ∧ ∃ R G s,Choice (lossA f) m n R G s∧0<planC (lossA f) R G s i∧Surely (lossA f) m n (planC (lossA f) R G s) (valOf (lossA f) m n).1 (valOf (lossA f) m n).2):=fun i=>by
  constructor
  ·rintro ⟨p,hp,hi⟩
   have hs:=(bst_iff hO hp.1).1 hp
   obtain ⟨c,hc,hf,rfl⟩:=hp.1
   rw [valP_k9 hO.m4 hc hf] at hi hs
   obtain ⟨c1,c2,c3⟩:=(cho_iff hO.m4 hO.n4).1 hc
   have him:i<m:=Nat.lt_of_not_le fun h=>by rw [planQ_out (fun j hj=>List.mem_range.1 (c1.subset hj)) h] at hi; omega
   obtain ⟨e,d,hd,hch,hpl⟩:=found_choice hO.m4 c1 c2 c3 hf
   refine ⟨him,c.1,c.2,e,hch,?_,(Surely.scale hd fun j hj=>hpl j (by have:=hO.m4; omega)).2 hs⟩
   rw [hpl i (by have:=hO.m4; omega)]
   exact Int.mul_pos hd hi
  ·rintro ⟨him,R,G,s,hch,hi,hs⟩
   have hf:=choice_found hO.m4 hch
   have hmem:(R,G) ∈ choL m n:=(cho_iff hO.m4 hO.n4).2 ⟨hch.1,hch.2.1,hch.2.2.1⟩
   obtain ⟨e,d,hd,hch',hpl⟩:=found_choice hO.m4 hch.1 hch.2.1 hch.2.2.1 hf
   obtain rfl:=choice_sign hch hch'
   have hF:Fnd f m n (k9 (R,G)):=⟨(R,G),hmem,hf,rfl⟩
   refine ⟨k9 (R,G),(bst_iff hO hF).2 ?_,?_⟩
   ·rw [valP_k9 hO.m4 hmem hf]
    exact (Surely.scale hd fun j hj=>hpl j (by have:=hO.m4; omega)).1 hs
   ·rw [valP_k9 hO.m4 hmem hf]
    rw [hpl i (by have:=hO.m4; omega)] at hi
    exact Int.lt_of_mul_lt_mul_left (a:=d) (by rw [Int.mul_zero]; exact hi) (Int.le_of_lt hd)
 unfold usedQ usedC
 have hnil:((List.range (4-m)).map (m + ·)).filter (fun i=>decide (∃ s,Bst f m n s∧0<valP f m n s i))=[]:=by
  rw [List.filter_eq_nil_iff]
  intro i hi
  obtain ⟨k, -,rfl⟩:=List.mem_map.1 hi
  rw [decide_eq_true_eq,h]
  omega
 rw [h4,List.filter_append,hnil,List.append_nil]
 ·refine List.filter_congr fun i hi => ?_
  rw [List.mem_range] at hi
  rw [Bool.eq_iff_iff,decide_eq_true_eq,decide_eq_true_eq,h i]
  exact ⟨fun h=>h.2,fun h=>⟨hi,h⟩⟩
def orB (b k:Nat):Nat:=(Go.bits BinOp.or IntKind.i64 (b:Int) (2 ^ k)).toNat
theorem orB_all:((List.range 16).all fun b=>(List.range 4).all fun k=>decide (Go.bits BinOp.or IntKind.i64 (b:Int) (2 ^ k)=(orB b k:Int)) && (decide (orB b k<16) && (List.range 4).all fun j=>bitB (orB b k) j==(bitB b j || j==k)))=true:=by decide +kernel
theorem orB_is {b k:Nat} (hb:b<16) (hk:k<4):Go.bits BinOp.or IntKind.i64 (b:Int) (2 ^ k)=(orB b k:Int)∧orB b k<16 ∧ ∀ j,j<4→bitB (orB b k) j=(bitB b j || j==k):=by
 have h:=List.all_eq_true.1 (List.all_eq_true.1 orB_all b (List.mem_range.2 hb)) k (List.mem_range.2 hk)
 simp only [Bool.and_eq_true,decide_eq_true_eq,List.all_eq_true,List.mem_range,beq_iff_eq] at h
 exact ⟨h.1,h.2.1,h.2.2⟩
theorem bit0 : ∀ j,j<4→bitB 0 j=false:=by decide +kernel
open Classical in
theorem bits_used {f F:Nat→Row3} {m n N b:Nat} (hS:PlanSet (lossA f) m n N F)
 (h : ∀ j,j<m→(bitB b j=true ↔ ∃ i,i<N∧0<(F i).g j∧Surely (lossA f) m n (F i).g (valOf (lossA f) m n).1 (valOf (lossA f) m n).2)):bitsL b m=usedC (lossA f) m n:=by
 unfold bitsL usedC
 refine List.filter_congr fun j hj => ?_
 rw [List.mem_range] at hj
 rw [Bool.eq_iff_iff,decide_eq_true_eq,h j hj]
 constructor
 ·rintro ⟨i,hi,h1,h2⟩
  obtain ⟨R,G,s,hc,e⟩:=hS.1 i hi
  exact ⟨R,G,s,hc,by rw [← e j hj]; exact h1,sure_at e h2⟩
 ·rintro ⟨R,G,s,hc,h1,h2⟩
  obtain ⟨i,hi,e⟩:=hS.2 R G s hc
  exact ⟨i,hi,by rw [e j hj]; exact h1,sure_at (fun j hj=>(e j hj).symm) h2⟩
end Go.Proofs.Ytkbbhihndigmeaa
