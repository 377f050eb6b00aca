/- Contracts of layer 3: CheckProof (the document), Less. -/
import Derived.Test.YtkbbhihndigmeaaProg
import Derived.Test.YtkbbhihndigmeaaBasaa
import Derived.Test.YtkbbhihndigmeaaBasat
import Derived.Test.YtkbbhihndigmeaaBasau
import Derived.Test.YtkbbhihndigmeaaBasay
import Derived.Test.YtkbbhihndigmeaaBasaz
import Derived.Shelf.Abstract
import Derived.Shelf.RegionOpen
import Derived.Test.YtkbbhihndigmeaaBasac
import Derived.Test.YtkbbhihndigmeaaBasai
import Derived.Test.YtkbbhihndigmeaaBasad
import Derived.Test.YtkbbhihndigmeaaBasap
import Derived.Test.YtkbbhihndigmeaaBasae
import Derived.Test.YtkbbhihndigmeaaBasaw
namespace Go.Proofs.Ytkbbhihndigmeaa
open Go Go.RowKit Go.Shelf
def provedR (A B:Int × Int × Int):Int × Int × Int:=
 if A.2.2 ≠ 0 then (0,0,A.2.2) else if B.2.2 ≠ 0 then (0,0,B.2.2) else if A.1=B.1∧A.2.1=B.2.1 then (A.1,A.2.1,0) else (0,0,14)
theorem proved_same (m:Nat) (f:Nat→Row3) (lr:Nat) (p:Nat→Int) (lc:Nat) (q:Nat→Int):provedR (sureR m f lr p) (boundR m f lc q)=proofR m f lr p lc q:=by
 unfold provedR sureR boundR proofR
 by_cases h1:tableE m f=0
 ·by_cases h2:planE lr m p=0
  ·by_cases h3:planE lc (f 0).n q=0
   ·simp [h1,h2,h3]
   ·simp [h1,h2,h3]
  ·simp [h1,h2]
 ·simp [h1]
set_option maxRecDepth 100000 in
set_option maxHeartbeats 8000000 in
theorem rCheckProof_c (a:Option Addr) (m cap:Nat) (f:Nat→Row3) (pa:Option Addr) (lr pcap:Nat) (p:Nat→Int) (qa:Option Addr) (lc qcap:Nat) (q:Nat→Int) (w:World) (hf:Tab w a m f) (hm:m≤1048576) (hp:Ints w pa lr p) (hl:lr≤1048576) (hq:Ints w qa lc q) (hlq:lc≤1048576) :
 Calls Try.prog 28 #[tabV a m cap, .slice pa lr pcap, .slice qa lc qcap] w fun e w'=>e = .returned (re2 (proofR m f lr p lc q))∧Below w.heap.size w w':=by
 rw [← proved_same]
 obtain ⟨W,hW⟩ : ∃ W,(w.alloc (.cells #[.slice a m cap] 24)).alloc (.cells #[.int .i64 0, .int .i64 0] 30)=W:=⟨_,rfl⟩
 have hB:Below w.heap.size w W:=by rw [← hW]; exact Below.alloc1 (Below.alloc1 (Below.refl _ _) _ (Nat.le_refl _)) _ (Nat.le_refl _)
 have hQ:RowIs W (w.heap.size+1) #[.int .i64 0, .int .i64 0] 30:=by rw [← hW]; exact heap_new_at _ _ _ (by simp)
 have hR:RowIs W w.heap.size #[.slice a m cap] 24:=by rw [← hW]; exact RowIs.alloc (heap_new_at _ _ _ rfl) _
 have r0:W.cell? ⟨w.heap.size,0,none⟩=some (.slice a m cap):=RowIs.cell hR 0
 have rz:w.heap.size<W.heap.size:=hR.lt
 have HS:=Lib.hid (rSure_c a m cap f pa lr pcap p W (hf.below hB) hm (Cells.below hp hB) hl)
 have HN:=Lib.hid (fun (x:World) (h:Below w.heap.size w x)=>rBound_c a m cap f qa lc qcap q x (hf.below h) hm (Cells.below hq h) hlq)
 obtain ⟨⟨a1,a2,ea⟩,hA⟩ : ∃ A,sureR m f lr p=A:=⟨_,rfl⟩
 obtain ⟨⟨b1,b2,eb⟩,hBd⟩ : ∃ A,boundR m f lc q=A:=⟨_,rfl⟩
 rw [hA] at HS ⊢
 rw [hBd] at HN ⊢
 have HB:=Lib.hid hB
 have HQ:=Lib.hid hQ
 have HR:=Lib.hid hR
 obtain ⟨rs,hrs⟩ : ∃ rs,provedR (a1,a2,ea) (b1,b2,eb)=rs:=⟨_,rfl⟩
 rw [hrs]
 have Hrs:=Lib.hid hrs
 clear hf hm hp hl hq hlq hB hQ hR hA hBd hrs
 simp only [re2] at HS HN
 go_enter Try.func28,Try.ntmps28
 go_wp2_with fail
 refine HS.out.mono ?_
 rintro e w1 ⟨rfl,hb1⟩
 have HB1:=Lib.hid (bup HB.out hb1)
 have HQ1:=Lib.hid (HQ.out.below hb1)
 have HR1:=Lib.hid (HR.out.below hb1)
 clear hW hb1 r0 rz
 obtain ⟨X,hX⟩ : ∃ X,w1.alloc (.cells #[.int .i64 a1, .int .i64 a2] 30)=X:=⟨_,rfl⟩
 have hXb:Below w1.heap.size w1 X:=by rw [← hX]; exact Below.alloc1 (Below.refl _ _) _ (Nat.le_refl _)
 have hXr:RowIs X w1.heap.size #[.int .i64 a1, .int .i64 a2] 30:=by rw [← hX]; exact heap_new_at _ _ _ rfl
 have HBX:=Lib.hid (bup HB1.out hXb)
 have HQX:=Lib.hid (HQ1.out.below hXb)
 have HRX:=Lib.hid (HR1.out.below hXb)
 have HXr:=Lib.hid hXr
 clear hXb hXr
 have x0:X.cell? ⟨w.heap.size,0,none⟩=some (.slice a m cap):=RowIs.cell HRX.out 0
 have xz:=HRX.out.lt
 have q0:=RowIs.cell HQX.out 0
 have q1:=RowIs.cell HQX.out 1
 have z0:=RowIs.frozen HQX.out 0
 have z1:=RowIs.frozen HQX.out 1
 have qz:=HQX.out.lt
 simp at q0 q1
 by_cases hea:ea=0
 ·subst hea
  go_wp2_with fail
  refine (HN.out _ HBX.out).mono ?_
  rintro e w2 ⟨rfl,hb2⟩
  clear hX x0 xz q0 q1 z0 z1 qz
  obtain ⟨Y,hY⟩ : ∃ Y,w2.alloc (.cells #[.int .i64 b1, .int .i64 b2] 30)=Y:=⟨_,rfl⟩
  have hYb:Below w2.heap.size w2 Y:=by rw [← hY]; exact Below.alloc1 (Below.refl _ _) _ (Nat.le_refl _)
  have hYr:RowIs Y w2.heap.size #[.int .i64 b1, .int .i64 b2] 30:=by rw [← hY]; exact heap_new_at _ _ _ rfl
  have hYx:=(HXr.out.below hb2).below hYb
  have HBY:=Lib.hid (bup (bup HBX.out hb2) hYb)
  have HQY:=Lib.hid ((HQX.out.below hb2).below hYb)
  have y0:Y.cell? ⟨w2.heap.size,0,none⟩=some (.int .i64 b1):=hYr.cell 0
  have y1:Y.cell? ⟨w2.heap.size,1,none⟩=some (.int .i64 b2):=hYr.cell 1
  have yz:=hYr.lt
  have v0:Y.cell? ⟨w1.heap.size,0,none⟩=some (.int .i64 a1):=hYx.cell 0
  have v1:Y.cell? ⟨w1.heap.size,1,none⟩=some (.int .i64 a2):=hYx.cell 1
  have vz:=hYx.lt
  have q0:=RowIs.cell HQY.out 0
  have q1:=RowIs.cell HQY.out 1
  have z0:=RowIs.frozen HQY.out 0
  have z1:=RowIs.frozen HQY.out 1
  have qz:=HQY.out.lt
  simp at q0 q1
  clear hYb hYr hYx hb2
  by_cases heb:eb=0
  ·subst heb
   have heq:=fun w=>eqRat a1 a2 b1 b2 w
   obtain ⟨qq,hqq⟩ : ∃ qq,(a1==b1 && a2==b2)=qq:=⟨_,rfl⟩
   simp only [hqq] at heq
   have Hqq:=Lib.hid hqq
   clear hqq
   cases qq with
   | true=>
     have hr:rs=(a1,a2,0):=by rw [← Hrs.out]; unfold provedR; rw [if_neg (by simp),if_neg (by simp),if_pos (by simpa using Hqq.out)]
     have Hr:=Lib.hid hr
     clear hr
     go_wp2_with fail
     have hQ4:=(HQY.out.set 0 (.int .i64 a1)).set 1 (.int .i64 a2)
     have y0:=RowIs.cell hQ4 0
     have y1:=RowIs.cell hQ4 1
     simp at y0 y1
     exact bodyPost_ret (v:=re2 (a1,a2,0)) (by simp [results,Try.results28,go_sem,y0,y1]) rfl ⟨by rw [Hr.out],(HBY.out.setCell (p:=⟨w.heap.size+1,0,none⟩) (by show w.heap.size≤w.heap.size+1; omega) _).setCell (p:=⟨w.heap.size+1,1,none⟩) (by show w.heap.size≤w.heap.size+1; omega) _⟩
   | false=>
     have hr:rs=(0,0,14):=by rw [← Hrs.out]; unfold provedR; rw [if_neg (by simp),if_neg (by simp),if_neg (fun h=>by have h1:a1=b1:=h.1; have h2:a2=b2:=h.2; have:=Hqq.out; simp [h1,h2] at this)]
     have Hr:=Lib.hid hr
     clear hr
     go_wp2_with fail
     have hQ4:=(HQY.out.set 0 (.int .i64 0)).set 1 (.int .i64 0)
     have y0:=RowIs.cell hQ4 0
     have y1:=RowIs.cell hQ4 1
     simp at y0 y1
     exact bodyPost_ret (v:=re2 (0,0,14)) (by simp [results,Try.results28,go_sem,y0,y1]) rfl ⟨by rw [Hr.out],(HBY.out.setCell (p:=⟨w.heap.size+1,0,none⟩) (by show w.heap.size≤w.heap.size+1; omega) _).setCell (p:=⟨w.heap.size+1,1,none⟩) (by show w.heap.size≤w.heap.size+1; omega) _⟩
  ·have t0:(eb != 0)=true:=by simpa using heb
   have hr:rs=(0,0,eb):=by rw [← Hrs.out]; unfold provedR; rw [if_neg (by simp),if_pos heb]
   have Hr:=Lib.hid hr
   clear hr heb
   go_wp2_with fail
   have hQ4:=(HQY.out.set 0 (.int .i64 0)).set 1 (.int .i64 0)
   have y0:=RowIs.cell hQ4 0
   have y1:=RowIs.cell hQ4 1
   simp at y0 y1
   exact bodyPost_ret (v:=re2 (0,0,eb)) (by simp [results,Try.results28,go_sem,y0,y1]) rfl ⟨by rw [Hr.out],(HBY.out.setCell (p:=⟨w.heap.size+1,0,none⟩) (by show w.heap.size≤w.heap.size+1; omega) _).setCell (p:=⟨w.heap.size+1,1,none⟩) (by show w.heap.size≤w.heap.size+1; omega) _⟩
 ·have t0:(ea != 0)=true:=by simpa using hea
  have hr:rs=(0,0,ea):=by rw [← Hrs.out]; unfold provedR; rw [if_pos hea]
  have Hr:=Lib.hid hr
  clear hr hea
  go_wp2_with fail
  have hQ4:=(HQX.out.set 0 (.int .i64 0)).set 1 (.int .i64 0)
  have y0:=RowIs.cell hQ4 0
  have y1:=RowIs.cell hQ4 1
  simp at y0 y1
  exact bodyPost_ret (v:=re2 (0,0,ea)) (by simp [results,Try.results28,go_sem,y0,y1]) rfl ⟨by rw [Hr.out],(HBX.out.setCell (p:=⟨w.heap.size+1,0,none⟩) (by show w.heap.size≤w.heap.size+1; omega) _).setCell (p:=⟨w.heap.size+1,1,none⟩) (by show w.heap.size≤w.heap.size+1; omega) _⟩
end Go.Proofs.Ytkbbhihndigmeaa

namespace Go.Proofs.Ytkbbhihndigmeaa
open Go Go.RowKit Go.Shelf
theorem Value_v (a:Option Addr) (m cap:Nat) (f:Nat→Row3) (w:World) (hf:Tab w a m f) (hm:m≤1048576) (hr : ∀ i,i<m→(f i).n≤1048576) :
 Calls Try.prog 25 #[tabV a m cap] w fun e w'=>e = .returned (re2 (valueR m f))∧Below w.heap.size w w':=by
 refine (Value_c a m cap f w hf hm hr).mono ?_
 rintro e w' ⟨⟨h,rfl⟩ | ⟨h,s,hs,rfl⟩,hb⟩
 ·refine ⟨?_,hb⟩
  unfold valueR
  rw [if_pos h]
 ·refine ⟨?_,hb⟩
  unfold valueR
  rw [if_neg (by simp [h]),val_of (bst_val (okay_of h) hs)]
structure BestR (A:Nat→Nat→Int) (m n:Nat) (x:Nat→Int):Prop where
 few : ∀ i,i<m→0≤x i∧x i≤24000000
 sure:Surely A m n x (valOf A m n).1 (valOf A m n).2
 used : ∀ i,i<m→0<x i→i ∈ usedC A m n
theorem bst_best {f:Nat→Row3} {m n:Nat} (hO:Okay m n f) {s:K9} (hs:Bst f m n s):BestR (lossA f) m n (valP f m n s):=by
 refine ⟨(valP_few hO s).part,(bst_iff hO hs.1).1 hs,fun i hi h => ?_⟩
 rw [← used_same hO]
 unfold usedQ
 rw [List.mem_filter]
 exact ⟨List.mem_range.2 (by have:=hO.m4; omega),by simpa using ⟨s,hs,h⟩⟩
theorem Rows_v (a:Option Addr) (m cap:Nat) (f:Nat→Row3) (w:World) (hf:Tab w a m f) (hm:m≤1048576) (hr : ∀ i,i<m→(f i).n≤1048576) :
 Calls Try.prog 29 #[tabV a m cap] w fun e w'=>((tableE m f ≠ 0∧e = .returned (.tuple #[.slice none 0 0, .int .i64 (tableE m f)]))∨(tableE m f=0 ∧ ∃ g x,BestR (lossA f) m (f 0).n x∧e = .returned (.tuple #[.slice (some ⟨g,0,none⟩) m m, .int .i64 0])∧RowIs w' g (rowA m x) 2))∧Below w.heap.size w w':=by
 refine (Rows_c a m cap f w hf hm hr).mono ?_
 rintro e w' ⟨⟨h,rfl⟩ | ⟨h,s,g,hs,rfl,hg⟩,hb⟩
 ·exact ⟨.inl ⟨h,rfl⟩,hb⟩
 ·exact ⟨.inr ⟨h,g,_,bst_best (okay_of h) hs,rfl,hg⟩,hb⟩
theorem Columns_v (a:Option Addr) (m cap:Nat) (f:Nat→Row3) (w:World) (hf:Tab w a m f) (hm:m≤1048576) (hr : ∀ i,i<m→(f i).n≤1048576) :
 Calls Try.prog 30 #[tabV a m cap] w fun e w'=>((tableE m f ≠ 0∧e = .returned (.tuple #[.slice none 0 0, .int .i64 (tableE m f)]))∨(tableE m f=0 ∧ ∃ g x,BestR (flip (lossA f)) (f 0).n m x∧e = .returned (.tuple #[.slice (some ⟨g,0,none⟩) (f 0).n (f 0).n, .int .i64 0])∧RowIs w' g (rowA (f 0).n x) 2))∧Below w.heap.size w w':=by
 refine (Columns_c a m cap f w hf hm hr).mono ?_
 rintro e w' ⟨⟨h,rfl⟩ | ⟨h,f',hS,s,g,hs,rfl,hg⟩,hb⟩
 ·exact ⟨.inl ⟨h,rfl⟩,hb⟩
 ·have:=bst_best (okay_turn (okay_of h) hS.1 hS.2) hs
  rw [loss_turn hS.2] at this
  exact ⟨.inr ⟨h,g,_,this,rfl,hg⟩,hb⟩
theorem Used_v (a:Option Addr) (m cap:Nat) (f:Nat→Row3) (w:World) (hf:Tab w a m f) (hm:m≤1048576) (hr : ∀ i,i<m→(f i).n≤1048576) :
 Calls Try.prog 36 #[tabV a m cap] w fun e w'=>((tableE m f ≠ 0∧e = .returned (.tuple #[.slice none 0 0, .slice none 0 0, .int .i64 (tableE m f)]))∨(tableE m f=0∧TwoL (usedC (lossA f) m (f 0).n) (usedC (flip (lossA f)) (f 0).n m) 0 e w'))∧Below w.heap.size w w':=by
 refine (Used_c a m cap f w hf hm hr).mono ?_
 rintro e w' ⟨⟨h,rfl⟩ | ⟨h,f',hS,x,c,y,d,rfl,h1,h2⟩,hb⟩
 ·exact ⟨.inl ⟨h,rfl⟩,hb⟩
 ·have e1:=used_same (okay_of h)
  have e2:=used_same (okay_turn (okay_of h) hS.1 hS.2)
  rw [loss_turn hS.2] at e2
  rw [e1] at h1 ⊢
  rw [e2] at h2 ⊢
  exact ⟨.inr ⟨h,x,c,y,d,rfl,h1,h2⟩,hb⟩
theorem Left_v (a:Option Addr) (m cap:Nat) (f:Nat→Row3) (w:World) (hf:Tab w a m f) (hm:m≤1048576) (hr : ∀ i,i<m→(f i).n≤1048576) :
 Calls Try.prog 38 #[tabV a m cap] w fun e w'=>((tableE m f ≠ 0∧e = .returned (.tuple #[.slice none 0 0, .slice none 0 0, .int .i64 (tableE m f)]))∨(tableE m f=0∧TwoL (leftR f m (f 0).n).1 (leftR f m (f 0).n).2 0 e w'))∧Below w.heap.size w w':=by
 refine (Left_c a m cap f w hf hm hr).mono ?_
 rintro e w' ⟨⟨h,rfl⟩ | ⟨h,f',hS,x,c,y,d,rfl,h1,h2⟩,hb⟩
 ·exact ⟨.inl ⟨h,rfl⟩,hb⟩
 ·rw [left_shop hS] at h1 h2 ⊢
  exact ⟨.inr ⟨h,x,c,y,d,rfl,h1,h2⟩,hb⟩
theorem bound_err {m:Nat} {f:Nat→Row3} {len:Nat} {p:Nat→Int} : (boundR m f len p).2.2=if tableE m f ≠ 0 then tableE m f else planE len (f 0).n p:=by
 unfold boundR
 split
 ·rfl
 ·split
  ·rfl
  ·rename_i h
   exact (Classical.not_not.1 h).symm
theorem Answers_v (a:Option Addr) (m cap:Nat) (f:Nat→Row3) (pa:Option Addr) (len pcap:Nat) (p:Nat→Int) (w:World) (hf:Tab w a m f) (hm:m≤1048576) (hr : ∀ i,i<m→(f i).n≤1048576) (hp:Ints w pa len p) (hl:len≤1048576) :
 Calls Try.prog 33 #[tabV a m cap, .slice pa len pcap] w fun e w'=>((boundR m f len p).2.2 ≠ 0∧e = .returned (.tuple #[.slice none 0 0, .int .i64 (boundR m f len p).2.2])∨(boundR m f len p).2.2=0 ∧ ∃ x c,e = .returned (.tuple #[.slice x (ansL f m (f 0).n p).length c, .int .i64 0])∧Lst w' (ansL f m (f 0).n p) x c)∧Below w.heap.size w w':=by
 refine (Answers_c a m cap f pa len pcap p w hf hm hr hp hl).mono ?_
 rw [bound_err]
 rintro e w' ⟨⟨h,rfl⟩ | ⟨h,h2,rfl⟩ | ⟨h,h2,f',hS,x,c,rfl,hL⟩,hb⟩
 ·exact ⟨.inl ⟨by rw [if_pos h]; exact h,by rw [if_pos h]⟩,hb⟩
 ·have e : ¬ tableE m f ≠ 0:=by simp [h]
  exact ⟨.inl ⟨by rw [if_neg e]; exact h2,by rw [if_neg e]⟩,hb⟩
 ·have e : ¬ tableE m f ≠ 0:=by simp [h]
  have hO:=okay_of h
  rw [ans_same hO.m1 hS] at hL ⊢
  exact ⟨.inr ⟨by rw [if_neg e]; exact h2,x,c,rfl,hL⟩,hb⟩
theorem least_some' {P:Nat→Prop} : ∀ n,(∃ k,k<n∧P k) → ∃ k,k<n∧P k ∧ ∀ i,i<k → ¬ P i
 | 0,⟨k,hk,_⟩=>absurd hk (Nat.not_lt_zero _)
 | n+1,h=>by
   classical
   by_cases h2 : ∃ k,k<n∧P k
   ·obtain ⟨k,hk,h3⟩:=least_some' n h2
    exact ⟨k,by omega,h3⟩
   ·obtain ⟨k,hk,hp⟩:=h
    have:k=n:=Classical.byContradiction fun hn=>h2 ⟨k,by omega,hp⟩
    subst this
    exact ⟨k,hk,hp,fun i hi hpi=>h2 ⟨i,hi,hpi⟩⟩
theorem pure_some {f:Nat→Row3} {m n:Nat} (h : ∃ k l,k<m∧l<n∧pureB f m n k l=true) : ∃ v,PureR f m n v:=by
 obtain ⟨k0,l0,hk0,hl0,h0⟩:=h
 obtain ⟨k,hk,⟨l1,hl1,hp1⟩,hmin⟩:=least_some' (P:=fun k=> ∃ l,l<n∧pureB f m n k l=true) m ⟨k0,hk0,l0,hl0,h0⟩
 obtain ⟨l,hl,hp,hmin2⟩:=least_some' (P:=fun l=>pureB f m n k l=true) n ⟨l1,hl1,hp1⟩
 refine ⟨_, .inr ⟨k,l,hk,hl,hp,fun i hi j hj => ?_,fun j hj => ?_,rfl⟩⟩
 ·cases hb:pureB f m n i j with
  | false=>rfl
  | true=>exact absurd ⟨j,hj,hb⟩ (hmin i hi)
 ·cases hb:pureB f m n k j with
  | false=>rfl
  | true=>exact absurd hb (hmin2 j hj)
theorem pure_named (a:Option Addr) (m cap:Nat) (f:Nat→Row3) (hm:m≤1048576) (hr : ∀ i,i<m→(f i).n≤1048576) : ∃ v:Int × Int × Int,((tableE m f ≠ 0∧v=(0,0,tableE m f))∨(tableE m f=0∧PureR f m (f 0).n v)) ∧
 (∀ x,Tab x a m f→Calls Try.prog 31 #[tabV a m cap] x fun e w'=>e = .returned (pu3 v)∧Below x.heap.size x w') ∧ ∀ x,Tab x a m f→Calls Try.prog 32 #[tabV a m cap] x fun e w'=>e = .returned (pu3 v)∧Below x.heap.size x w':=by
 have hone : ∀ v u:Int × Int × Int,((tableE m f ≠ 0∧v=(0,0,tableE m f))∨(tableE m f=0∧PureR f m (f 0).n v))→((tableE m f ≠ 0∧u=(0,0,tableE m f))∨(tableE m f=0∧PureR f m (f 0).n u))→v=u:=by
  rintro v u (⟨h,rfl⟩ | ⟨h,h1⟩) (⟨h',rfl⟩ | ⟨h',h2⟩)
  ·rfl
  ·exact absurd h' h
  ·exact absurd h h'
  ·exact pure_one h1 h2
 have hex : ∃ v:Int × Int × Int,((tableE m f ≠ 0∧v=(0,0,tableE m f))∨(tableE m f=0∧PureR f m (f 0).n v)):=by
  by_cases h:tableE m f=0
  ·by_cases hp : ∃ k l,k<m∧l<(f 0).n∧pureB f m (f 0).n k l=true
   ·obtain ⟨v,hv⟩:=pure_some hp
    exact ⟨v, .inr ⟨h,hv⟩⟩
   ·exact ⟨(0,0,19), .inr ⟨h, .inl ⟨rfl,fun k hk l hl=>by
      cases hb:pureB f m (f 0).n k l with
      | false=>rfl
      | true=>exact absurd ⟨k,l,hk,hl,hb⟩ hp⟩⟩⟩
  ·exact ⟨_, .inl ⟨h,rfl⟩⟩
 obtain ⟨v,hv⟩:=hex
 refine ⟨v,hv,fun x hx=>(Pure_c a m cap f x hx hm hr).mono ?_,fun x hx=>(rPure_c a m cap f x hx hm).mono ?_⟩
 ·rintro e w' ⟨⟨u,rfl,hu⟩,hb⟩
  rw [hone _ _ hu hv]
  exact ⟨rfl,hb⟩
 ·rintro e w' ⟨⟨u,rfl,hu⟩,hb⟩
  rw [hone _ _ hu hv]
  exact ⟨rfl,hb⟩
end Go.Proofs.Ytkbbhihndigmeaa

namespace Go.Proofs.Ytkbbhihndigmeaa
open Go Go.RowKit Go.Shelf
theorem of_c (p:Option Addr) (n cap:Nat) (w:World):Calls Try.prog 60 #[.slice p n cap] w fun e w'=>e = .returned (.slice p n cap)∧w=w':=by
 go_enter Try.func60,Try.ntmps60
 go_wp2_with fail
 go_ret
 exact ⟨rfl,rfl⟩
theorem longs_c (p:Option Addr) (n cap:Nat) (w:World):Calls Try.prog 56 #[.slice p n cap] w fun e w'=>e = .returned (.slice p n cap)∧w=w':=by
 go_enter Try.func56,Try.ntmps56
 go_wp2_with fail
 go_ret
 exact ⟨rfl,rfl⟩
theorem long_c (p:Option Addr) (n cap:Nat) (w:World):Calls Try.prog 17 #[.slice p n cap] w fun e w'=>e = .returned (.bool (decide (8<n)))∧w=w':=by
 have t:decide ((8:Int)<(n:Int))=decide (8<n):=by rw [decide_eq_decide]; omega
 go_enter Try.func17,Try.ntmps17
 go_wp2_with fail
 go_ret
 exact ⟨by simp,rfl⟩
theorem by_c (x y:Int) (w:World):Calls Try.prog 45 #[.int .i64 x, .int .i64 y] w fun e w'=>e = .returned (.agg #[.int .i64 x, .int .i64 y])∧Below w.heap.size w w':=by
 obtain ⟨W,hW⟩ : ∃ W,w.alloc (.cells #[.int .i64 0, .int .i64 0] 30)=W:=⟨_,rfl⟩
 have hB:Below w.heap.size w W:=by rw [← hW]; exact Below.alloc1 (Below.refl _ _) _ (Nat.le_refl _)
 have hR:RowIs W w.heap.size #[.int .i64 0, .int .i64 0] 30:=by rw [← hW]; exact heap_new_at _ _ _ rfl
 have q0:=hR.cell 0
 have q1:=hR.cell 1
 have z0:=hR.frozen 0
 have z1:=hR.frozen 1
 have qz:=hR.lt
 simp at q0 q1
 have HR:=Lib.hid hR
 clear hR
 go_enter Try.func45,Try.ntmps45
 go_wp2_with fail
 have h5:=(HR.out.set 0 (.int .i64 x)).set 1 (.int .i64 y)
 have y0:=h5.cell 0
 have y1:=h5.cell 1
 simp at y0 y1
 exact bodyPost_ret (v:= .agg #[.int .i64 x, .int .i64 y]) (by simp [results,Try.results45,go_sem,y0,y1]) rfl ⟨rfl,(hB.setCell (p:=⟨w.heap.size,0,none⟩) (by show w.heap.size≤w.heap.size; omega) _).setCell (p:=⟨w.heap.size,1,none⟩) (by show w.heap.size≤w.heap.size; omega) _⟩
def greatB (m:Nat) (f:Nat→Row3):Bool:=decide (8<m) || !allB (fun i=>decide ((f i).n≤8)) m
set_option maxHeartbeats 4000000 in
theorem great_c (a:Option Addr) (m cap:Nat) (f:Nat→Row3) (w:World) (hf:Tab w a m f):Calls Try.prog 16 #[tabV a m cap] w fun e w'=>e = .returned (.bool (greatB m f))∧Below w.heap.size w w':=by
 obtain ⟨W,hW⟩ : ∃ W,w.alloc (.cells #[.slice a m cap] 24)=W:=⟨_,rfl⟩
 have hB:Below w.heap.size w W:=by rw [← hW]; exact Below.alloc1 (Below.refl _ _) _ (Nat.le_refl _)
 have hR:RowIs W w.heap.size #[.slice a m cap] 24:=by rw [← hW]; exact heap_new_at _ _ _ rfl
 have r0:W.cell? ⟨w.heap.size,0,none⟩=some (.slice a m cap):=RowIs.cell hR 0
 have rz:w.heap.size<W.heap.size:=hR.lt
 have HF:=Lib.hid (hf.below hB)
 clear hR hf
 by_cases h8:8<m
 ·have e:greatB m f=true:=by simp [greatB,h8]
  have t:(8:Int)<(m:Int):=by omega
  rw [e]
  clear e
  go_enter Try.func16,Try.ntmps16
  go_wp2_with fail
  go_ret
  exact ⟨rfl,hB⟩
 ·have e:greatB m f = !allB (fun i=>decide ((f i).n≤8)) m:=by simp [greatB,h8]
  have t : ¬ (8:Int)<(m:Int):=by omega
  have hm:m≤1048576:=by omega
  rw [e]
  clear e
  go_enter Try.func16,Try.ntmps16
  go_wp2_with fail
  clear hW
  go_loop [3,4] (fun x i=> ∃ k y:Nat,k≤m∧i = .int .i64 k∧x = .int .i64 y∧((y≤8)↔allB (fun i=>decide ((f i).n≤8)) k=true)) (fun _ i=>m-(intOf i).toNat)
  case atStart=>exact ⟨0,0,Nat.zero_le _,rfl,rfl,by simp [allB]⟩
  case round=>
   obtain ⟨k,y,hk,rfl,rfl,hy⟩:=hrel
   have Hy:=Lib.hid hy
   clear hy
   by_cases hlt:k<m
   ·obtain ⟨b,off,rfl,hbs,hc⟩:=Tab.at HF.out k hlt
    have c0:=hc k hlt
    clear hc
    obtain ⟨l,hl⟩ : ∃ l,(f k).n=l:=⟨_,rfl⟩
    rw [hl] at c0
    have Hl:=Lib.hid hl
    clear hl
    have hmx:max (y:Int) (l:Int)=((max y l:Nat):Int):=by omega
    have hmx2:(if (y:Int)<(l:Int) then (l:Int) else (y:Int))=((max y l:Nat):Int):=by split <;> omega
    have hmx3:(if y<l then (l:Int) else (y:Int))=((max y l:Nat):Int):=by split <;> omega
    go_wp2
    go_round
    case rel=>
     refine ⟨k+1,max y l,by omega,by go_num,rfl,?_⟩
     rw [allB,Bool.and_eq_true, ← Hy.out,decide_eq_true_eq,Hl.out]
     omega
    case measure=>simp [intOf]; omega
   ·obtain rfl:k=m:=by omega
    by_cases h9:8<y
    ·have t9:(8:Int)<(y:Int):=by omega
     have e:allB (fun i=>decide ((f i).n≤8)) k=false:=by
      cases hb:allB (fun i=>decide ((f i).n≤8)) k with
      | false=>rfl
      | true=>have:=Hy.out.2 hb; omega
     have E:=Lib.hid e
     clear e
     go_wp2
     go_ret
     exact ⟨by rw [E.out]; rfl,hB⟩
    ·have t9 : ¬ (8:Int)<(y:Int):=by omega
     have E:=Lib.hid (Hy.out.1 (by omega))
     go_wp2
     go_ret
     exact ⟨by rw [E.out]; rfl,hB⟩
def eqB (f g:Nat→Int):Nat→Bool
 | 0=>true
 | k+1=>eqB f g k && decide (f k=g k)
theorem eqB_no (f g:Nat→Int) (k:Nat) : ∀ n,k<n→f k ≠ g k→eqB f g n=false
 | 0,h,_=>absurd h (Nat.not_lt_zero _)
 | n+1,h,hb=>by
   by_cases e:k=n
   ·subst e; simp [eqB,hb]
   ·simp [eqB,eqB_no f g k n (by omega) hb]
theorem eqB_iff (f g:Nat→Int) : ∀ n,eqB f g n=true ↔ ∀ i,i<n→f i=g i
 | 0=>⟨fun _ i hi=>absurd hi (Nat.not_lt_zero _),fun _=>rfl⟩
 | n+1=>by
   rw [eqB,Bool.and_eq_true,eqB_iff f g n,decide_eq_true_eq]
   exact ⟨fun h i hi=>by
    by_cases e:i=n
    ·rw [e]; exact h.2
    ·exact h.1 i (by omega),fun h=>⟨fun i hi=>h i (by omega),h n (by omega)⟩⟩
def intsB (n:Nat) (f:Nat→Int) (m:Nat) (g:Nat→Int):Bool:=decide (n=m) && eqB f g n
theorem intsB_yes {n:Nat} {f g:Nat→Int} (h : ∀ i,i<n→f i=g i):intsB n f n g=true:=by
 unfold intsB
 rw [(eqB_iff f g n).2 h]
 simp
set_option maxHeartbeats 4000000 in
theorem Ints_c (a:Option Addr) (n cap:Nat) (f:Nat→Int) (b:Option Addr) (m bcap:Nat) (g:Nat→Int) (w:World) (ha:Ints w a n f) (hb:Ints w b m g) (hn:n≤9223372036854775807) :
 Calls Try.prog 35 #[.slice a n cap, .slice b m bcap] w fun e w'=>e = .returned (.bool (intsB n f m g))∧Below w.heap.size w w':=by
 by_cases hnm:n=m
 ·subst hnm
  have t0:((n:Int) != (n:Int))=false:=by simp
  have e0:intsB n f n g=eqB f g n:=by simp [intsB]
  rw [e0]
  clear e0
  go_enter Try.func35,Try.ntmps35
  go_wp2_with fail
  go_loopw [5] (fun v wr=> ∃ k:Nat,k≤n∧v = .int .i64 k∧eqB f g k=true∧Below w.heap.size w wr) (fun v _=>n-(intOf v).toNat)
  case atStart=>exact ⟨0,Nat.zero_le _,rfl,rfl,Below.refl _ _⟩
  case round=>
   obtain ⟨k,hk,rfl,he,hB⟩:=hrel
   by_cases hlt:k<n
   ·obtain ⟨ab,ao,rfl,hab,hac⟩:=Cells.at (Cells.below ha hB) k hlt
    obtain ⟨bb,bo,rfl,hbb,hbc⟩:=Cells.at (Cells.below hb hB) k hlt
    have ca:wr.cell? ⟨ab,ao+k,none⟩=some (.int .i64 (f k)):=hac k hlt
    have cb:wr.cell? ⟨bb,bo+k,none⟩=some (.int .i64 (g k)):=hbc k hlt
    obtain ⟨x,hx⟩ : ∃ x,f k=x:=⟨_,rfl⟩
    obtain ⟨y,hy⟩ : ∃ y,g k=y:=⟨_,rfl⟩
    rw [hx] at ca
    rw [hy] at cb
    have Hx:=Lib.hid hx
    have Hy:=Lib.hid hy
    have HB:=Lib.hid hB
    have He:=Lib.hid he
    have hlc:=fun (x:Later wr)=>later_cell x
    have hw1:IntKind.i64.wrap ((k:Int)+1)=(k:Int)+1:=IntWalk.i64_in _ (by omega)
    clear hx hy hB he hac hbc
    go_wp2_with fail
    refine wp_region_later (by kernel_rfl) (by kernel_rfl) ?_
    repeat (go_big_quiet_step (fail))
    refine wpQuiet_nil ?_
    clear hlc ca cb
    rintro ⟨A7,hb7⟩
    have HB7:=Lib.hid (HB.out.trans (hb7.mono HB.out.size))
    dsimp only
    clear hb7
    by_cases hxy:x=y
    ·have t1:(x != y)=false:=by simp [hxy]
     have h1:eqB f g (k+1)=true:=by rw [eqB,He.out,Hx.out,Hy.out]; simp [hxy]
     have H1:=Lib.hid h1
     clear h1 hxy
     go_wp2_with fail
     go_roundw
     case rel=>exact ⟨k+1,by omega,by go_num,H1.out,HB7.out⟩
     case measure=>simp [intOf]; omega
    ·have t1:(x != y)=true:=by simpa using hxy
     have h1:eqB f g n=false:=eqB_no f g k n hlt (by rw [Hx.out,Hy.out]; exact hxy)
     have H1:=Lib.hid h1
     clear hxy h1
     go_wp2_with fail
     go_ret
     exact ⟨by rw [H1.out]; rfl,HB7.out⟩
   ·obtain rfl:k=n:=by omega
    have He:=Lib.hid he
    clear he
    go_wp2_with fail
    go_ret
    exact ⟨by rw [He.out]; rfl,hB⟩
 ·have t0:((n:Int) != (m:Int))=true:=by simp; omega
  have e0:intsB n f m g=false:=by simp [intsB,hnm]
  rw [e0]
  go_enter Try.func35,Try.ntmps35
  go_wp2_with fail
  go_ret
  exact ⟨rfl,Below.refl _ _⟩
theorem ints_list {X Y:List Nat} : intsB X.length (natI X) Y.length (natI Y)=decide (X=Y):=by
 rw [Bool.eq_iff_iff,decide_eq_true_eq]
 unfold intsB
 rw [Bool.and_eq_true,decide_eq_true_eq,eqB_iff]
 constructor
 ·rintro ⟨h1,h2⟩
  apply List.ext_getElem h1
  intro i hi hi'
  have:=h2 i hi
  unfold natI at this
  rw [List.getD_eq_getElem?_getD,List.getD_eq_getElem?_getD,List.getElem?_eq_getElem hi,List.getElem?_eq_getElem hi'] at this
  have e2:((X[i]:Nat):Int)=((Y[i]:Nat):Int):=by simpa using this
  omega
 ·rintro rfl
  exact ⟨rfl,fun _ _=>rfl⟩
theorem IntsL_c (X Y:List Nat) (p q:Option Addr) (c d:Nat) (w:World) (hX:Lst w X p c) (hY:Lst w Y q d) :
 Calls Try.prog 35 #[.slice p X.length c, .slice q Y.length d] w fun e w'=>e = .returned (.bool (decide (X=Y)))∧Below w.heap.size w w':=by
 rw [← ints_list]
 exact Ints_c p X.length c (natI X) q Y.length d (natI Y) w hX.cells hY.cells (Nat.le_trans hX.room hX.fit)
end Go.Proofs.Ytkbbhihndigmeaa

namespace Go.Proofs.Ytkbbhihndigmeaa
open Go Go.RowKit Go.Shelf
theorem RC_at_storeT {P:Program} {ops:Array Oper} {md:Region.Mode} {Q:Exit→Act→World→Prop} {C:World→Prop} {f i:Nat} {o:Oper} {done:Array Bool} {a:Act} {F:World→Prop} (F':World→Prop) (ho:ops[i]? = some o) (hg:o.guard=none) (hS:Stable F') (hC : ∀ w,F' w→C w) (hrun : ∀ w,F w → ∃ w',(execOp a.eval o).run P w = .ok .skip w'∧F' w')
 (h:RC.Run P md ops Q C f (done.setIfInBounds i true) (a.put o.dst undef) F'):RC.RunAt P md ops Q C f done a F i:=
 ⟨o,ho, .inr (.inr (.inl ⟨F',⟨by simp [Region.wanted,hg],hS,hC,hrun⟩,h⟩))⟩
def cutR (xb c L:Nat) (g:Nat→Int) (i:Nat):Row3:=⟨some ⟨xb,i*c,none⟩,c,L-i*c,fun j=>g (i*c+j)⟩
theorem cutR_tab {w:World} {B xb c L k:Nat} {g:Nat→Int} {Ls:List Value} {v:Value} (hx:Ints w (some ⟨xb,0,none⟩) L g) (hL:L=k*c) (hk:Ls.length=k) (hv:OwnV 25 w B Ls v) (hr : ∀ i,i<k→Ls.getD i undef=hdV (cutR xb c L g i)) (hc:0<c) :
 ∃ p cap,v = .slice p k cap∧k≤cap∧cap≤9223372036854775807∧Tab w p k (cutR xb c L g) ∧ ∀ b off,p=some ⟨b,off,none⟩→B≤b:=by
 obtain ⟨p,cap,h1,h2,h3,h4,h5,h6⟩:=hv.form
 rw [hk] at h1 h2
 refine ⟨p,cap,h1,h2,h3,⟨h5 k _ hk.symm fun i hi => ?_,fun i hi => ?_⟩,fun b off e=>(h6 b off e).2.1⟩
 ·have:=hr i hi
  rw [List.getD_eq_getElem?_getD,List.getElem?_eq_getElem (by omega)] at this
  rw [List.getElem?_eq_getElem (by omega)]
  exact congrArg some this
 ·rcases hx with h0 | ⟨b,off,e,hz,hcx⟩
  ·exfalso
   have:0<k*c:=Nat.mul_pos (by omega) hc
   omega
  ·cases e
   refine .inr ⟨xb,i*c,rfl,hz,fun j hj => ?_⟩
   have hj':j<c:=hj
   have h7:i*c+j<L:=by
    have:(i+1)*c≤k*c:=Nat.mul_le_mul_right c (by omega)
    rw [Nat.add_mul] at this
    omega
   have:=hcx (i*c+j) h7
   rw [Nat.zero_add] at this
   exact this
set_option maxRecDepth 100000 in
set_option maxHeartbeats 8000000 in
theorem Table_c (c k L xb:Nat) (g:Nat→Int) (w:World) (hx:Ints w (some ⟨xb,0,none⟩) L g) (hL:L=k*c) (hc1:1≤c) (hc4:c≤4) (hk4:k≤4) :
 Calls Try.prog 81 #[.int .i64 c, .slice (some ⟨xb,0,none⟩) L L] w fun e w'=>(∃ p cap,e = .returned (tabV p k cap)∧Tab w' p k (cutR xb c L g) ∧ ∀ b off,p=some ⟨b,off,none⟩→w.heap.size≤b)∧Below w.heap.size w w':=by
 obtain ⟨W,hW⟩ : ∃ W,(w.alloc (.cells #[.slice none 0 0] 24)).alloc (.cells #[.slice none 0 0] 24)=W:=⟨_,rfl⟩
 have hB:Below w.heap.size w W:=by rw [← hW]; exact Below.alloc1 (Below.alloc1 (Below.refl _ _) _ (Nat.le_refl _)) _ (Nat.le_refl _)
 have hQ:RowIs W w.heap.size #[.slice none 0 0] 24:=by rw [← hW]; exact RowIs.alloc (heap_new_at _ _ _ rfl) _
 have hS:RowIs W (w.heap.size+1) #[.slice none 0 0] 24:=by rw [← hW]; exact heap_new_at _ _ _ (by simp)
 have HX:=Lib.hid hx
 have HQ:=Lib.hid hQ
 have HS:=Lib.hid hS
 have HB:=Lib.hid hB
 have hL16:L≤16:=by rw [hL]; exact Nat.mul_le_mul hk4 hc4
 have HL:=Lib.hid hL
 have hc0:(0:Int)<(c:Int):=by omega
 clear hx hQ hS hB hL
 go_enter Try.func81,Try.ntmps81
 go_wp2_with fail
 clear hW
 go_loopw [6] (fun q wr=> ∃ (i n:Nat),i≤k∧n=i*c∧q = .int .i64 n ∧ ∃ Ls v,Ls.length=i∧OwnV 25 wr w.heap.size Ls v∧(∀ j,j<i→Ls.getD j undef=hdV (cutR xb c L g j))∧RowIs wr (w.heap.size+1) #[v] 24∧RowIs wr w.heap.size #[.slice none 0 0] 24∧Below w.heap.size w wr) (fun q _=>L-(intOf q).toNat)
 case atStart=>exact ⟨0,0,Nat.zero_le _,by omega,rfl,[],_,rfl,ownV_nil _ _ _,fun j hj=>absurd hj (Nat.not_lt_zero _),HS.out,HQ.out,HB.out⟩
 case round=>
  obtain ⟨i,n,hi,hn,rfl,Ls,v,hLs,hv,hrows,hs,hq,hb⟩:=hrel
  have Hn:=Lib.hid hn
  have HLs:=Lib.hid hLs
  have Hv:=Lib.hid hv
  have Hrows:=Lib.hid hrows
  have Hs:=Lib.hid hs
  have Hq:=Lib.hid hq
  have Hb:=Lib.hid hb
  have hz:=hs.lt
  have s0:wr.cell? ⟨w.heap.size+1,0,none⟩=some v:=RowIs.cell hs 0
  have hcase:(i<k∧n+c≤L∧n<L)∨(i=k∧n=L):=by
   rcases Nat.lt_or_ge i k with h | h
   ·refine .inl ⟨h,?_⟩
    have:(i+1)*c≤k*c:=Nat.mul_le_mul_right c (by omega)
    rw [Nat.add_mul,Nat.one_mul, ← hn, ← HL.out] at this
    omega
   ·have e:i=k:=by omega
    exact .inr ⟨e,by rw [hn,e, ← HL.out]⟩
  have w0:IntKind.i64.wrap ((n:Int)+(c:Int))=(n:Int)+(c:Int):=IntWalk.i64_in _ (by omega)
  clear hn hLs hv hrows hs hq hb
  rcases hcase with ⟨hlt,hle,hnL⟩ | ⟨rfl,rfl⟩
  ·obtain ⟨vp,vc,hvf, -⟩:=Hv.out.form
   rw [HLs.out] at hvf
   subst hvf
   have t1:(n:Int)+(c:Int)≤(L:Int):=by omega
   have t2:(0:Int)≤(n:Int):=by omega
   have t3:(n:Int)≤(n:Int)+(c:Int):=by omega
   have t4 : ¬ L=n:=by omega
   have t5:n+c≤L:=hle
   have t6:((n:Int)+(c:Int)).toNat-n=c:=by omega
   have hFC : ∀ y,Below wr.heap.size wr y→Below w.heap.size w y:=fun y hy=>Hb.out.trans (hy.mono Hb.out.size)
   go_wp2_with fail
   refine RC.wp_region_runF (C:=fun y=>Below w.heap.size w y) (fun y=>Below wr.heap.size wr y) (by kernel_rfl) (stable_below wr) (Below.refl _ _) ?_
   change RC.Run _ _ _ _ _ 12 _ _ _
   refine RC.run_take (i:=0) (.pointer (some ⟨w.heap.size+1,0,none⟩)) rfl (by kernel_rfl) (by kernel_rfl) (by kernel_rfl) rfl (hFC) (fun y hy=>by go_simp) ?_
   simp only [puts]
   refine RC.run_take (i:=2) (.slice (some ⟨xb,0,none⟩) L L) rfl (by kernel_rfl) (by kernel_rfl) (by kernel_rfl) rfl (hFC) (fun y hy=>by go_simp) ?_
   simp only [puts]
   refine RC.run_take (i:=3) (.int .i64 (n:Int)) rfl (by kernel_rfl) (by kernel_rfl) (by kernel_rfl) rfl (hFC) (fun y hy=>by go_simp) ?_
   simp only [puts]
   refine RC.run_take (i:=4) (.int .i64 (n:Int)) rfl (by kernel_rfl) (by kernel_rfl) (by kernel_rfl) rfl (hFC) (fun y hy=>by go_simp) ?_
   simp only [puts]
   refine RC.run_take (i:=5) (.int .i64 (c:Int)) rfl (by kernel_rfl) (by kernel_rfl) (by kernel_rfl) rfl (hFC) (fun y hy=>by go_simp) ?_
   simp only [puts]
   refine RC.run_take (i:=6) (.int .i64 ((n:Int)+(c:Int))) rfl (by kernel_rfl) (by kernel_rfl) (by kernel_rfl) rfl (hFC) (fun y hy=>by go_simp) ?_
   simp only [puts]
   refine RC.run_take (i:=7) (.slice (some ⟨xb,n,none⟩) c (L-n)) rfl (by kernel_rfl) (by kernel_rfl) (by kernel_rfl) rfl (hFC) (fun y hy=>by go_simp) ?_
   simp only [puts]
   refine RC.run_both (i:=1) (j:=8) (by kernel_rfl) ?_ ?_
   ·skip
    refine RC.at_quiet (.slice vp i vc) rfl (quiet_read rfl (fun y hy => ?_)) ?_
    ·have c2:y.cell? ⟨w.heap.size+1,0,none⟩=some (.slice vp i vc):=RowIs.cell (Hs.out.below hy) 0
     go_simp
    simp only [puts]
    refine RC.run_only (i:=8) (by kernel_rfl) (RC.at_make (w0:=wr) (t:=28) (z:= .cells #[Value.slice (some ⟨xb,n,none⟩) c (L-n)] 25 (0,0)) (fun q=> .slice (some ⟨q,0,none⟩) 1 1) (fun _=>False) sl1_inj rfl rfl rfl (fun y _=>by go_simp) (fun y h=>h.size) (fun _ _ _ h=>h.elim) ?_)
    intro d1 hd1 _
    simp only [Act.put,List.setIfInBounds_toArray,List.set_cons_zero,List.set_cons_succ]
    refine RC.run_only (i:=9) (by kernel_rfl) (RC.at_upd (fun v2 y=>OwnV 25 y w.heap.size (Ls ++ [Value.slice (some ⟨xb,n,none⟩) c (L-n)]) v2∧RowIs y (w.heap.size+1) #[.slice vp i vc] 24∧RowIs y w.heap.size #[.slice none 0 0] 24∧Below w.heap.size w y) rfl rfl (fun v2 y y1 h hb=>⟨h.1.below hb,h.2.1.below hb,h.2.2.1.below hb,h.2.2.2.trans (hb.mono h.2.2.2.size)⟩) (fun v2 y h=>h.2.2.2) (fun y hy => ?_) ?_)
    ·obtain ⟨g1,g2⟩:=hy
     have c4:y.cell? ⟨d1,0,none⟩=some (Value.slice (some ⟨xb,n,none⟩) c (L-n)):=RowIs.cell g2 0
     have hvY:=Hv.out.below g1
     obtain ⟨v',Z,hrun,ho,hgz,hbz, -⟩:=appS64 hvY (Value.slice (some ⟨xb,n,none⟩) c (L-n)) d1 c4 rfl (Nat.le_trans Hb.out.size g1.size) (by rw [HLs.out]; omega)
     exact ⟨v',Z,exec_app _ _ _ rfl _ _ rfl rfl hrun,ho,hvY.other hgz (Hs.out.below g1) (by decide),hvY.other hgz (Hq.out.below g1) (by decide),(hFC y g1).trans hbz⟩
    rintro v2 ⟨_,ho2, -⟩
    obtain ⟨np,nc,hnf, -⟩:=ho2.form
    rw [List.length_append,HLs.out] at hnf
    have e1:i+[Value.slice (some ⟨xb,n,none⟩) c (L-n)].length=i+1:=rfl
    rw [e1] at hnf
    clear e1
    subst hnf
    simp only [puts]
    refine RC.run_quiet (i:=10) (.pointer (some ⟨w.heap.size+1,0,none⟩)) (by kernel_rfl) rfl rfl (fun y hy=>by go_simp) ?_
    simp only [puts]
    refine RC.run_only (i:=11) (by kernel_rfl) (RC_at_storeT (fun y=>OwnV 25 y w.heap.size (Ls ++ [Value.slice (some ⟨xb,n,none⟩) c (L-n)]) (.slice np (i+1) nc)∧RowIs y (w.heap.size+1) #[.slice np (i+1) nc] 24∧RowIs y w.heap.size #[.slice none 0 0] 24∧Below w.heap.size w y) rfl rfl (fun y y1 h hb=>⟨h.1.below hb,h.2.1.below hb,h.2.2.1.below hb,h.2.2.2.trans (hb.mono h.2.2.2.size)⟩) (fun y h=>h.2.2.2) (fun y hy => ?_) ?_)
    ·obtain ⟨g1,g2,g3,g4⟩:=hy
     have q0:=g2.cell 0
     have z0:=g2.frozen 0
     have qz:=g2.lt
     simp at q0
     refine ⟨y.setCell ⟨w.heap.size+1,0,none⟩ (.slice np (i+1) nc),by go_simp,g1.far g2 (by decide),g2.set 0 _,g3.other 0 _ (by omega),g4.setCell (p:=⟨w.heap.size+1,0,none⟩) (by show w.heap.size≤w.heap.size+1; omega) _⟩
    simp only [puts]
    refine ⟨by kernel_rfl,fun y hy => ?_⟩
    obtain ⟨g1,g2,g3,g4⟩:=hy
    have G1:=Lib.hid g1
    have G2:=Lib.hid g2
    have G3:=Lib.hid g3
    have G4:=Lib.hid g4
    clear g1 g2 g3 g4 ho2 hFC s0
    go_wp2_with fail
    go_roundw
    case rel=>
     refine ⟨i+1,n+c,by omega,by rw [Hn.out,Nat.add_mul,Nat.one_mul],by go_num,_,_,by rw [List.length_append,HLs.out]; rfl,G1.out,fun j hj => ?_,G2.out,G3.out,G4.out⟩
     by_cases e:j=i
     ·subst e
      rw [(getD_snoc HLs.out).1]
      unfold cutR hdV
      rw [← Hn.out]
     ·rw [(getD_snoc HLs.out).2 j (by omega)]
      exact Hrows.out j (by omega)
    case measure=>simp [intOf]; omega
   ·skip
    refine RC.at_make (w0:=wr) (t:=28) (z:= .cells #[Value.slice (some ⟨xb,n,none⟩) c (L-n)] 25 (0,0)) (fun q=> .slice (some ⟨q,0,none⟩) 1 1) (fun _=>False) sl1_inj rfl rfl rfl (fun y _=>by go_simp) (fun y h=>h.size) (fun _ _ _ h=>h.elim) ?_
    intro d1 hd1 _
    simp only [Act.put,List.setIfInBounds_toArray,List.set_cons_zero,List.set_cons_succ]
    refine RC.run_quiet (i:=1) (.slice vp i vc) (by kernel_rfl) rfl rfl (fun y hy=>by
     have c2:y.cell? ⟨w.heap.size+1,0,none⟩=some (.slice vp i vc):=RowIs.cell (Hs.out.below hy.1) 0
     go_simp) ?_
    simp only [puts]
    refine RC.run_only (i:=9) (by kernel_rfl) (RC.at_upd (fun v2 y=>OwnV 25 y w.heap.size (Ls ++ [Value.slice (some ⟨xb,n,none⟩) c (L-n)]) v2∧RowIs y (w.heap.size+1) #[.slice vp i vc] 24∧RowIs y w.heap.size #[.slice none 0 0] 24∧Below w.heap.size w y) rfl rfl (fun v2 y y1 h hb=>⟨h.1.below hb,h.2.1.below hb,h.2.2.1.below hb,h.2.2.2.trans (hb.mono h.2.2.2.size)⟩) (fun v2 y h=>h.2.2.2) (fun y hy => ?_) ?_)
    ·obtain ⟨g1,g2⟩:=hy
     have c4:y.cell? ⟨d1,0,none⟩=some (Value.slice (some ⟨xb,n,none⟩) c (L-n)):=RowIs.cell g2 0
     have hvY:=Hv.out.below g1
     obtain ⟨v',Z,hrun,ho,hgz,hbz, -⟩:=appS64 hvY (Value.slice (some ⟨xb,n,none⟩) c (L-n)) d1 c4 rfl (Nat.le_trans Hb.out.size g1.size) (by rw [HLs.out]; omega)
     exact ⟨v',Z,exec_app _ _ _ rfl _ _ rfl rfl hrun,ho,hvY.other hgz (Hs.out.below g1) (by decide),hvY.other hgz (Hq.out.below g1) (by decide),(hFC y g1).trans hbz⟩
    rintro v2 ⟨_,ho2, -⟩
    obtain ⟨np,nc,hnf, -⟩:=ho2.form
    rw [List.length_append,HLs.out] at hnf
    have e1:i+[Value.slice (some ⟨xb,n,none⟩) c (L-n)].length=i+1:=rfl
    rw [e1] at hnf
    clear e1
    subst hnf
    simp only [puts]
    refine RC.run_quiet (i:=10) (.pointer (some ⟨w.heap.size+1,0,none⟩)) (by kernel_rfl) rfl rfl (fun y hy=>by go_simp) ?_
    simp only [puts]
    refine RC.run_only (i:=11) (by kernel_rfl) (RC_at_storeT (fun y=>OwnV 25 y w.heap.size (Ls ++ [Value.slice (some ⟨xb,n,none⟩) c (L-n)]) (.slice np (i+1) nc)∧RowIs y (w.heap.size+1) #[.slice np (i+1) nc] 24∧RowIs y w.heap.size #[.slice none 0 0] 24∧Below w.heap.size w y) rfl rfl (fun y y1 h hb=>⟨h.1.below hb,h.2.1.below hb,h.2.2.1.below hb,h.2.2.2.trans (hb.mono h.2.2.2.size)⟩) (fun y h=>h.2.2.2) (fun y hy => ?_) ?_)
    ·obtain ⟨g1,g2,g3,g4⟩:=hy
     have q0:=g2.cell 0
     have z0:=g2.frozen 0
     have qz:=g2.lt
     simp at q0
     refine ⟨y.setCell ⟨w.heap.size+1,0,none⟩ (.slice np (i+1) nc),by go_simp,g1.far g2 (by decide),g2.set 0 _,g3.other 0 _ (by omega),g4.setCell (p:=⟨w.heap.size+1,0,none⟩) (by show w.heap.size≤w.heap.size+1; omega) _⟩
    simp only [puts]
    refine ⟨by kernel_rfl,fun y hy => ?_⟩
    obtain ⟨g1,g2,g3,g4⟩:=hy
    have G1:=Lib.hid g1
    have G2:=Lib.hid g2
    have G3:=Lib.hid g3
    have G4:=Lib.hid g4
    clear g1 g2 g3 g4 ho2 hFC s0
    go_wp2_with fail
    go_roundw
    case rel=>
     refine ⟨i+1,n+c,by omega,by rw [Hn.out,Nat.add_mul,Nat.one_mul],by go_num,_,_,by rw [List.length_append,HLs.out]; rfl,G1.out,fun j hj => ?_,G2.out,G3.out,G4.out⟩
     by_cases e:j=i
     ·subst e
      rw [(getD_snoc HLs.out).1]
      unfold cutR hdV
      rw [← Hn.out]
     ·rw [(getD_snoc HLs.out).2 j (by omega)]
      exact Hrows.out j (by omega)
    case measure=>simp [intOf]; omega
  ·obtain ⟨p,cap,hvf,h1,h2,h3,h4⟩:=cutR_tab (HX.out.below Hb.out) HL.out HLs.out Hv.out Hrows.out hc1
   subst hvf
   have t1 : ¬ (n:Int)+(c:Int)≤(n:Int):=by omega
   have hq:=Hq.out
   have q0:wr.cell? ⟨w.heap.size,0,none⟩=some (.slice none 0 0):=hq.cell 0
   have z0:=hq.frozen 0
   have qz:=hq.lt
   have H3:=Lib.hid h3
   have H4:=Lib.hid h4
   clear h4
   have Hq3:=Lib.hid hq
   have s1:wr.cell? ⟨w.heap.size+1,0,none⟩=some (.slice p i cap):=RowIs.cell Hs.out 0
   clear h3 hq h1 h2 s0
   go_wp2_with fail
   have hq2:=Hq3.out.set 0 (.slice p i cap)
   have y0:=RowIs.cell hq2 0
   simp at y0
   have hT:Tab (wr.setCell ⟨w.heap.size,0,none⟩ (.slice p i cap)) p i (cutR xb c n g):=by
    have hx2:Ints (wr.setCell ⟨w.heap.size,0,none⟩ (.slice p i cap)) (some ⟨xb,0,none⟩) n g:=by
     rcases HX.out with h0 | ⟨b,off,e,hz2,hcx⟩
     ·exact .inl h0
     ·refine .inr ⟨b,off,e,by simpa [World.setCell] using Nat.lt_of_lt_of_le hz2 Hb.out.size,fun j hj => ?_⟩
      have h9:=(Hb.out.cell (p:=⟨b,off+j,none⟩) hz2).trans (hcx j hj)
      rw [← h9]
      show World.cell? _ _=World.cell? _ _
      unfold World.cell?
      rw [show (wr.setCell ⟨w.heap.size,0,none⟩ (.slice p i cap)).heap[b]? = wr.heap[b]? from Below.heap_setCell _ _ _ _ (by show b ≠ w.heap.size; omega)]
    obtain ⟨p',cap',e, -, -,hT, -⟩:=cutR_tab (w:=wr.setCell ⟨w.heap.size,0,none⟩ (.slice p i cap)) (B:=w.heap.size) (Ls:=Ls) (v:= .slice p i cap) (xb:=xb) (c:=c) (k:=i) (L:=n) (g:=g) hx2 HL.out HLs.out (Hv.out.far (bb:=w.heap.size) (o:=0) (u:= .slice p i cap) Hq3.out (by decide)) Hrows.out hc1
    injection e with e1 _ _
    subst e1
    exact hT
   exact bodyPost_ret (v:=tabV p i cap) (by simp [results,Try.results81,go_sem,y0]) rfl ⟨⟨p,⟨cap,rfl⟩,hT,H4.out⟩,Hb.out.setCell (p:=⟨w.heap.size,0,none⟩) (by show w.heap.size≤w.heap.size; omega) _⟩
end Go.Proofs.Ytkbbhihndigmeaa

namespace Go.Proofs.Ytkbbhihndigmeaa
open Go Go.RowKit Go.Shelf
abbrev ltN (l:List Int) (i:Nat):Int:=l.getD i 0
abbrev mixedL:List Int:=[3, -1, -2,4]
abbrev mixedF (xb:Nat):Nat→Row3:=cutR xb 2 4 (ltN mixedL)
set_option maxRecDepth 100000 in
set_option maxHeartbeats 4000000 in
theorem mixed_c (w:World):Calls Try.prog 57 #[] w fun e w'=>(∃ p cap xb,e = .returned (tabV p 2 cap)∧Tab w' p 2 (mixedF xb))∧Below w.heap.size w w':=by
 obtain ⟨W,hW⟩ : ∃ W,w.alloc (.cells #[.slice none 0 0] 24)=W:=⟨_,rfl⟩
 have hWb:Below w.heap.size w W:=by rw [← hW]; exact Below.alloc1 (Below.refl _ _) _ (Nat.le_refl _)
 have hWr:RowIs W w.heap.size #[.slice none 0 0] 24:=by rw [← hW]; exact heap_new_at _ _ _ rfl
 have hWs:W.heap.size=w.heap.size+1:=by rw [← hW]; simp
 have hx:Ints (W.alloc (.cells #[.int .i64 3, .int .i64 (-1), .int .i64 (-2), .int .i64 4] 2)) (some ⟨W.heap.size,0,none⟩) 4 (ltN mixedL):=ints_new W 2 (0,0) mixedL
 obtain ⟨X,hX⟩ : ∃ X,W.alloc (.cells #[.int .i64 3, .int .i64 (-1), .int .i64 (-2), .int .i64 4] 2)=X:=⟨_,rfl⟩
 have hXb:Below W.heap.size W X:=by rw [← hX]; exact Below.alloc1 (Below.refl _ _) _ (Nat.le_refl _)
 rw [hX] at hx
 have Hws:=Lib.hid hWs
 have HT:=Lib.hid (Table_c 2 2 4 W.heap.size (ltN mixedL) X hx rfl (by decide) (by decide) (by decide))
 have HR:=Lib.hid (hWr.below hXb)
 have HB:=Lib.hid (bup hWb hXb)
 clear hx hWb hWr hXb hWs
 go_enter Try.func57,Try.ntmps57
 go_wp2_with fail
 refine HT.out.mono ?_
 rintro e w1 ⟨⟨p,cap,rfl,hT,hpb⟩,hb⟩
 have hr:=HR.out.below hb
 have q0:=hr.cell 0
 have z0:=hr.frozen 0
 have qz:=hr.lt
 simp at q0
 have Hr:=Lib.hid hr
 have HB1:=Lib.hid (bup HB.out hb)
 have hXz:=HB.out.size
 have hRz:=HR.out.lt
 have hpn : ∀ b off,p=some ⟨b,off,none⟩→b ≠ w.heap.size:=fun b off e=>by have:=hpb b off e; omega
 have HT1:=Lib.hid hT
 have Hpn:=Lib.hid hpn
 clear hpb hpn hXz hRz
 clear hr hb hT HT HB HR hW hX
 go_wp2_with fail
 have hq2:=Hr.out.set 0 (.slice p 2 cap)
 have y0:=RowIs.cell hq2 0
 simp at y0
 refine bodyPost_ret (v:=tabV p 2 cap) (by simp [results,Try.results57,go_sem,y0]) rfl ⟨⟨p,cap,W.heap.size,rfl,?_⟩,HB1.out.setCell (p:=⟨w.heap.size,0,none⟩) (by show w.heap.size≤w.heap.size; omega) _⟩
 exact tab_far HT1.out Hpn.out (fun i hi b off e=>by cases e; have:=Hws.out; omega) 0 _
abbrev pureL:List Int:=[1,2,0,3]
abbrev pureF (xb:Nat):Nat→Row3:=cutR xb 2 4 (ltN pureL)
set_option maxRecDepth 100000 in
set_option maxHeartbeats 4000000 in
theorem pure_c (w:World):Calls Try.prog 58 #[] w fun e w'=>(∃ p cap xb,e = .returned (tabV p 2 cap)∧Tab w' p 2 (pureF xb))∧Below w.heap.size w w':=by
 obtain ⟨W,hW⟩ : ∃ W,w.alloc (.cells #[.slice none 0 0] 24)=W:=⟨_,rfl⟩
 have hWb:Below w.heap.size w W:=by rw [← hW]; exact Below.alloc1 (Below.refl _ _) _ (Nat.le_refl _)
 have hWr:RowIs W w.heap.size #[.slice none 0 0] 24:=by rw [← hW]; exact heap_new_at _ _ _ rfl
 have hWs:W.heap.size=w.heap.size+1:=by rw [← hW]; simp
 have hx:Ints (W.alloc (.cells #[.int .i64 1, .int .i64 2, .int .i64 0, .int .i64 3] 2)) (some ⟨W.heap.size,0,none⟩) 4 (ltN pureL):=ints_new W 2 (0,0) pureL
 obtain ⟨X,hX⟩ : ∃ X,W.alloc (.cells #[.int .i64 1, .int .i64 2, .int .i64 0, .int .i64 3] 2)=X:=⟨_,rfl⟩
 have hXb:Below W.heap.size W X:=by rw [← hX]; exact Below.alloc1 (Below.refl _ _) _ (Nat.le_refl _)
 rw [hX] at hx
 have Hws:=Lib.hid hWs
 have HT:=Lib.hid (Table_c 2 2 4 W.heap.size (ltN pureL) X hx rfl (by decide) (by decide) (by decide))
 have HR:=Lib.hid (hWr.below hXb)
 have HB:=Lib.hid (bup hWb hXb)
 clear hx hWb hWr hXb hWs
 go_enter Try.func58,Try.ntmps58
 go_wp2_with fail
 refine HT.out.mono ?_
 rintro e w1 ⟨⟨p,cap,rfl,hT,hpb⟩,hb⟩
 have hr:=HR.out.below hb
 have q0:=hr.cell 0
 have z0:=hr.frozen 0
 have qz:=hr.lt
 simp at q0
 have Hr:=Lib.hid hr
 have HB1:=Lib.hid (bup HB.out hb)
 have hXz:=HB.out.size
 have hRz:=HR.out.lt
 have hpn : ∀ b off,p=some ⟨b,off,none⟩→b ≠ w.heap.size:=fun b off e=>by have:=hpb b off e; omega
 have HT1:=Lib.hid hT
 have Hpn:=Lib.hid hpn
 clear hpb hpn hXz hRz
 clear hr hb hT HT HB HR hW hX
 go_wp2_with fail
 have hq2:=Hr.out.set 0 (.slice p 2 cap)
 have y0:=RowIs.cell hq2 0
 simp at y0
 refine bodyPost_ret (v:=tabV p 2 cap) (by simp [results,Try.results58,go_sem,y0]) rfl ⟨⟨p,cap,W.heap.size,rfl,?_⟩,HB1.out.setCell (p:=⟨w.heap.size,0,none⟩) (by show w.heap.size≤w.heap.size; omega) _⟩
 exact tab_far HT1.out Hpn.out (fun i hi b off e=>by cases e; have:=Hws.out; omega) 0 _
abbrev roundL:List Int:=[0,1, -1, -1,0,1,1, -1,0]
abbrev roundF (xb:Nat):Nat→Row3:=cutR xb 3 9 (ltN roundL)
set_option maxRecDepth 100000 in
set_option maxHeartbeats 4000000 in
theorem round_c (w:World):Calls Try.prog 59 #[] w fun e w'=>(∃ p cap xb,e = .returned (tabV p 3 cap)∧Tab w' p 3 (roundF xb))∧Below w.heap.size w w':=by
 obtain ⟨W,hW⟩ : ∃ W,w.alloc (.cells #[.slice none 0 0] 24)=W:=⟨_,rfl⟩
 have hWb:Below w.heap.size w W:=by rw [← hW]; exact Below.alloc1 (Below.refl _ _) _ (Nat.le_refl _)
 have hWr:RowIs W w.heap.size #[.slice none 0 0] 24:=by rw [← hW]; exact heap_new_at _ _ _ rfl
 have hWs:W.heap.size=w.heap.size+1:=by rw [← hW]; simp
 have hx:Ints (W.alloc (.cells #[.int .i64 0, .int .i64 1, .int .i64 (-1), .int .i64 (-1), .int .i64 0, .int .i64 1, .int .i64 1, .int .i64 (-1), .int .i64 0] 2)) (some ⟨W.heap.size,0,none⟩) 9 (ltN roundL):=ints_new W 2 (0,0) roundL
 obtain ⟨X,hX⟩ : ∃ X,W.alloc (.cells #[.int .i64 0, .int .i64 1, .int .i64 (-1), .int .i64 (-1), .int .i64 0, .int .i64 1, .int .i64 1, .int .i64 (-1), .int .i64 0] 2)=X:=⟨_,rfl⟩
 have hXb:Below W.heap.size W X:=by rw [← hX]; exact Below.alloc1 (Below.refl _ _) _ (Nat.le_refl _)
 rw [hX] at hx
 have Hws:=Lib.hid hWs
 have HT:=Lib.hid (Table_c 3 3 9 W.heap.size (ltN roundL) X hx rfl (by decide) (by decide) (by decide))
 have HR:=Lib.hid (hWr.below hXb)
 have HB:=Lib.hid (bup hWb hXb)
 clear hx hWb hWr hXb hWs
 go_enter Try.func59,Try.ntmps59
 go_wp2_with fail
 refine HT.out.mono ?_
 rintro e w1 ⟨⟨p,cap,rfl,hT,hpb⟩,hb⟩
 have hr:=HR.out.below hb
 have q0:=hr.cell 0
 have z0:=hr.frozen 0
 have qz:=hr.lt
 simp at q0
 have Hr:=Lib.hid hr
 have HB1:=Lib.hid (bup HB.out hb)
 have hXz:=HB.out.size
 have hRz:=HR.out.lt
 have hpn : ∀ b off,p=some ⟨b,off,none⟩→b ≠ w.heap.size:=fun b off e=>by have:=hpb b off e; omega
 have HT1:=Lib.hid hT
 have Hpn:=Lib.hid hpn
 clear hpb hpn hXz hRz
 clear hr hb hT HT HB HR hW hX
 go_wp2_with fail
 have hq2:=Hr.out.set 0 (.slice p 3 cap)
 have y0:=RowIs.cell hq2 0
 simp at y0
 refine bodyPost_ret (v:=tabV p 3 cap) (by simp [results,Try.results59,go_sem,y0]) rfl ⟨⟨p,cap,W.heap.size,rfl,?_⟩,HB1.out.setCell (p:=⟨w.heap.size,0,none⟩) (by show w.heap.size≤w.heap.size; omega) _⟩
 exact tab_far HT1.out Hpn.out (fun i hi b off e=>by cases e; have:=Hws.out; omega) 0 _
end Go.Proofs.Ytkbbhihndigmeaa

namespace Go.Proofs.Ytkbbhihndigmeaa
open Go Go.RowKit Go.Shelf
theorem mixed_ok (xb:Nat):Okay 2 2 (mixedF xb):=⟨by decide,by decide,by decide,by decide,fun _ _=>rfl,by show ∀ i,i<2 → ∀ j,j<2 → -100≤ltN mixedL (i*2+j)∧ltN mixedL (i*2+j)≤100; decide⟩
theorem pure_ok (xb:Nat):Okay 2 2 (pureF xb):=⟨by decide,by decide,by decide,by decide,fun _ _=>rfl,by show ∀ i,i<2 → ∀ j,j<2 → -100≤ltN pureL (i*2+j)∧ltN pureL (i*2+j)≤100; decide⟩
theorem round_ok (xb:Nat):Okay 3 3 (roundF xb):=⟨by decide,by decide,by decide,by decide,fun _ _=>rfl,by show ∀ i,i<3 → ∀ j,j<3 → -100≤ltN roundL (i*3+j)∧ltN roundL (i*3+j)≤100; decide⟩
abbrev mixedA (i j:Nat):Int:=ltN mixedL (i*2+j)
abbrev pureA (i j:Nat):Int:=ltN pureL (i*2+j)
abbrev roundA (i j:Nat):Int:=ltN roundL (i*3+j)
theorem mixed_A (xb:Nat):lossA (mixedF xb)=mixedA:=rfl
theorem pure_A (xb:Nat):lossA (pureF xb)=pureA:=rfl
theorem round_A (xb:Nat):lossA (roundF xb)=roundA:=rfl
theorem mixed_x:Surely mixedA 2 2 (ltN [3,2]) 1 1:=⟨by decide,by decide,by decide⟩
theorem mixed_q:Bounds mixedA 2 2 (ltN [1,1]) 1 1:=⟨by decide,by decide,by decide⟩
theorem pure_x:Surely pureA 2 2 (ltN [1,0]) 1 1:=⟨by decide,by decide,by decide⟩
theorem pure_q:Bounds pureA 2 2 (ltN [1,0]) 1 1:=⟨by decide,by decide,by decide⟩
theorem round_x:Surely roundA 3 3 (ltN [1,1,1]) 0 1:=⟨by decide,by decide,by decide⟩
theorem round_q:Bounds roundA 3 3 (ltN [1,1,1]) 0 1:=⟨by decide,by decide,by decide⟩
theorem mixed_v:valOf mixedA 2 2=(1,1):=by rw [val_of ⟨by decide,⟨_,mixed_x⟩,_,mixed_q⟩]; decide +kernel
theorem pure_v:valOf pureA 2 2=(1,1):=by rw [val_of ⟨by decide,⟨_,pure_x⟩,_,pure_q⟩]; decide +kernel
theorem round_v:valOf roundA 3 3=(0,1):=by rw [val_of ⟨by decide,⟨_,round_x⟩,_,round_q⟩]; decide +kernel
theorem pure_fv:valOf (flip pureA) 2 2=(-1,1):=by
 have h:ValIs (flip pureA) 2 2 (-1) 1:=(show ValIs pureA 2 2 1 1 from ⟨by decide,⟨_,pure_x⟩,_,pure_q⟩).flip
 rw [val_of h]
 decide +kernel
theorem round_fv:valOf (flip roundA) 3 3=(0,1):=by
 have h:ValIs (flip roundA) 3 3 (-0) 1:=(show ValIs roundA 3 3 0 1 from ⟨by decide,⟨_,round_x⟩,_,round_q⟩).flip
 rw [val_of h]
 decide +kernel
theorem mixed_value (xb:Nat):valueR 2 (mixedF xb)=(1,1,0):=by
 unfold valueR
 rw [if_neg (by rw [okay_is (mixed_ok xb)]; decide)]
 show ((valOf mixedA 2 2).1,(valOf mixedA 2 2).2,(0:Int))=_
 rw [mixed_v]
theorem pure_value (xb:Nat):valueR 2 (pureF xb)=(1,1,0):=by
 unfold valueR
 rw [if_neg (by rw [okay_is (pure_ok xb)]; decide)]
 show ((valOf pureA 2 2).1,(valOf pureA 2 2).2,(0:Int))=_
 rw [pure_v]
theorem round_value (xb:Nat):valueR 3 (roundF xb)=(0,1,0):=by
 unfold valueR
 rw [if_neg (by rw [okay_is (round_ok xb)]; decide)]
 show ((valOf roundA 3 3).1,(valOf roundA 3 3).2,(0:Int))=_
 rw [round_v]
theorem mixed_sure1 (xb:Nat):sureR 2 (mixedF xb) 2 (ltN [3,2])=(1,1,0):=by
 show sureR 2 (mixedF 0) 2 (ltN [3,2])=_
 decide +kernel
theorem mixed_sure2 (xb:Nat):sureR 2 (mixedF xb) 2 (ltN [0,0])=(0,0,2):=by
 show sureR 2 (mixedF 0) 2 (ltN [0,0])=_
 decide +kernel
theorem mixed_sure3 (xb:Nat):sureR 2 (mixedF xb) 1 (ltN [1])=(0,0,15):=by
 show sureR 2 (mixedF 0) 1 (ltN [1])=_
 decide +kernel
theorem mixed_sure4 (xb:Nat):sureR 2 (mixedF xb) 2 (ltN [1,0])=(-1,1,0):=by
 show sureR 2 (mixedF 0) 2 (ltN [1,0])=_
 decide +kernel
theorem mixed_bound1 (xb:Nat):boundR 2 (mixedF xb) 2 (ltN [0,1])=(4,1,0):=by
 show boundR 2 (mixedF 0) 2 (ltN [0,1])=_
 decide +kernel
theorem mixed_bound2 (xb:Nat):boundR 2 (mixedF xb) 2 (ltN [1,1])=(1,1,0):=by
 show boundR 2 (mixedF 0) 2 (ltN [1,1])=_
 decide +kernel
theorem mixed_bound3 (xb:Nat):(boundR 2 (mixedF xb) 2 (ltN [3,1])).2.2=0:=by
 show (boundR 2 (mixedF 0) 2 (ltN [3,1])).2.2=_
 decide +kernel
theorem mixed_proof1 (xb:Nat):proofR 2 (mixedF xb) 2 (ltN [3,2]) 2 (ltN [1,1])=(1,1,0):=by
 show proofR 2 (mixedF 0) 2 (ltN [3,2]) 2 (ltN [1,1])=_
 decide +kernel
theorem mixed_proof2 (xb:Nat):proofR 2 (mixedF xb) 2 (ltN [1,1]) 2 (ltN [1,1])=(0,0,14):=by
 show proofR 2 (mixedF 0) 2 (ltN [1,1]) 2 (ltN [1,1])=_
 decide +kernel
theorem mixed_ans1 (xb:Nat):ansL (mixedF xb) 2 2 (ltN [1,1])=[0,1]:=by
 show ansL (mixedF 0) 2 2 (ltN [1,1])=_
 decide +kernel
theorem mixed_ans2 (xb:Nat):ansL (mixedF xb) 2 2 (ltN [3,1])=[0]:=by
 show ansL (mixedF 0) 2 2 (ltN [3,1])=_
 decide +kernel
theorem mixed_left (xb:Nat):leftR (mixedF xb) 2 2=([0,1],[0,1]):=by
 show leftR (mixedF 0) 2 2=_
 decide +kernel
theorem pure_left (xb:Nat):leftR (pureF xb) 2 2=([0],[0]):=by
 show leftR (pureF 0) 2 2=_
 decide +kernel
theorem round_left (xb:Nat):leftR (roundF xb) 3 3=([0,1,2],[0,1,2]):=by
 show leftR (roundF 0) 3 3=_
 decide +kernel
theorem mixed_pure (xb:Nat):PureR (mixedF xb) 2 2 (0,0,19):= .inl ⟨rfl,by show ∀ i,i<2 → ∀ j,j<2→pureB (mixedF 0) 2 2 i j=false; decide +kernel⟩
theorem pure_pure (xb:Nat):PureR (pureF xb) 2 2 (0,0,0):= .inr ⟨0,0,by decide,by decide,by show pureB (pureF 0) 2 2 0 0=true; decide +kernel,fun i hi=>absurd hi (Nat.not_lt_zero _),fun i hi=>absurd hi (Nat.not_lt_zero _),rfl⟩
theorem used_list {A:Nat→Nat→Int} {m n:Nat} {L:List Nat} (p:Nat→Bool) (hL:(List.range m).filter p=L) (h : ∀ i,i<m→(p i=true ↔ ∃ R G s,Choice A m n R G s∧0<planC A R G s i∧Surely A m n (planC A R G s) (valOf A m n).1 (valOf A m n).2)):usedC A m n=L:=by
 classical
 rw [← hL]
 unfold usedC
 refine List.filter_congr fun i hi => ?_
 rw [Bool.eq_iff_iff,decide_eq_true_eq,h i (List.mem_range.1 hi)]
theorem choice_dec {A:Nat→Nat→Int} {m n:Nat} {R G:List Nat} {s:Int} (h1:R ∈ subs (List.range m)) (h2:G ∈ subs (List.range n)) (h3:G.length=R.length) (h4:0<R.length) (h5:s=1∨s = -1) (h6 : ∀ a,a<R.length→0≤s*partsOf A R G a) (h7 : ∃ a,a<R.length∧partsOf A R G a ≠ 0):Choice A m n R G s:=⟨subs_mem h1,subs_mem h2,h3,h4,h5,h6,h7⟩
theorem pure_used:usedC pureA 2 2=[0]:=by
 refine used_list (fun i=>i==0) (by decide) fun i hi => ?_
 rw [pure_v]
 constructor
 ·intro h
  have:i=0:=by simpa using h
  subst this
  exact ⟨[0],[0],1,choice_dec (by decide) (by decide) rfl (by decide) (.inl rfl) (by decide +kernel) ⟨0,by decide,by decide +kernel⟩,by decide +kernel,by decide +kernel,by decide +kernel,by decide +kernel⟩
 ·rintro ⟨R,G,s, -,h1,h2⟩
  have hsl:=slack (by decide) h2 pure_q hi h1
  have:i=0∨i=1:=by omega
  rcases this with rfl | rfl
  ·rfl
  ·exact absurd hsl (by decide +kernel)
theorem pure_usedf:usedC (flip pureA) 2 2=[0]:=by
 refine used_list (fun i=>i==0) (by decide) fun i hi => ?_
 rw [pure_fv]
 constructor
 ·intro h
  have:i=0:=by simpa using h
  subst this
  exact ⟨[0],[0],1,choice_dec (by decide) (by decide) rfl (by decide) (.inl rfl) (by decide +kernel) ⟨0,by decide,by decide +kernel⟩,by decide +kernel,by decide +kernel,by decide +kernel,by decide +kernel⟩
 ·rintro ⟨R,G,s, -,h1,h2⟩
  have hq:Bounds (flip pureA) 2 2 (ltN [1,0]) (-1) 1:=⟨by decide +kernel,by decide +kernel,by decide +kernel⟩
  have hsl:=slack (by decide) h2 hq hi h1
  have:i=0∨i=1:=by omega
  rcases this with rfl | rfl
  ·rfl
  ·exact absurd hsl (by decide +kernel)
theorem round_used:usedC roundA 3 3=[0,1,2]:=by
 refine used_list (fun _=>true) (by decide) fun i hi=>⟨fun _ => ?_,fun _=>rfl⟩
 rw [round_v]
 refine ⟨[0,1,2],[0,1,2],1,choice_dec (by decide) (by decide) rfl (by decide) (.inl rfl) (by decide +kernel) ⟨0,by decide,by decide +kernel⟩,?_,by decide +kernel,by decide +kernel,by decide +kernel⟩
 revert i
 decide +kernel
theorem round_usedf:usedC (flip roundA) 3 3=[0,1,2]:=by
 refine used_list (fun _=>true) (by decide) fun i hi=>⟨fun _ => ?_,fun _=>rfl⟩
 rw [round_fv]
 refine ⟨[0,1,2],[0,1,2],1,choice_dec (by decide) (by decide) rfl (by decide) (.inl rfl) (by decide +kernel) ⟨0,by decide,by decide +kernel⟩,?_,by decide +kernel,by decide +kernel,by decide +kernel⟩
 revert i
 decide +kernel
end Go.Proofs.Ytkbbhihndigmeaa

namespace Go.Proofs.Ytkbbhihndigmeaa
open Go Go.RowKit Go.Shelf
theorem val_flip {f:Nat→Row3} {m n:Nat} (hO:Okay m n f):valOf (flip (lossA f)) n m=(-(valOf (lossA f) m n).1,(valOf (lossA f) m n).2):=by
 have h1:=(valOf_is hO).flip
 rw [val_of h1]
 obtain ⟨v0,s0,h, -⟩:=val_exists (lossA f) hO.m1 hO.m4 hO.n1 hO.n4
 rw [val_of h]
 obtain ⟨e1,e2⟩:=rat_idem v0 h.1
 obtain ⟨e3,e4⟩:=rat_neg (ratN v0 s0) (ratD v0 s0)
 dsimp only
 rw [e3,e4,e1,e2]
theorem best_bounds {f:Nat→Row3} {m n:Nat} {q:Nat→Int} (hO:Okay m n f) (h:BestR (flip (lossA f)) n m q):Bounds (lossA f) m n q (valOf (lossA f) m n).1 (valOf (lossA f) m n).2:=by
 have:=h.sure
 rw [val_flip hO] at this
 exact surely_flip.1 this
end Go.Proofs.Ytkbbhihndigmeaa
