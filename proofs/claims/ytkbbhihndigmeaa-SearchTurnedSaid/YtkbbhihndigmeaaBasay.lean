/- Contracts of layer 3: what is left when a table has shrunk, by the document. Written by tools/rleft.py. -/
import Derived.Shelf.Abstract
import Derived.Shelf.RegionOpen
import Derived.Conc.Own4
import Derived.Test.YtkbbhihndigmeaaProg
import Derived.Test.YtkbbhihndigmeaaBasaa
import Derived.Test.YtkbbhihndigmeaaBasac
import Derived.Test.YtkbbhihndigmeaaBasae
import Derived.Test.YtkbbhihndigmeaaBasaf
import Derived.Test.YtkbbhihndigmeaaBasao
import Derived.Test.YtkbbhihndigmeaaBasap
import Derived.Test.YtkbbhihndigmeaaBasaq
import Derived.Test.YtkbbhihndigmeaaBasar
import Derived.Test.YtkbbhihndigmeaaBasax
namespace Go.Proofs.Ytkbbhihndigmeaa
open Go Go.RowKit Go.Shelf
theorem bits_full:((List.range 5).all fun m=>bitsL (2 ^ m-1) m==List.range m)=true:=by decide +kernel
theorem bitsL_full {m:Nat} (hm:m≤4):bitsL (2 ^ m-1) m=List.range m:=by
 have h:=List.all_eq_true.1 bits_full m (List.mem_range.2 (by omega))
 simpa using h
theorem need_congr {f g:Nat→Row3} (h : ∀ j,(f j).g=(g j).g):needO f=needO g:=by
 have:gapI f=gapI g:=funext fun a=>funext fun b=>funext fun j=>by unfold gapI; rw [h a,h b]
 have h2:betterB f=betterB g:=funext fun C=>funext fun a=>funext fun b=>by unfold betterB; rw [this]
 exact funext fun C=>funext fun R=>by unfold needO; rw [h2]
theorem left_congr {f g g':Nat→Row3} (h : ∀ j,(g j).g=(g' j).g) : ∀ k R C,leftF f g k R C=leftF f g' k R C
 | 0,_,_=>rfl
 | k+1,R,C=>by
   rw [leftF,leftF,need_congr h]
   cases needO f C R with
   | some i=>exact left_congr h k _ _
   | none=>
     dsimp only
     cases needO g' R C with
     | some i=>exact left_congr h k _ _
     | none=>rfl
def leftR (f:Nat→Row3) (m n:Nat):List Nat × List Nat:=leftF f (fun j=>turnF f m j) (m+n) (List.range m) (List.range n)
theorem left_shop {f f':Nat→Row3} {m n:Nat} (h:Shop f f' m n):leftF f f' (m+n) (List.range m) (List.range n)=leftR f m n:=left_congr (fun j=>h.2 j) _ _ _
set_option maxRecDepth 100000 in
set_option maxHeartbeats 16000000 in
theorem rLeft_c (a:Option Addr) (m cap:Nat) (f:Nat→Row3) (w:World) (hf:Tab w a m f) (hm:m≤1048576) :
 Calls Try.prog 39 #[tabV a m cap] w fun e w'=>((tableE m f ≠ 0∧e = .returned (.tuple #[.slice none 0 0, .slice none 0 0, .int .i64 (tableE m f)]))∨(tableE m f=0∧TwoL (leftR f m (f 0).n).1 (leftR f m (f 0).n).2 0 e w'))∧Below w.heap.size w w':=by
 obtain ⟨W,hW⟩ : ∃ W,w.alloc (.cells #[.slice a m cap] 24)=W:=⟨_,rfl⟩
 have hB:Below w.heap.size w W:=by rw [← hW]; exact Below.alloc1 (Below.refl _ _) _ (Nat.le_refl _)
 have hR:RowIs W w.heap.size #[.slice a m cap] 24:=by rw [← hW]; exact heap_new_at _ _ _ rfl
 have r0:W.cell? ⟨w.heap.size,0,none⟩=some (.slice a m cap):=RowIs.cell hR 0
 have rz:w.heap.size<W.heap.size:=hR.lt
 have HF:=Lib.hid (hf.below hB)
 have HT:=Lib.hid (fun (x:World) (h:Tab x a m f)=>rcheckTable_c a m cap f x h hm)
 have HR:=Lib.hid hR
 have HB:=Lib.hid hB
 clear hf hB hR
 by_cases hE:tableE m f=0
 ·have hO:=okay_of hE
  obtain ⟨n,hn⟩ : ∃ n,(f 0).n=n:=⟨_,rfl⟩
  rw [hn] at hO ⊢
  have HO:=Lib.hid hO
  have HE:=Lib.hid hE
  rw [hE] at HT
  obtain ⟨f0,hf0⟩ : ∃ f0:Nat→Row3,(fun j=>turnF f m j)=f0:=⟨_,rfl⟩
  have hf0g : ∀ j,(f0 j).g=fun i=> - (f i).g j:=fun j=>by rw [← hf0]; rfl
  have hres:leftR f m n=iterL f f0 8 (List.range m,List.range n):=by rw [iter_eight f f0 hO.m4 hO.n4, ← hf0]; rfl
  rw [hres]
  have hm0:=hO.m1
  have hm4:=hO.m4
  have hn0:=hO.n1
  have hn4:=hO.n4
  have Hf0:=Lib.hid hf0g
  have Hok:=Lib.hid (fun k=>iter_ok (f:=f) (f':=f0) (X:=List.range m) (Y:=List.range n) (by rw [List.length_range]; omega) (by rw [List.length_range]; omega) k)
  obtain ⟨b,off,rfl,hbs, -⟩:=Tab.at HF.out 0 hm0
  obtain ⟨pm,hpm⟩ : ∃ pm:Nat,2 ^ m-1=pm:=⟨_,rfl⟩
  obtain ⟨pn,hpn⟩ : ∃ pn:Nat,2 ^ n-1=pn:=⟨_,rfl⟩
  have wm:IntKind.i64.wrap (2 ^ m)=(pm:Int)+1∧IntKind.i64.wrap (pm:Int)=(pm:Int):=by
   have:m=1∨m=2∨m=3∨m=4:=by omega
   have h16:pm≤15:=by rcases this with rfl | rfl | rfl | rfl <;> omega
   have he:(2:Int) ^ m=(pm:Int)+1:=by rcases this with rfl | rfl | rfl | rfl <;> (rw [← hpm]; rfl)
   exact ⟨by rw [he]; exact IntWalk.i64_in _ (by omega),IntWalk.i64_in _ (by omega)⟩
  have wn:IntKind.i64.wrap (2 ^ n)=(pn:Int)+1∧IntKind.i64.wrap (pn:Int)=(pn:Int):=by
   have:n=1∨n=2∨n=3∨n=4:=by omega
   have h16:pn≤15:=by rcases this with rfl | rfl | rfl | rfl <;> omega
   have he:(2:Int) ^ n=(pn:Int)+1:=by rcases this with rfl | rfl | rfl | rfl <;> (rw [← hpn]; rfl)
   exact ⟨by rw [he]; exact IntWalk.i64_in _ (by omega),IntWalk.i64_in _ (by omega)⟩
  have hLm:=fun x=>rListed_c pm m x hm4
  have hLn:=fun x=>rListed_c pn n x hn4
  rw [← hpm,bitsL_full hm4,hpm,List.length_range] at hLm
  rw [← hpn,bitsL_full hn4,hpn,List.length_range] at hLn
  have HLm:=Lib.hid hLm
  have HLn:=Lib.hid hLn
  obtain ⟨wm1,wm2⟩:=wm
  obtain ⟨wn1,wn2⟩:=wn
  clear hE hO hn hf0 hf0g hres hLm hLn hpm hpn
  go_enter Try.func39,Try.ntmps39
  go_wp2_with fail
  refine (HT.out _ HF.out).mono ?_
  rintro e w1 ⟨rfl,hb1⟩
  clear hW
  have hR1:=HR.out.below hb1
  have s0:w1.cell? ⟨w.heap.size,0,none⟩=some (.slice (some ⟨b,off,none⟩) m cap):=RowIs.cell hR1 0
  have sz:=hR1.lt
  have hF1:=HF.out.below hb1
  have hc0:=tabC hF1
  have hFC : ∀ y,Below w1.heap.size w1 y→Below w1.heap.size w1 y∧y.cell? ⟨w.heap.size,0,none⟩=some (.slice (some ⟨b,off,none⟩) m cap)∧y.cell? ⟨b,off,none⟩=some (.slice (f 0).a n (f 0).cap):=fun y hy=>⟨hy,RowIs.cell (hR1.below hy) 0,by have:=hc0 y hy 0 hm0; rwa [Nat.add_zero,HO.out.len 0 hm0] at this⟩
  have HF1:=Lib.hid hF1
  have HB1:=Lib.hid (bup HB.out hb1)
  have HR1:=Lib.hid hR1
  have i1 : ¬ m=0:=by omega
  have i2:(0:Int)≤(m:Int):=by omega
  have i3:(0:Int)≤(n:Int):=by omega
  clear hb1 r0 rz hR1 hF1 hc0
  go_wp2_with fail
  refine RC.wp_region_runF (C:=fun y=>Below w1.heap.size w1 y∧y.cell? ⟨w.heap.size,0,none⟩=some (.slice (some ⟨b,off,none⟩) m cap)∧y.cell? ⟨b,off,none⟩=some (.slice (f 0).a n (f 0).cap)) (fun y=>Below w1.heap.size w1 y) (by kernel_rfl) (stable_below w1) (Below.refl _ _) ?_
  change RC.Run _ _ _ _ _ 24 _ _ _
  refine RC.run_take (i:=0) (.pointer (some ⟨w.heap.size,0,none⟩)) rfl (by kernel_rfl) (by kernel_rfl) (by kernel_rfl) rfl (hFC) (fun y hy=>by obtain ⟨-,q0,q1⟩:=hy; go_simp) ?_
  simp only [puts]
  refine RC.run_take (i:=1) (.slice (some ⟨b,off,none⟩) m cap) rfl (by kernel_rfl) (by kernel_rfl) (by kernel_rfl) rfl (hFC) (fun y hy=>by obtain ⟨-,q0,q1⟩:=hy; go_simp) ?_
  simp only [puts]
  refine RC.run_take (i:=2) (.int .i64 (m:Int)) rfl (by kernel_rfl) (by kernel_rfl) (by kernel_rfl) rfl (hFC) (fun y hy=>by obtain ⟨-,q0,q1⟩:=hy; go_simp) ?_
  simp only [puts]
  refine RC.run_take (i:=3) (.int .i64 ((pm:Int)+1)) rfl (by kernel_rfl) (by kernel_rfl) (by kernel_rfl) rfl (hFC) (fun y hy=>by obtain ⟨-,q0,q1⟩:=hy; go_simp) ?_
  simp only [puts]
  refine RC.run_take (i:=4) (.int .i64 (pm:Int)) rfl (by kernel_rfl) (by kernel_rfl) (by kernel_rfl) rfl (hFC) (fun y hy=>by obtain ⟨-,q0,q1⟩:=hy; go_simp) ?_
  simp only [puts]
  refine RC.run_take (i:=5) (.pointer (some ⟨w.heap.size,0,none⟩)) rfl (by kernel_rfl) (by kernel_rfl) (by kernel_rfl) rfl (hFC) (fun y hy=>by obtain ⟨-,q0,q1⟩:=hy; go_simp) ?_
  simp only [puts]
  refine RC.run_take (i:=6) (.slice (some ⟨b,off,none⟩) m cap) rfl (by kernel_rfl) (by kernel_rfl) (by kernel_rfl) rfl (hFC) (fun y hy=>by obtain ⟨-,q0,q1⟩:=hy; go_simp) ?_
  simp only [puts]
  refine RC.run_take (i:=7) (.int .i64 (m:Int)) rfl (by kernel_rfl) (by kernel_rfl) (by kernel_rfl) rfl (hFC) (fun y hy=>by obtain ⟨-,q0,q1⟩:=hy; go_simp) ?_
  simp only [puts]
  refine RC.run_take (i:=9) (.pointer (some ⟨w.heap.size,0,none⟩)) rfl (by kernel_rfl) (by kernel_rfl) (by kernel_rfl) rfl (hFC) (fun y hy=>by obtain ⟨-,q0,q1⟩:=hy; go_simp) ?_
  simp only [puts]
  refine RC.run_take (i:=10) (.slice (some ⟨b,off,none⟩) m cap) rfl (by kernel_rfl) (by kernel_rfl) (by kernel_rfl) rfl (hFC) (fun y hy=>by obtain ⟨-,q0,q1⟩:=hy; go_simp) ?_
  simp only [puts]
  refine RC.run_take (i:=11) (.pointer (some ⟨b,off,none⟩)) rfl (by kernel_rfl) (by kernel_rfl) (by kernel_rfl) rfl (hFC) (fun y hy=>by obtain ⟨-,q0,q1⟩:=hy; go_simp) ?_
  simp only [puts]
  refine RC.run_take (i:=12) (.slice (f 0).a n (f 0).cap) rfl (by kernel_rfl) (by kernel_rfl) (by kernel_rfl) rfl (hFC) (fun y hy=>by obtain ⟨-,q0,q1⟩:=hy; go_simp) ?_
  simp only [puts]
  refine RC.run_take (i:=13) (.int .i64 (n:Int)) rfl (by kernel_rfl) (by kernel_rfl) (by kernel_rfl) rfl (hFC) (fun y hy=>by obtain ⟨-,q0,q1⟩:=hy; go_simp) ?_
  simp only [puts]
  refine RC.run_take (i:=14) (.int .i64 ((pn:Int)+1)) rfl (by kernel_rfl) (by kernel_rfl) (by kernel_rfl) rfl (hFC) (fun y hy=>by obtain ⟨-,q0,q1⟩:=hy; go_simp) ?_
  simp only [puts]
  refine RC.run_take (i:=15) (.int .i64 (pn:Int)) rfl (by kernel_rfl) (by kernel_rfl) (by kernel_rfl) rfl (hFC) (fun y hy=>by obtain ⟨-,q0,q1⟩:=hy; go_simp) ?_
  simp only [puts]
  refine RC.run_take (i:=16) (.pointer (some ⟨w.heap.size,0,none⟩)) rfl (by kernel_rfl) (by kernel_rfl) (by kernel_rfl) rfl (hFC) (fun y hy=>by obtain ⟨-,q0,q1⟩:=hy; go_simp) ?_
  simp only [puts]
  refine RC.run_take (i:=17) (.slice (some ⟨b,off,none⟩) m cap) rfl (by kernel_rfl) (by kernel_rfl) (by kernel_rfl) rfl (hFC) (fun y hy=>by obtain ⟨-,q0,q1⟩:=hy; go_simp) ?_
  simp only [puts]
  refine RC.run_take (i:=18) (.pointer (some ⟨b,off,none⟩)) rfl (by kernel_rfl) (by kernel_rfl) (by kernel_rfl) rfl (hFC) (fun y hy=>by obtain ⟨-,q0,q1⟩:=hy; go_simp) ?_
  simp only [puts]
  refine RC.run_take (i:=19) (.slice (f 0).a n (f 0).cap) rfl (by kernel_rfl) (by kernel_rfl) (by kernel_rfl) rfl (hFC) (fun y hy=>by obtain ⟨-,q0,q1⟩:=hy; go_simp) ?_
  simp only [puts]
  refine RC.run_take (i:=20) (.int .i64 (n:Int)) rfl (by kernel_rfl) (by kernel_rfl) (by kernel_rfl) rfl (hFC) (fun y hy=>by obtain ⟨-,q0,q1⟩:=hy; go_simp) ?_
  simp only [puts]
  refine RC.run_only (i:=8) (by kernel_rfl) (RC.at_call (fun u y=>Below w1.heap.size w1 y ∧ ∃ p c,u = .slice p m c∧Lst y (List.range m) p c) rfl rfl (fun u y y1 ⟨h0,p,c,e,h1⟩ hb=>⟨h0.trans (hb.mono h0.size),p,c,e,h1.below hb⟩) (fun u y h=>hFC y h.1) (fun y hy => ?_) ?_)
  ·refine ⟨_, #[.int .i64 (pm:Int), .int .i64 (m:Int)],(Go.Conc.run_call_body (fn:=Try.f50) rfl Try.func50 (by kernel_rfl) (by kernel_rfl)).trans (by simp [Act.eval]),(HLm.out y).mono ?_⟩
   rintro e y1 ⟨⟨p,c,rfl,hl⟩,hb⟩
   exact ⟨_,rfl,hy.trans (hb.mono hy.size),p,c,rfl,hl⟩
  rintro u ⟨_, -,xp,xc,rfl, -⟩
  simp only [puts]
  refine RC.run_mono _ _ _ (fun y=>Below w1.heap.size w1 y∧Lst y (List.range m) xp xc) _ (by
   rintro y ⟨h0,p,c,e,h1⟩
   obtain ⟨rfl,rfl⟩:=slV_inj e
   exact ⟨h0,h1⟩) ?_
  refine RC.run_only (i:=21) (by kernel_rfl) (RC.at_call (fun u y=>Below w1.heap.size w1 y∧Lst y (List.range m) xp xc ∧ ∃ p c,u = .slice p n c∧Lst y (List.range n) p c) rfl rfl (fun u y y1 ⟨h0,h1,p,c,e,h2⟩ hb=>⟨h0.trans (hb.mono h0.size),h1.below hb,p,c,e,h2.below hb⟩) (fun u y h=>hFC y h.1) (fun y hy => ?_) ?_)
  ·obtain ⟨h0,h1⟩:=hy
   refine ⟨_, #[.int .i64 (pn:Int), .int .i64 (n:Int)],(Go.Conc.run_call_body (fn:=Try.f50) rfl Try.func50 (by kernel_rfl) (by kernel_rfl)).trans (by simp [Act.eval]),(HLn.out y).mono ?_⟩
   rintro e y1 ⟨⟨p,c,rfl,hl⟩,hb⟩
   exact ⟨_,rfl,h0.trans (hb.mono h0.size),h1.below hb,p,c,rfl,hl⟩
  rintro u ⟨_, -, -,yp,yc,rfl, -⟩
  simp only [puts]
  refine RC.run_mono _ _ _ (fun y=>Below w1.heap.size w1 y∧Lst y (List.range m) xp xc∧Lst y (List.range n) yp yc) _ (by
   rintro y ⟨h0,h1,p,c,e,h2⟩
   obtain ⟨rfl,rfl⟩:=slV_inj e
   exact ⟨h0,h1,h2⟩) ?_
  refine RC.run_quiet (i:=22) (.slice xp m xc) (by kernel_rfl) rfl rfl (fun y hy=>by go_simp) ?_
  simp only [puts]
  refine RC.run_quiet (i:=23) (.slice yp n yc) (by kernel_rfl) rfl rfl (fun y hy=>by go_simp) ?_
  simp only [puts]
  refine ⟨by kernel_rfl,fun y hy => ?_⟩
  obtain ⟨h0,h1,h2⟩:=hy
  have H1:=Lib.hid h1
  have H2:=Lib.hid h2
  have H0:=Lib.hid h0
  clear h0 h1 h2 hFC s0 sz wm1 wm2 wn1 wn2
  obtain ⟨Y,hY⟩ : ∃ Y:World,Y=y:=⟨_,rfl⟩
  subst hY
  go_wp2_with fail
  go_loopw [5,6,7,8,9,10] (fun rr cc q _ _ _ wr=> ∃ (k:Nat) (rp cp:Option Addr) (rc2 cc2:Nat),k≤8∧q = .int .i64 k∧rr = .slice rp (iterL f f0 k (List.range m,List.range n)).1.length rc2∧cc = .slice cp (iterL f f0 k (List.range m,List.range n)).2.length cc2∧Lst wr (iterL f f0 k (List.range m,List.range n)).1 rp rc2∧Lst wr (iterL f f0 k (List.range m,List.range n)).2 cp cc2∧Below w1.heap.size w1 wr) (fun _ _ q _ _ _ _=>8-(intOf q).toNat)
  case atStart=>exact ⟨0,xp,yp,xc,yc,by omega,rfl,by simp [iterL],by simp [iterL],H1.out,H2.out,H0.out⟩
  case round=>
   obtain ⟨k,rp,cp,rc2,cc2,hk,rfl,rfl,rfl,hl1,hl2,hb⟩:=hrel
   obtain ⟨hs1,hs2,hz1,hz2⟩:=Hok.out k
   by_cases hlt:k<8
   ·have hst:iterL f f0 (k+1) (List.range m,List.range n)=stepL f f0 (iterL f f0 k (List.range m,List.range n)):=rfl
    obtain ⟨R,hRe⟩ : ∃ R,(iterL f f0 k (List.range m,List.range n)).1=R:=⟨_,rfl⟩
    obtain ⟨C,hCe⟩ : ∃ C,(iterL f f0 k (List.range m,List.range n)).2=C:=⟨_,rfl⟩
    have hpair:iterL f f0 k (List.range m,List.range n)=(R,C):=Prod.ext hRe hCe
    rw [hpair] at hst
    rw [hRe] at hl1 hs1 hz1 ⊢
    rw [hCe] at hl2 hs2 hz2 ⊢
    have Hst:=Lib.hid hst
    have hRm : ∀ i ∈ R,i<m:=fun i hi=>List.mem_range.1 (hs1.subset hi)
    have hCn : ∀ j ∈ C,j<n:=fun j hj=>List.mem_range.1 (hs2.subset hj)
    have hRl:R.length≤m:=by have:=hs1.length_le; simpa using this
    have hCl:C.length≤n:=by have:=hs2.length_le; simpa using this
    have hRp:=List.pairwise_lt_range.sublist hs1
    have hCp:=List.pairwise_lt_range.sublist hs2
    have HP:=Lib.hid (rPart_c (some ⟨b,off,none⟩) m n cap f R C rp cp rc2 cc2 wr (HF1.out.below hb) HO.out hl1 hl2 hRm hCn (by omega) (by omega))
    have HRm:=Lib.hid hRm
    have HCn:=Lib.hid hCn
    have HRp:=Lib.hid hRp
    have HCp:=Lib.hid hCp
    have Hl1:=Lib.hid hl1
    have Hl2:=Lib.hid hl2
    have s0:wr.cell? ⟨w.heap.size,0,none⟩=some (.slice (some ⟨b,off,none⟩) m cap):=RowIs.cell (HR1.out.below hb) 0
    have sz:=(HR1.out.below hb).lt
    have Hb:=Lib.hid hb
    obtain ⟨rl,hrl⟩ : ∃ rl,R.length=rl:=⟨_,rfl⟩
    obtain ⟨cl,hcl⟩ : ∃ cl,C.length=cl:=⟨_,rfl⟩
    have Hrl:=Lib.hid hrl
    have Hcl:=Lib.hid hcl
    rw [hrl,hcl] at HP
    rw [hrl] at hRl hz1 ⊢
    rw [hcl] at hCl hz2 ⊢
    clear hst hRm hCn hRp hCp hl1 hl2 hb hs1 hs2 hRe hCe hpair hrl hcl
    go_wp2_with fail
    refine HP.out.mono ?_
    rintro e w2 ⟨⟨tp,tc,f1,rfl,g1,g2,hT1,g3,g4⟩,hb2⟩
    obtain ⟨Z,hZ⟩ : ∃ Z,w2.alloc (.cells #[.slice tp rl tc] 24)=Z:=⟨_,rfl⟩
    have hZb:Below w2.heap.size w2 Z:=by rw [← hZ]; exact Below.alloc1 (Below.refl _ _) _ (Nat.le_refl _)
    have hZr:RowIs Z w2.heap.size #[.slice tp rl tc] 24:=by rw [← hZ]; exact heap_new_at _ _ _ rfl
    have hO1:Okay rl cl f1:=⟨hz1,by omega,hz2,by omega,fun i _=>g3 i,fun i hi j hj=>by
     rw [g4 i]
     exact HO.out.num _ (HRm.out _ (getD_mem (by rw [Hrl.out]; exact hi))) _ (HCn.out _ (getD_mem (by rw [Hcl.out]; exact hj)))⟩
    have HO1:=Lib.hid hO1
    have HT1:=Lib.hid (hT1.below hZb)
    have hn1:spareO (lossA f1) rl cl=needO f C R:=by
     have:=spare_need (f:=f) (A:=lossA f1) (R:=R) (C:=C) HRp.out fun i _ j _=>congrFun (g4 i) j
     rwa [Hrl.out,Hcl.out] at this
    have hn2:spareO (flip (lossA f1)) cl rl=needO f0 R C:=by
     have:=spare_need (f:=f0) (A:=flip (lossA f1)) (R:=C) (C:=R) HCp.out fun i _ j _=>by
      rw [Hf0.out]
      show-lossA f1 j i=_
      rw [show lossA f1 j i=lossA f (R.getD j 0) (C.getD i 0) from congrFun (g4 j) i]
     rwa [Hrl.out,Hcl.out] at this
    have Hn1:=Lib.hid hn1
    have Hn2:=Lib.hid hn2
    have hb3:=bup hb2 hZb
    replace Hl1:=Lib.hid (Hl1.out.below hb3)
    replace Hl2:=Lib.hid (Hl2.out.below hb3)
    replace Hb:=Lib.hid (bup Hb.out hb3)
    have u0:Z.cell? ⟨w2.heap.size,0,none⟩=some (.slice tp rl tc):=RowIs.cell hZr 0
    have uz:w2.heap.size<Z.heap.size:=hZr.lt
    have hFC : ∀ y,Below Z.heap.size Z y→Below Z.heap.size Z y∧y.cell? ⟨w2.heap.size,0,none⟩=some (.slice tp rl tc):=fun y hy=>⟨hy,RowIs.cell (hZr.below hy) 0⟩
    have HZr:=Lib.hid hZr
    have HS1:=Lib.hid (fun (y:World) (hy:Below Z.heap.size Z y)=>rSpare_c tp rl cl tc f1 y (HT1.out.below hy) hO1)
    have HTn:=Lib.hid (fun (y:World) (hy:Below Z.heap.size Z y)=>rTurned_c tp rl cl tc f1 y (HT1.out.below hy) hO1)
    obtain ⟨z1,hz1'⟩ : ∃ z1,spareZ (lossA f1) rl cl=z1:=⟨_,rfl⟩
    obtain ⟨z2,hz2'⟩ : ∃ z2,spareZ (flip (lossA f1)) cl rl=z2:=⟨_,rfl⟩
    have Hz1:=Lib.hid hz1'
    have Hz2:=Lib.hid hz2'
    rw [hz1'] at HS1
    clear hb2 hZb hZr hO1 hT1 hn1 hn2 hb3 g1 g2 g3 g4 s0 sz hz1' hz2'
    go_wp2_with fail
    refine RC.wp_region_runF (C:=fun y=>Below Z.heap.size Z y∧y.cell? ⟨w2.heap.size,0,none⟩=some (.slice tp rl tc)) (fun y=>Below Z.heap.size Z y) (by kernel_rfl) (stable_below Z) (Below.refl _ _) ?_
    change RC.Run _ _ _ _ _ 7 _ _ _
    refine RC.run_take (i:=0) (tabV tp rl tc) rfl (by kernel_rfl) (by kernel_rfl) (by kernel_rfl) rfl (hFC) (fun y hy=>by obtain ⟨-,q0⟩:=hy; go_simp) ?_
    simp only [puts]
    refine RC.run_take (i:=2) (tabV tp rl tc) rfl (by kernel_rfl) (by kernel_rfl) (by kernel_rfl) rfl (hFC) (fun y hy=>by obtain ⟨-,q0⟩:=hy; go_simp) ?_
    simp only [puts]
    refine RC.run_only (i:=1) (by kernel_rfl) (RC.at_call (fun u y=>u = .int .i64 z1∧Below Z.heap.size Z y) rfl rfl (fun u y y1 h hb=>⟨h.1,h.2.trans (hb.mono h.2.size)⟩) (fun u y h=>hFC y h.2) (fun y hy => ?_) ?_)
    ·refine ⟨_, #[tabV tp rl tc],(Go.Conc.run_call_body (fn:=Try.f52) rfl Try.func52 (by kernel_rfl) (by kernel_rfl)).trans (by simp [Act.eval]),(HS1.out y hy).mono ?_⟩
     rintro e y1 ⟨rfl,hb⟩
     exact ⟨_,rfl,rfl,hy.trans (hb.mono hy.size)⟩
    rintro u ⟨_,rfl, -⟩
    simp only [puts]
    refine RC.run_mono _ _ _ (fun y=>Below Z.heap.size Z y) _ (fun y h=>h.2) ?_
    refine RC.run_only (i:=3) (by kernel_rfl) (RC.at_call (fun u y=>Below Z.heap.size Z y ∧ ∃ p c,u=tabV p cl c∧TurnAt f1 rl cl p c y) rfl rfl (fun u y y1 ⟨h0,p,c,e,h2⟩ hb=>⟨h0.trans (hb.mono h0.size),p,c,e,h2.below hb⟩) (fun u y h=>hFC y h.1) (fun y hy => ?_) ?_)
    ·refine ⟨_, #[tabV tp rl tc],(Go.Conc.run_call_body (fn:=Try.f53) rfl Try.func53 (by kernel_rfl) (by kernel_rfl)).trans (by simp [Act.eval]),(HTn.out y hy).mono ?_⟩
     rintro e y1 ⟨⟨p,c,f',rfl,h2⟩,hb⟩
     exact ⟨_,rfl,hy.trans (hb.mono hy.size),p,c,rfl,f',h2⟩
    rintro u ⟨_, -,vp,vc,rfl, -⟩
    simp only [puts]
    refine RC.run_mono _ _ _ (fun y=>Below Z.heap.size Z y∧TurnAt f1 rl cl vp vc y) _ (by
     rintro y ⟨h0,p,c,e,h2⟩
     obtain ⟨rfl,rfl⟩:=tabV_inj e
     exact ⟨h0,h2⟩) ?_
    refine RC.run_only (i:=4) (by kernel_rfl) (RC.at_call (fun u y=>u = .int .i64 z2∧Below Z.heap.size Z y) rfl rfl (fun u y y1 h hb=>⟨h.1,h.2.trans (hb.mono h.2.size)⟩) (fun u y h=>hFC y h.2) (fun y hy => ?_) ?_)
    ·obtain ⟨h0,f2,k1,k2,k3,k4,k5⟩:=hy
     have hS2:=rSpare_c vp cl rl vc f2 y k3 (okay_turn HO1.out k4 k5)
     rw [loss_turn k5,Hz2.out] at hS2
     refine ⟨_, #[tabV vp cl vc],(Go.Conc.run_call_body (fn:=Try.f52) rfl Try.func52 (by kernel_rfl) (by kernel_rfl)).trans (by simp [Act.eval]),hS2.mono ?_⟩
     rintro e y1 ⟨rfl,hb⟩
     exact ⟨_,rfl,rfl,h0.trans (hb.mono h0.size)⟩
    rintro u ⟨_,rfl, -⟩
    simp only [puts]
    refine RC.run_mono _ _ _ (fun y=>Below Z.heap.size Z y) _ (fun y h=>h.2) ?_
    refine RC.run_quiet (i:=5) (.int .i64 z1) (by kernel_rfl) rfl rfl (fun y hy=>by go_simp) ?_
    simp only [puts]
    refine RC.run_quiet (i:=6) (.int .i64 z2) (by kernel_rfl) rfl rfl (fun y hy=>by go_simp) ?_
    simp only [puts]
    refine ⟨by kernel_rfl,fun y hy => ?_⟩
    have Hy:=Lib.hid hy
    replace Hl1:=Lib.hid (Hl1.out.below Hy.out)
    replace Hl2:=Lib.hid (Hl2.out.below Hy.out)
    replace Hb:=Lib.hid (bup Hb.out Hy.out)
    clear hy hFC u0 uz Hy
    cases h1:needO f C R with
    | some i=>
      have hz:z1=(i:Int):=by rw [← Hz1.out]; unfold spareZ; rw [Hn1.out,h1]
      have hil:=(need_two h1).1
      subst hz
      have hs:stepL f f0 (R,C)=(R.eraseIdx i,C):=by simp [stepL,h1]
      have Hs:=Lib.hid (Hst.out.trans hs)
      have HW:=rWithout_c R rp rc2 i y Hl1.out hil (by rw [Hrl.out]; omega)
      rw [Hrl.out] at HW
      have HW:=Lib.hid HW
      have i9:(0:Int)≤(i:Int):=by omega
      clear h1 hil hs
      go_wp2_with fail
      refine HW.out.mono ?_
      rintro e y2 ⟨⟨q,qc,rfl,hq⟩,hb9⟩
      have Hq:=Lib.hid hq
      have Hb9:=Lib.hid hb9
      clear hq hb9
      go_wp2_with fail
      go_roundw
      case rel=>exact ⟨k+1,q,cp,qc,cc2,by omega,by go_num,by rw [Hs.out],by rw [Hs.out,Hcl.out],by rw [Hs.out]; exact Hq.out,by rw [Hs.out]; exact Hl2.out.below Hb9.out,bup Hb.out Hb9.out⟩
      case measure=>simp [intOf]; omega
    | none=>
      have hz:z1 = -1:=by rw [← Hz1.out]; unfold spareZ; rw [Hn1.out,h1]
      subst hz
      cases h2:needO f0 R C with
      | some i=>
        have hz:z2=(i:Int):=by rw [← Hz2.out]; unfold spareZ; rw [Hn2.out,h2]
        have hil:=(need_two h2).1
        subst hz
        have hs:stepL f f0 (R,C)=(R,C.eraseIdx i):=by simp [stepL,h1,h2]
        have Hs:=Lib.hid (Hst.out.trans hs)
        have HW:=rWithout_c C cp cc2 i y Hl2.out hil (by rw [Hcl.out]; omega)
        rw [Hcl.out] at HW
        have HW:=Lib.hid HW
        have i9:(0:Int)≤(i:Int):=by omega
        clear h1 h2 hil hs
        go_wp2_with fail
        refine HW.out.mono ?_
        rintro e y2 ⟨⟨q,qc,rfl,hq⟩,hb9⟩
        have Hq:=Lib.hid hq
        have Hb9:=Lib.hid hb9
        clear hq hb9
        go_wp2_with fail
        go_roundw
        case rel=>exact ⟨k+1,rp,q,rc2,qc,by omega,by go_num,by rw [Hs.out,Hrl.out],by rw [Hs.out],by rw [Hs.out]; exact Hl1.out.below Hb9.out,by rw [Hs.out]; exact Hq.out,bup Hb.out Hb9.out⟩
        case measure=>simp [intOf]; omega
      | none=>
        have hz:z2 = -1:=by rw [← Hz2.out]; unfold spareZ; rw [Hn2.out,h2]
        subst hz
        have hs:stepL f f0 (R,C)=(R,C):=by simp [stepL,h1,h2]
        have Hs:=Lib.hid (Hst.out.trans hs)
        clear h1 h2 hs
        go_wp2_with fail
        go_roundw
        case rel=>exact ⟨k+1,rp,cp,rc2,cc2,by omega,by go_num,by rw [Hs.out,Hrl.out],by rw [Hs.out,Hcl.out],by rw [Hs.out]; exact Hl1.out,by rw [Hs.out]; exact Hl2.out,Hb.out⟩
        case measure=>simp [intOf]; omega
   ·obtain rfl:k=8:=by omega
    have Hl1:=Lib.hid hl1
    have Hl2:=Lib.hid hl2
    have Hb:=Lib.hid (bup HB1.out hb)
    clear hl1 hl2 hb
    go_wp2_with fail
    refine bodyPost_ret (v:= .tuple #[.slice rp (iterL f f0 8 (List.range m,List.range n)).1.length rc2, .slice cp (iterL f f0 8 (List.range m,List.range n)).2.length cc2, .int .i64 0]) (by simp [results,Try.results39,go_sem]) rfl ⟨.inr ⟨HE.out,rp,rc2,cp,cc2,rfl,Hl1.out,Hl2.out⟩,Hb.out⟩
 ·have t0:(tableE m f != 0)=true:=by simpa using hE
  have HE:=Lib.hid hE
  clear hE
  obtain ⟨E,hE⟩ : ∃ E,tableE m f=E:=⟨_,rfl⟩
  rw [hE] at HT t0 HE ⊢
  clear hE
  go_enter Try.func39,Try.ntmps39
  go_wp2_with fail
  refine (HT.out _ HF.out).mono ?_
  rintro e w1 ⟨rfl,hb1⟩
  clear hW
  have s0:w1.cell? ⟨w.heap.size,0,none⟩=some (.slice a m cap):=RowIs.cell (HR.out.below hb1) 0
  have sz:=(HR.out.below hb1).lt
  have Hb1:=Lib.hid hb1
  clear hb1 r0
  go_wp2_with fail
  refine (HT.out _ (HF.out.below Hb1.out)).mono ?_
  rintro e w3 ⟨rfl,hb3⟩
  go_wp2_with fail
  refine bodyPost_ret (v:= .tuple #[.slice none 0 0, .slice none 0 0, .int .i64 E]) (by simp [results,Try.results39,go_sem]) rfl ⟨.inl ⟨HE.out,rfl⟩,bup HB.out (bup Hb1.out hb3)⟩
end Go.Proofs.Ytkbbhihndigmeaa
