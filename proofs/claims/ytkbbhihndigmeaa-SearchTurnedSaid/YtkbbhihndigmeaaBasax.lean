/- Contracts of layer 3: the rows and columns that are used, by the document. Written by tools/rused2.py. -/
import Derived.Shelf.Abstract
import Derived.Shelf.RegionOpen
import Derived.Conc.Own4
import Derived.Test.YtkbbhihndigmeaaProg
import Derived.Test.YtkbbhihndigmeaaBasaa
import Derived.Test.YtkbbhihndigmeaaBasac
import Derived.Test.YtkbbhihndigmeaaBasae
import Derived.Test.YtkbbhihndigmeaaBasaf
import Derived.Test.YtkbbhihndigmeaaBasaw
namespace Go.Proofs.Ytkbbhihndigmeaa
open Go Go.RowKit Go.Shelf
def TwoL (X Y:List Nat) (E:Int) (e:Ending) (w':World):Prop:= ∃ x c y d,e = .returned (.tuple #[.slice x X.length c, .slice y Y.length d, .int .i64 E])∧Lst w' X x c∧Lst w' Y y d
theorem slV_inj {p q:Option Addr} {n c d:Nat} (h:(Value.slice p n c) = .slice q n d):p=q∧c=d:=by
 injection h with h1 _ h3
 exact ⟨h1,h3⟩
theorem tabV_inj {p q:Option Addr} {n c d:Nat} (h:tabV p n c=tabV q n d):p=q∧c=d:=by
 injection h with h
 injection h with h
 injection h with h _
 exact slV_inj h
def TurnAt (f:Nat→Row3) (m n:Nat) (p:Option Addr) (c:Nat) (y:World):Prop:= ∃ f',n≤c∧c≤9223372036854775807∧Tab y p n f'∧(∀ j,j<n→(f' j).n=m) ∧ ∀ j,(f' j).g=fun i=> - (f i).g j
theorem TurnAt.below {f:Nat→Row3} {m n:Nat} {p:Option Addr} {c:Nat} {y y':World} (h:TurnAt f m n p c y) (hb:Below y.heap.size y y'):TurnAt f m n p c y':=by
 obtain ⟨f',h1,h2,h3,h4⟩:=h
 exact ⟨f',h1,h2,h3.below hb,h4⟩
set_option maxRecDepth 100000 in
set_option maxHeartbeats 16000000 in
theorem rUsed_c (a:Option Addr) (m cap:Nat) (f:Nat→Row3) (w:World) (hf:Tab w a m f) (hm:m≤1048576) :
 Calls Try.prog 37 #[tabV a m cap] w fun e w'=>((tableE m f ≠ 0∧e = .returned (.tuple #[.slice none 0 0, .slice none 0 0, .int .i64 (tableE m f)]))∨(tableE m f=0∧TwoL (usedC (lossA f) m (f 0).n) (usedC (flip (lossA f)) (f 0).n m) 0 e w'))∧Below w.heap.size w w':=by
 obtain ⟨W,hW⟩ : ∃ W,w.alloc (.cells #[.slice a m cap] 24)=W:=⟨_,rfl⟩
 have hB:Below w.heap.size w W:=by rw [← hW]; exact Below.alloc1 (Below.refl _ _) _ (Nat.le_refl _)
 have hR:RowIs W w.heap.size #[.slice a m cap] 24:=by rw [← hW]; exact heap_new_at _ _ _ rfl
 have r0:W.cell? ⟨w.heap.size,0,none⟩=some (.slice a m cap):=RowIs.cell hR 0
 have rz:w.heap.size<W.heap.size:=hR.lt
 have HF:=Lib.hid (hf.below hB)
 have HT:=Lib.hid (fun (x:World) (h:Tab x a m f)=>rcheckTable_c a m cap f x h hm)
 have HR:=Lib.hid hR
 have HB:=Lib.hid hB
 clear hf hB hR
 by_cases hE:tableE m f=0
 ·have hO:=okay_of hE
  obtain ⟨n,hn⟩ : ∃ n,(f 0).n=n:=⟨_,rfl⟩
  rw [hn] at hO ⊢
  have HU:=Lib.hid (fun (x:World) (h1:Tab x a m f)=>rUsedOf_c a m n cap f x h1 hO)
  have HTn:=Lib.hid (fun (x:World) (h1:Tab x a m f)=>rTurned_c a m n cap f x h1 hO)
  have HO:=Lib.hid hO
  have HE:=Lib.hid hE
  rw [hE] at HT
  obtain ⟨X,hX⟩ : ∃ X,usedC (lossA f) m n=X:=⟨_,rfl⟩
  obtain ⟨Y,hY⟩ : ∃ Y,usedC (flip (lossA f)) n m=Y:=⟨_,rfl⟩
  rw [hX] at HU
  rw [hX,hY]
  have HY:=Lib.hid hY
  clear hE hO hX hY hn
  go_enter Try.func37,Try.ntmps37
  go_wp2_with fail
  refine (HT.out _ HF.out).mono ?_
  rintro e w1 ⟨rfl,hb1⟩
  clear hW
  have s0:w1.cell? ⟨w.heap.size,0,none⟩=some (.slice a m cap):=RowIs.cell (HR.out.below hb1) 0
  have sz:=(HR.out.below hb1).lt
  have hFC : ∀ y,Below w1.heap.size w1 y→Below w1.heap.size w1 y∧y.cell? ⟨w.heap.size,0,none⟩=some (.slice a m cap):=fun y hy=>⟨hy,RowIs.cell ((HR.out.below hb1).below hy) 0⟩
  have HF1:=Lib.hid (HF.out.below hb1)
  have HB1:=Lib.hid (bup HB.out hb1)
  clear hb1 r0 rz
  go_wp2_with fail
  refine RC.wp_region_runF (C:=fun y=>Below w1.heap.size w1 y∧y.cell? ⟨w.heap.size,0,none⟩=some (.slice a m cap)) (fun y=>Below w1.heap.size w1 y) (by kernel_rfl) (stable_below w1) (Below.refl _ _) ?_
  change RC.Run _ _ _ _ _ 8 _ _ _
  refine RC.run_take (i:=0) (tabV a m cap) rfl (by kernel_rfl) (by kernel_rfl) (by kernel_rfl) rfl (hFC) (fun y hy=>by obtain ⟨-,q0⟩:=hy; go_simp) ?_
  simp only [puts]
  refine RC.run_take (i:=2) (tabV a m cap) rfl (by kernel_rfl) (by kernel_rfl) (by kernel_rfl) rfl (hFC) (fun y hy=>by obtain ⟨-,q0⟩:=hy; go_simp) ?_
  simp only [puts]
  refine RC.run_only (i:=1) (by kernel_rfl) (RC.at_call (fun u y=>Below w1.heap.size w1 y ∧ ∃ p c,u = .slice p X.length c∧Lst y X p c) rfl rfl (fun u y y1 ⟨h0,p,c,e,h1⟩ hb=>⟨h0.trans (hb.mono h0.size),p,c,e,h1.below hb⟩) (fun u y h=>hFC y h.1) (fun y hy => ?_) ?_)
  ·refine ⟨_, #[tabV a m cap],(Go.Conc.run_call_body (fn:=Try.f77) rfl Try.func77 (by kernel_rfl) (by kernel_rfl)).trans (by simp [Act.eval]),(HU.out y (HF1.out.below hy)).mono ?_⟩
   rintro e y1 ⟨⟨p,c,rfl,hl⟩,hb⟩
   exact ⟨_,rfl,hy.trans (hb.mono hy.size),p,c,rfl,hl⟩
  rintro u ⟨_, -,xp,xc,rfl, -⟩
  simp only [puts]
  refine RC.run_mono _ _ _ (fun y=>Below w1.heap.size w1 y∧Lst y X xp xc) _ (by
   rintro y ⟨h0,p,c,e,h1⟩
   obtain ⟨rfl,rfl⟩:=slV_inj e
   exact ⟨h0,h1⟩) ?_
  refine RC.run_only (i:=3) (by kernel_rfl) (RC.at_call (fun u y=>Below w1.heap.size w1 y∧Lst y X xp xc ∧ ∃ p c,u=tabV p n c∧TurnAt f m n p c y) rfl rfl (fun u y y1 ⟨h0,h1,p,c,e,h2⟩ hb=>⟨h0.trans (hb.mono h0.size),h1.below hb,p,c,e,h2.below hb⟩) (fun u y h=>hFC y h.1) (fun y hy => ?_) ?_)
  ·obtain ⟨h0,h1⟩:=hy
   refine ⟨_, #[tabV a m cap],(Go.Conc.run_call_body (fn:=Try.f53) rfl Try.func53 (by kernel_rfl) (by kernel_rfl)).trans (by simp [Act.eval]),(HTn.out y (HF1.out.below h0)).mono ?_⟩
   rintro e y1 ⟨⟨p,c,f',rfl,h2⟩,hb⟩
   exact ⟨_,rfl,h0.trans (hb.mono h0.size),h1.below hb,p,c,rfl,f',h2⟩
  rintro u ⟨_, -, -,tp,tc,rfl, -⟩
  simp only [puts]
  refine RC.run_mono _ _ _ (fun y=>Below w1.heap.size w1 y∧Lst y X xp xc∧TurnAt f m n tp tc y) _ (by
   rintro y ⟨h0,h1,p,c,e,h2⟩
   obtain ⟨rfl,rfl⟩:=tabV_inj e
   exact ⟨h0,h1,h2⟩) ?_
  refine RC.run_only (i:=4) (by kernel_rfl) (RC.at_call (fun u y=>Below w1.heap.size w1 y∧Lst y X xp xc ∧ ∃ p c,u = .slice p Y.length c∧Lst y Y p c) rfl rfl (fun u y y1 ⟨h0,h1,p,c,e,h2⟩ hb=>⟨h0.trans (hb.mono h0.size),h1.below hb,p,c,e,h2.below hb⟩) (fun u y h=>hFC y h.1) (fun y hy => ?_) ?_)
  ·obtain ⟨h0,h1,f',k1,k2,k3,k4,k5⟩:=hy
   have hU2:=rUsedOf_c tp n m tc f' y k3 (okay_turn HO.out k4 k5)
   rw [loss_turn k5,HY.out] at hU2
   refine ⟨_, #[tabV tp n tc],(Go.Conc.run_call_body (fn:=Try.f77) rfl Try.func77 (by kernel_rfl) (by kernel_rfl)).trans (by simp [Act.eval]),hU2.mono ?_⟩
   rintro e y1 ⟨⟨p,c,rfl,hl⟩,hb⟩
   exact ⟨_,rfl,h0.trans (hb.mono h0.size),h1.below hb,p,c,rfl,hl⟩
  rintro u ⟨_, -, -,yp,yc,rfl, -⟩
  simp only [puts]
  refine RC.run_mono _ _ _ (fun y=>Below w1.heap.size w1 y∧Lst y X xp xc∧Lst y Y yp yc) _ (by
   rintro y ⟨h0,h1,p,c,e,h2⟩
   obtain ⟨rfl,rfl⟩:=slV_inj e
   exact ⟨h0,h1,h2⟩) ?_
  refine RC.run_quiet (i:=5) (.slice xp X.length xc) (by kernel_rfl) rfl rfl (fun y hy=>by go_simp) ?_
  simp only [puts]
  refine RC.run_quiet (i:=6) (.slice yp Y.length yc) (by kernel_rfl) rfl rfl (fun y hy=>by go_simp) ?_
  simp only [puts]
  refine RC.run_quiet (i:=7) (.int .i64 0) (by kernel_rfl) rfl rfl (fun y hy=>by go_simp) ?_
  simp only [puts]
  refine ⟨by kernel_rfl,fun y hy => ?_⟩
  obtain ⟨h0,h1,h2⟩:=hy
  have H1:=Lib.hid h1
  have H2:=Lib.hid h2
  have H0:=Lib.hid (bup HB1.out h0)
  clear h0 h1 h2 hFC s0 sz
  go_wp2_with fail
  refine bodyPost_ret (v:= .tuple #[.slice xp X.length xc, .slice yp Y.length yc, .int .i64 0]) (by simp [results,Try.results37,go_sem]) rfl ⟨.inr ⟨HE.out,xp,xc,yp,yc,rfl,H1.out,H2.out⟩,H0.out⟩
 ·have t0:(tableE m f != 0)=true:=by simpa using hE
  have HE:=Lib.hid hE
  clear hE
  obtain ⟨E,hE⟩ : ∃ E,tableE m f=E:=⟨_,rfl⟩
  rw [hE] at HT t0 HE ⊢
  clear hE
  go_enter Try.func37,Try.ntmps37
  go_wp2_with fail
  refine (HT.out _ HF.out).mono ?_
  rintro e w1 ⟨rfl,hb1⟩
  clear hW
  have s0:w1.cell? ⟨w.heap.size,0,none⟩=some (.slice a m cap):=RowIs.cell (HR.out.below hb1) 0
  have sz:=(HR.out.below hb1).lt
  have Hb1:=Lib.hid hb1
  clear hb1 r0
  go_wp2_with fail
  refine (HT.out _ (HF.out.below Hb1.out)).mono ?_
  rintro e w3 ⟨rfl,hb3⟩
  go_wp2_with fail
  refine bodyPost_ret (v:= .tuple #[.slice none 0 0, .slice none 0 0, .int .i64 E]) (by simp [results,Try.results37,go_sem]) rfl ⟨.inl ⟨HE.out,rfl⟩,bup HB.out (bup Hb1.out hb3)⟩
end Go.Proofs.Ytkbbhihndigmeaa
