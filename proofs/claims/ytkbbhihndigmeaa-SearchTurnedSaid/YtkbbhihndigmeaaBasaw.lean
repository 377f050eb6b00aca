/- Contracts of layer 3: the rows that are used, by the document. -/
import Derived.Shelf.Abstract
import Derived.Shelf.RegionOpen
import Derived.Conc.Own4
import Derived.Test.YtkbbhihndigmeaaProg
import Derived.Test.YtkbbhihndigmeaaBasaa
import Derived.Test.YtkbbhihndigmeaaBasar
import Derived.Test.YtkbbhihndigmeaaBasac
import Derived.Test.YtkbbhihndigmeaaBasav
namespace Go.Proofs.Ytkbbhihndigmeaa
open Go Go.RowKit Go.Shelf
abbrev Z2:Obj:= .cells #[.int .i64 0, .int .i64 0] 30 (0,0)
def PlansAt (A:Nat→Nat→Int) (m n:Nat) (u:Value) (y:World):Prop:= ∃ N p c F,u = .slice p N c∧Tab y p N F∧(∀ i,(F i).n=m)∧PlanSet A m n N F∧N≤256∧0<N ∧ ∀ i,i<N → ∃ g,(F i).a=some ⟨g,0,none⟩
theorem PlansAt.below {A:Nat→Nat→Int} {m n:Nat} {u:Value} {y y':World} (h:PlansAt A m n u y) (hb:Below y.heap.size y y'):PlansAt A m n u y':=by
 obtain ⟨N,p,c,F,h1,h2,h3⟩:=h
 exact ⟨N,p,c,F,h1,h2.below hb,h3⟩
def PlansOff (A:Nat→Nat→Int) (m n q:Nat) (u:Value) (y:World):Prop:= ∃ N p c F,u = .slice p N c∧Tab y p N F∧(∀ i,(F i).n=m)∧PlanSet A m n N F∧N≤256∧(∀ b off,p=some ⟨b,off,none⟩→b ≠ q) ∧ ∀ i,i<N → ∃ g,g ≠ q∧(F i).a=some ⟨g,0,none⟩
theorem PlansOff.below {A:Nat→Nat→Int} {m n q:Nat} {u:Value} {y y':World} (h:PlansOff A m n q u y) (hb:Below y.heap.size y y'):PlansOff A m n q u y':=by
 obtain ⟨N,p,c,F,h1,h2,h3⟩:=h
 exact ⟨N,p,c,F,h1,h2.below hb,h3⟩
theorem PlansAt.off {A:Nat→Nat→Int} {m n:Nat} {u:Value} {y y':World} (hm:0<m) (h:PlansAt A m n u y) (hb:Below y.heap.size y y'):PlansOff A m n y.heap.size u y':=by
 obtain ⟨N,p,c,F,h1,h2,h3,h4,h5,h6,h7⟩:=h
 refine ⟨N,p,c,F,h1,h2.below hb,h3,h4,h5,fun b off e => ?_,fun i hi => ?_⟩
 ·obtain ⟨b',off',e',hlt, -⟩:=Tab.at h2 0 h6
  rw [e] at e'
  cases e'
  omega
 ·obtain ⟨g,hg⟩:=h7 i hi
  obtain ⟨b',off',e',hlt, -⟩:=Cells.at (h2.2 i hi) 0 (by rw [h3]; exact hm)
  rw [hg] at e'
  cases e'
  exact ⟨g,by omega,hg⟩
theorem tab_far {w:World} {a:Option Addr} {n:Nat} {f:Nat→Row3} {g:Nat} (h:Tab w a n f) (h1 : ∀ b off,a=some ⟨b,off,none⟩→b ≠ g) (h2 : ∀ i,i<n → ∀ b off,(f i).a=some ⟨b,off,none⟩→b ≠ g) (o:Nat) (v:Value):Tab (w.setCell ⟨g,o,none⟩ v) a n f:=by
 have hc : ∀ (a:Option Addr) (k:Nat) (q:Nat→Value),(∀ b off,a=some ⟨b,off,none⟩→b ≠ g)→Cells w a k q→Cells (w.setCell ⟨g,o,none⟩ v) a k q:=fun a k q hn hq=>by
  rcases hq with h0 | ⟨b,off,rfl,hz,hc⟩
  ·exact .inl h0
  ·refine .inr ⟨b,off,rfl,by simpa [World.setCell] using hz,fun i hi => ?_⟩
   rw [← hc i hi]
   have hb:=hn b off rfl
   show World.cell? _ _=World.cell? _ _
   unfold World.cell?
   rw [show (w.setCell ⟨g,o,none⟩ v).heap[b]? = w.heap[b]? from Below.heap_setCell _ _ _ _ hb]
 exact ⟨hc _ _ _ h1 h.1,fun i hi=>hc _ _ _ (h2 i hi) (h.2 i hi)⟩
theorem PlansOff.store {A:Nat→Nat→Int} {m n q:Nat} {u:Value} {y:World} (h:PlansOff A m n q u y) (o:Nat) (v:Value):PlansOff A m n q u (y.setCell ⟨q,o,none⟩ v):=by
 obtain ⟨N,p,c,F,h1,h2,h3,h4,h5,h6,h7⟩:=h
 refine ⟨N,p,c,F,h1,tab_far h2 h6 (fun i hi b off e => ?_) o v,h3,h4,h5,h6,h7⟩
 obtain ⟨g,hg,e2⟩:=h7 i hi
 rw [e] at e2
 cases e2
 exact hg
theorem cutH {p:Prop} (H:Value→Nat→World→Prop) {Q2:Value→Nat→World→Prop} (main:(∀ u b y,H u b y→Q2 u b y)→p) (fin : ∀ u b y,H u b y→Q2 u b y):p:=main fin
set_option maxRecDepth 100000 in
set_option maxHeartbeats 16000000 in
theorem rUsedOf_c (a:Option Addr) (m n cap:Nat) (f:Nat→Row3) (w:World) (hf:Tab w a m f) (hO:Okay m n f) :
 Calls Try.prog 77 #[tabV a m cap] w fun e w'=>(∃ p c,e = .returned (.slice p (usedC (lossA f) m n).length c)∧Lst w' (usedC (lossA f) m n) p c)∧Below w.heap.size w w':=by
 obtain ⟨W,hW⟩ : ∃ W,w.alloc (.cells #[.slice a m cap] 24)=W:=⟨_,rfl⟩
 have hB:Below w.heap.size w W:=by rw [← hW]; exact Below.alloc1 (Below.refl _ _) _ (Nat.le_refl _)
 have hRw:RowIs W w.heap.size #[.slice a m cap] 24:=by rw [← hW]; exact heap_new_at _ _ _ rfl
 have r0:W.cell? ⟨w.heap.size,0,none⟩=some (.slice a m cap):=RowIs.cell hRw 0
 have rz:w.heap.size<W.heap.size:=hRw.lt
 have HF:=Lib.hid (fun (x:World) (h:Below w.heap.size w x)=>hf.below h)
 have HO:=Lib.hid hO
 have HR:=Lib.hid hRw
 have HB:=Lib.hid hB
 have hFC : ∀ y,Below W.heap.size W y→Below W.heap.size W y∧y.cell? ⟨w.heap.size,0,none⟩=some (.slice a m cap):=fun y hy=>⟨hy,RowIs.cell (hRw.below hy) 0⟩
 obtain ⟨v1,hv1⟩ : ∃ v,(valOf (lossA f) m n).1=v:=⟨_,rfl⟩
 obtain ⟨v2,hv2⟩ : ∃ v,(valOf (lossA f) m n).2=v:=⟨_,rfl⟩
 have Hv1:=Lib.hid hv1
 have Hv2:=Lib.hid hv2
 have HP:=Lib.hid (fun y (hy:Below W.heap.size W y)=>rPlans_c a m n cap f y (hf.below (hB.trans (hy.mono hB.size))) hO)
 have HV:=Lib.hid (fun y (hy:Below W.heap.size W y)=>rValueOf_c a m n cap f y (hf.below (hB.trans (hy.mono hB.size))) hO)
 rw [hv1,hv2] at HV
 have hm0:=hO.m1
 clear hf hO hRw hB hv1 hv2
 go_enter Try.func77,Try.ntmps77
 go_wp2_with fail
 apply cutH (fun u b4 y=>W.heap.size≤b4∧Below W.heap.size W y∧PlansOff (lossA f) m n b4 u y∧RowIs y b4 #[.int .i64 v1, .int .i64 v2] 30)
 case main=>
  intro fin
  refine RC.wp_region_runF (C:=fun y=>Below W.heap.size W y∧y.cell? ⟨w.heap.size,0,none⟩=some (.slice a m cap)) (fun y=>Below W.heap.size W y) (by kernel_rfl) (stable_below W) (Below.refl _ _) ?_
  change RC.Run _ _ _ _ _ 7 _ _ _
  refine RC.run_take (i:=0) (tabV a m cap) rfl (by kernel_rfl) (by kernel_rfl) (by kernel_rfl) rfl (hFC) (fun y hy=>by obtain ⟨-,q0⟩:=hy; go_simp) ?_
  simp only [puts]
  refine RC.run_take (i:=2) (tabV a m cap) rfl (by kernel_rfl) (by kernel_rfl) (by kernel_rfl) rfl (hFC) (fun y hy=>by obtain ⟨-,q0⟩:=hy; go_simp) ?_
  simp only [puts]
  refine RC.run_both (i:=1) (j:=4) (by kernel_rfl) ?_ ?_
  ·skip
   refine RC.at_call (fun u y=>Below W.heap.size W y∧PlansAt (lossA f) m n u y) rfl rfl (fun u y y1 h hb1=>by
    obtain ⟨h0,h1⟩:=h
    exact ⟨h0.trans (hb1.mono h0.size),h1.below hb1⟩) (fun u y h=>hFC y h.1) (fun y hy=>by
    have h0:=hy
    refine ⟨_, #[tabV a m cap],(Go.Conc.run_call_body (fn:=Try.f91) rfl Try.func91 (by kernel_rfl) (by kernel_rfl)).trans (by simp [Act.eval]),(HP.out y h0).mono ?_⟩
    rintro e y1 ⟨⟨N,p,c,F,rfl,g1,g2,g3,g4,g5,g6⟩,hb1⟩
    exact ⟨_,rfl,h0.trans (hb1.mono h0.size),⟨N,p,c,F,rfl,g1,g2,g3,g4,set_some HO.out g3,fun i hi=>let ⟨g,_,e⟩:=g6 i hi; ⟨g,e⟩⟩⟩) ?_
   rintro u -
   simp only [puts]
   refine RC.run_both (i:=3) (j:=4) (by kernel_rfl) ?_ ?_
   ·skip
    refine RC.at_call (fun x y=>x = .agg #[.int .i64 v1, .int .i64 v2]∧Below W.heap.size W y∧PlansAt (lossA f) m n u y) rfl rfl (fun x y y1 h hb1=>by
     obtain ⟨hx,h0,h1⟩:=h
     exact ⟨hx,h0.trans (hb1.mono h0.size),h1.below hb1⟩) (fun x y h=>hFC y h.2.1) (fun y hy=>by
     obtain ⟨h0,h1⟩:=hy
     refine ⟨_, #[tabV a m cap],(Go.Conc.run_call_body (fn:=Try.f71) rfl Try.func71 (by kernel_rfl) (by kernel_rfl)).trans (by simp [Act.eval]),(HV.out y h0).mono ?_⟩
     rintro e y1 ⟨rfl,hb1⟩
     exact ⟨_,rfl,rfl,h0.trans (hb1.mono h0.size),h1.below hb1⟩) ?_
    rintro _ ⟨_,rfl, -⟩
    simp only [puts]
    refine RC.run_mono _ _ _ (fun y=>Below W.heap.size W y∧PlansAt (lossA f) m n u y) _ (fun y h=>h.2) ?_
    refine RC.run_only (i:=4) (by kernel_rfl) (RC.at_upd (fun v y=> ∃ b4,v=ptrTo b4∧W.heap.size≤b4∧Below W.heap.size W y∧PlansOff (lossA f) m n b4 u y∧y.heap[b4]? = some Z2) rfl rfl (fun v y y1 ⟨b4,e,k0,k1,k2,k3⟩ hb1=>⟨b4,e,k0,k1.trans (hb1.mono k1.size),k2.below hb1,(hb1.block b4 (heap_size_lt k3)).trans k3⟩) (fun v y ⟨_,_,_,k,_⟩=>hFC y k) (fun y hy=>by
     obtain ⟨h0,h1⟩:=hy
     have hb1:=(Below.refl _ y).alloc (Nat.le_refl _) Z2
     exact ⟨_,y.alloc Z2,by go_simp,y.heap.size,rfl,h0.size,h0.trans (hb1.mono h0.size),h1.off hm0 hb1,World.alloc_heap_new y Z2⟩) ?_)
    rintro v ⟨_,b4,rfl,hb4, -⟩
    simp only [puts]
    refine RC.run_mono _ _ _ (fun y=>Below W.heap.size W y∧PlansOff (lossA f) m n b4 u y∧y.heap[b4]? = some Z2) _ (by
     rintro y ⟨b5,e, -,k1,k2,k3⟩
     obtain rfl:=ptrTo_inj _ _ e
     exact ⟨k1,k2,k3⟩) ?_
    refine RC.run_quiet (i:=5) (u) (by kernel_rfl) rfl rfl (fun y hy=>by go_simp) ?_
    simp only [puts]
    refine RC.run_only (i:=6) (by kernel_rfl) (RC_at_store (fun y=>Below W.heap.size W y∧PlansOff (lossA f) m n b4 u y∧RowIs y b4 #[.int .i64 v1, .int .i64 v2] 30) rfl rfl (fun y y1 h hb=>⟨h.1.trans (hb.mono h.1.size),h.2.1.below hb,h.2.2.below hb⟩) (fun y h=>hFC y h.1) (fun y hy => ?_) ?_)
    ·obtain ⟨h0,h1,h4⟩:=hy
     have r4:RowIs y b4 #[.int .i64 0, .int .i64 0] 30:=h4
     have q0:=r4.cell 0
     have q1:=r4.cell 1
     have z0:=r4.frozen 0
     have z1:=r4.frozen 1
     have qz:=r4.lt
     simp at q0 q1
     refine ⟨(y.setCell ⟨b4,0,none⟩ (.int .i64 v1)).setCell ⟨b4,1,none⟩ (.int .i64 v2),by go_simp,(h0.setCell (p:=⟨b4,0,none⟩) hb4 _).setCell (p:=⟨b4,1,none⟩) hb4 _,?_,(r4.set 0 (.int .i64 v1)).set 1 (.int .i64 v2)⟩
     exact (h1.store 0 _).store 1 _
    simp only [puts]
    refine ⟨by kernel_rfl,fun y hy => ?_⟩
    exact fin u b4 y ⟨hb4,hy⟩
   ·skip
    refine RC.at_upd (fun v y=> ∃ b4,v=ptrTo b4∧W.heap.size≤b4∧Below W.heap.size W y∧PlansOff (lossA f) m n b4 u y∧y.heap[b4]? = some Z2) rfl rfl (fun v y y1 ⟨b4,e,k0,k1,k2,k3⟩ hb1=>⟨b4,e,k0,k1.trans (hb1.mono k1.size),k2.below hb1,(hb1.block b4 (heap_size_lt k3)).trans k3⟩) (fun v y ⟨_,_,_,k,_⟩=>hFC y k) (fun y hy=>by
     obtain ⟨h0,h1⟩:=hy
     have hb1:=(Below.refl _ y).alloc (Nat.le_refl _) Z2
     exact ⟨_,y.alloc Z2,by go_simp,y.heap.size,rfl,h0.size,h0.trans (hb1.mono h0.size),h1.off hm0 hb1,World.alloc_heap_new y Z2⟩) ?_
    rintro v ⟨_,b4,rfl,hb4, -⟩
    simp only [puts]
    refine RC.run_mono _ _ _ (fun y=>Below W.heap.size W y∧PlansOff (lossA f) m n b4 u y∧y.heap[b4]? = some Z2) _ (by
     rintro y ⟨b5,e, -,k1,k2,k3⟩
     obtain rfl:=ptrTo_inj _ _ e
     exact ⟨k1,k2,k3⟩) ?_
    refine RC.run_only (i:=3) (by kernel_rfl) (RC.at_call (fun x y=>x = .agg #[.int .i64 v1, .int .i64 v2]∧Below W.heap.size W y∧PlansOff (lossA f) m n b4 u y∧y.heap[b4]? = some Z2) rfl rfl (fun x y y1 h hb1=>by
     obtain ⟨hx,h0,h1,h4⟩:=h
     exact ⟨hx,h0.trans (hb1.mono h0.size),h1.below hb1,(hb1.block b4 (heap_size_lt h4)).trans h4⟩) (fun x y h=>hFC y h.2.1) (fun y hy=>by
     obtain ⟨h0,h1,h4⟩:=hy
     refine ⟨_, #[tabV a m cap],(Go.Conc.run_call_body (fn:=Try.f71) rfl Try.func71 (by kernel_rfl) (by kernel_rfl)).trans (by simp [Act.eval]),(HV.out y h0).mono ?_⟩
     rintro e y1 ⟨rfl,hb1⟩
     exact ⟨_,rfl,rfl,h0.trans (hb1.mono h0.size),h1.below hb1,(hb1.block b4 (heap_size_lt h4)).trans h4⟩) ?_)
    rintro _ ⟨_,rfl, -⟩
    simp only [puts]
    refine RC.run_mono _ _ _ (fun y=>Below W.heap.size W y∧PlansOff (lossA f) m n b4 u y∧y.heap[b4]? = some Z2) _ (fun y h=>h.2) ?_
    refine RC.run_quiet (i:=5) (u) (by kernel_rfl) rfl rfl (fun y hy=>by go_simp) ?_
    simp only [puts]
    refine RC.run_only (i:=6) (by kernel_rfl) (RC_at_store (fun y=>Below W.heap.size W y∧PlansOff (lossA f) m n b4 u y∧RowIs y b4 #[.int .i64 v1, .int .i64 v2] 30) rfl rfl (fun y y1 h hb=>⟨h.1.trans (hb.mono h.1.size),h.2.1.below hb,h.2.2.below hb⟩) (fun y h=>hFC y h.1) (fun y hy => ?_) ?_)
    ·obtain ⟨h0,h1,h4⟩:=hy
     have r4:RowIs y b4 #[.int .i64 0, .int .i64 0] 30:=h4
     have q0:=r4.cell 0
     have q1:=r4.cell 1
     have z0:=r4.frozen 0
     have z1:=r4.frozen 1
     have qz:=r4.lt
     simp at q0 q1
     refine ⟨(y.setCell ⟨b4,0,none⟩ (.int .i64 v1)).setCell ⟨b4,1,none⟩ (.int .i64 v2),by go_simp,(h0.setCell (p:=⟨b4,0,none⟩) hb4 _).setCell (p:=⟨b4,1,none⟩) hb4 _,?_,(r4.set 0 (.int .i64 v1)).set 1 (.int .i64 v2)⟩
     exact (h1.store 0 _).store 1 _
    simp only [puts]
    refine ⟨by kernel_rfl,fun y hy => ?_⟩
    exact fin u b4 y ⟨hb4,hy⟩
  ·skip
   refine RC.at_make (w0:=W) (t:=4) (z:=Z2) ptrTo (fun _=>False) ptrTo_inj rfl rfl rfl (fun y _=>by go_simp) (fun y h=>(h).size) (fun _ _ _ h=>h.elim) ?_
   intro b4 hb4 _
   simp only [Act.put,List.setIfInBounds_toArray,List.set_cons_zero,List.set_cons_succ]
   refine RC.run_mono _ _ _ (fun y=>Below W.heap.size W y∧y.heap[b4]? = some Z2) _ (fun y h=>⟨h.1,h.2⟩) ?_
   refine RC.run_only (i:=1) (by kernel_rfl) (RC.at_call (fun u y=>Below W.heap.size W y∧PlansOff (lossA f) m n b4 u y∧y.heap[b4]? = some Z2) rfl rfl (fun u y y1 h hb1=>by
    obtain ⟨h0,h1,h4⟩:=h
    exact ⟨h0.trans (hb1.mono h0.size),h1.below hb1,(hb1.block b4 (heap_size_lt h4)).trans h4⟩) (fun u y h=>hFC y h.1) (fun y hy=>by
    obtain ⟨h0,h4⟩:=hy
    refine ⟨_, #[tabV a m cap],(Go.Conc.run_call_body (fn:=Try.f91) rfl Try.func91 (by kernel_rfl) (by kernel_rfl)).trans (by simp [Act.eval]),(HP.out y h0).mono ?_⟩
    rintro e y1 ⟨⟨N,p,c,F,rfl,g1,g2,g3,g4,g5,g6⟩,hb1⟩
    exact ⟨_,rfl,h0.trans (hb1.mono h0.size),⟨N,p,c,F,rfl,g1,g2,g3,g4,fun b off e=>by have:=g5 b off e; have:=heap_size_lt h4; omega,fun i hi=>let ⟨g,hg,e⟩:=g6 i hi; ⟨g,by have:=heap_size_lt h4; omega,e⟩⟩,(hb1.block b4 (heap_size_lt h4)).trans h4⟩) ?_)
   rintro u -
   simp only [puts]
   refine RC.run_only (i:=3) (by kernel_rfl) (RC.at_call (fun x y=>x = .agg #[.int .i64 v1, .int .i64 v2]∧Below W.heap.size W y∧PlansOff (lossA f) m n b4 u y∧y.heap[b4]? = some Z2) rfl rfl (fun x y y1 h hb1=>by
    obtain ⟨hx,h0,h1,h4⟩:=h
    exact ⟨hx,h0.trans (hb1.mono h0.size),h1.below hb1,(hb1.block b4 (heap_size_lt h4)).trans h4⟩) (fun x y h=>hFC y h.2.1) (fun y hy=>by
    obtain ⟨h0,h1,h4⟩:=hy
    refine ⟨_, #[tabV a m cap],(Go.Conc.run_call_body (fn:=Try.f71) rfl Try.func71 (by kernel_rfl) (by kernel_rfl)).trans (by simp [Act.eval]),(HV.out y h0).mono ?_⟩
    rintro e y1 ⟨rfl,hb1⟩
    exact ⟨_,rfl,rfl,h0.trans (hb1.mono h0.size),h1.below hb1,(hb1.block b4 (heap_size_lt h4)).trans h4⟩) ?_)
   rintro _ ⟨_,rfl, -⟩
   simp only [puts]
   refine RC.run_mono _ _ _ (fun y=>Below W.heap.size W y∧PlansOff (lossA f) m n b4 u y∧y.heap[b4]? = some Z2) _ (fun y h=>h.2) ?_
   refine RC.run_quiet (i:=5) (u) (by kernel_rfl) rfl rfl (fun y hy=>by go_simp) ?_
   simp only [puts]
   refine RC.run_only (i:=6) (by kernel_rfl) (RC_at_store (fun y=>Below W.heap.size W y∧PlansOff (lossA f) m n b4 u y∧RowIs y b4 #[.int .i64 v1, .int .i64 v2] 30) rfl rfl (fun y y1 h hb=>⟨h.1.trans (hb.mono h.1.size),h.2.1.below hb,h.2.2.below hb⟩) (fun y h=>hFC y h.1) (fun y hy => ?_) ?_)
   ·obtain ⟨h0,h1,h4⟩:=hy
    have r4:RowIs y b4 #[.int .i64 0, .int .i64 0] 30:=h4
    have q0:=r4.cell 0
    have q1:=r4.cell 1
    have z0:=r4.frozen 0
    have z1:=r4.frozen 1
    have qz:=r4.lt
    simp at q0 q1
    refine ⟨(y.setCell ⟨b4,0,none⟩ (.int .i64 v1)).setCell ⟨b4,1,none⟩ (.int .i64 v2),by go_simp,(h0.setCell (p:=⟨b4,0,none⟩) hb4 _).setCell (p:=⟨b4,1,none⟩) hb4 _,?_,(r4.set 0 (.int .i64 v1)).set 1 (.int .i64 v2)⟩
    exact (h1.store 0 _).store 1 _
   simp only [puts]
   refine ⟨by kernel_rfl,fun y hy => ?_⟩
   exact fin u b4 y ⟨hb4,hy⟩
 rintro u b4 y ⟨hb4,hB2,⟨N,p,c,F,rfl,hT,hlen,hS,hN, -, -⟩,hv4⟩
 have hN0:=set_some HO.out hS
 have HT:=Lib.hid hT
 have HS:=Lib.hid hS
 have HB2:=Lib.hid hB2
 have HV4:=Lib.hid hv4
 have HR2:=Lib.hid (HR.out.below hB2)
 clear hT hS hB2 hv4 hFC hW r0 rz HP HV
 obtain ⟨pb,po,rfl,hpb,hpc⟩:=Tab.at HT.out 0 hN0
 have HFew:=Lib.hid (fun i (hi:i<N)=>let ⟨_,_,_,c,e⟩:=HS.out.1 i hi; planC_few HO.out c e)
 obtain ⟨S,hSS⟩ : ∃ S:Nat→Int,(fun i=>sureN f m n (F i).g)=S:=⟨_,rfl⟩
 obtain ⟨T,hTT⟩ : ∃ T:Nat→Int,(fun i=>sumI (F i).g m)=T:=⟨_,rfl⟩
 have hSu : ∀ i,i<N → ∀ x,Below y.heap.size y x→Calls Try.prog 65 #[tabV a m cap, .slice (F i).a m (F i).cap] x fun e w'=>e = .returned (ratV (S i) (T i))∧Below x.heap.size x w':=fun i hi x hx=>by
  have hI:=Cells.below (HT.out.2 i hi) hx
  rw [hlen i] at hI
  rw [← hSS, ← hTT]
  have hx2:=bup HB2.out hx
  exact rSureOf_c a m n cap f (F i).a (F i).cap (F i).g x (HF.out x (HB.out.trans (hx2.mono HB.out.size))) HO.out hI (HFew.out i hi).in8 (HFew.out i hi).some_
 have hbest : ∀ i,i<N→((ratN (S i) (T i)=v1∧ratD (S i) (T i)=v2)↔Surely (lossA f) m n (F i).g (valOf (lossA f) m n).1 (valOf (lossA f) m n).2):=fun i hi=>by
  have fi:=HFew.out i hi
  rw [← sure_val HO.out (fun j hj=>(fi.part j hj).1) fi.pos, ← Hv1.out, ← Hv2.out, ← hSS, ← hTT]
  exact ⟨fun h=>Prod.ext h.1 h.2,fun h=>⟨congrArg Prod.fst h,congrArg Prod.snd h⟩⟩
 have HSu:=Lib.hid hSu
 have Hbest:=Lib.hid hbest
 have HI:=Lib.hid (fun i (hi:i<N)=>HT.out.2 i hi)
 clear hSu hbest hSS hTT HFew
 have hm4:=HO.out.m4
 have hm0:=HO.out.m1
 go_wp2_with fail
 go_loopw [5,6] (fun x q wr=> ∃ b i:Nat,i≤N∧b<16∧q = .int .i64 i∧x = .int .i64 b∧(∀ j,j<4→(bitB b j=true ↔ ∃ l,l<i∧j<m∧0<(F l).g j∧ratN (S l) (T l)=v1∧ratD (S l) (T l)=v2))∧Below y.heap.size y wr) (fun _ q _=>N-(intOf q).toNat)
 case atStart=>exact ⟨0,0,Nat.zero_le _,by omega,rfl,rfl,fun j hj=>by rw [bit0 j hj]; simp,Below.refl _ _⟩
 case round=>
  obtain ⟨b,i,hi,hb16,rfl,rfl,hbits,hbx⟩:=hrel
  have Hbits:=Lib.hid hbits
  have Hbx:=Lib.hid hbx
  clear hbits hbx
  by_cases hlt:i<N
  ·obtain ⟨X,hX⟩ : ∃ X:World,X=wr:=⟨_,rfl⟩
   subst hX
   go_wp2_with fail
   go_loopw [5,7] (fun x q wr=> ∃ b k:Nat,k≤m∧b<16∧q = .int .i64 k∧x = .int .i64 b∧(∀ j,j<4→(bitB b j=true ↔ ∃ l,(l<i∨(l=i∧j<k))∧j<m∧0<(F l).g j∧ratN (S l) (T l)=v1∧ratD (S l) (T l)=v2))∧Below y.heap.size y wr) (fun _ q _=>m-(intOf q).toNat)
   case atStart=>exact ⟨b,0,Nat.zero_le _,hb16,rfl,rfl,fun j hj=>by rw [Hbits.out j hj]; simp,Hbx.out⟩
   case round=>
    clear Hbits Hbx hb16
    obtain ⟨b2,k,hk,hb16,rfl,rfl,hbits,hbx⟩:=hrel
    have Hbits:=Lib.hid hbits
    have Hbx:=Lib.hid hbx
    have c0:wr.cell? ⟨pb,po+i,none⟩=some (.slice (F i).a m (F i).cap):=by
     have h1:=hpc i hlt
     rw [hlen i] at h1
     exact (hbx.cell (p:=⟨pb,po+i,none⟩) hpb).trans h1
    have pz:pb<wr.heap.size:=Nat.lt_of_lt_of_le hpb hbx.size
    have i0:(i:Int)<(N:Int):=by omega
    clear hbits hbx
    by_cases hlk:k<m
    ·obtain ⟨lb,lo,hla,hlz,hlc⟩:=Cells.at (HI.out i hlt) k (by rw [hlen i]; exact hlk)
     have c1:wr.cell? ⟨lb,lo+k,none⟩=some (.int .i64 ((F i).g k)):=(Hbx.out.cell (p:=⟨lb,lo+k,none⟩) hlz).trans (hlc k (by rw [hlen i]; exact hlk))
     have lz:lb<wr.heap.size:=Nat.lt_of_lt_of_le hlz Hbx.out.size
     have Hcp:=Lib.hid hla
     rw [hla] at c0
     obtain ⟨g,hg⟩ : ∃ g,(F i).g k=g:=⟨_,rfl⟩
     have Hg:=Lib.hid hg
     rw [hg] at c1
     have i1:(k:Int)<(m:Int):=by omega
     obtain ⟨fc,hfc⟩ : ∃ fc,(F i).cap=fc:=⟨_,rfl⟩
     have Hfc:=Lib.hid hfc
     rw [hfc] at c0
     clear hlc hla hg hfc
     have Hbx2:=Lib.hid (RowIs.below HR2.out Hbx.out)
     have r0:wr.cell? ⟨w.heap.size,0,none⟩=some (.slice a m cap):=RowIs.cell Hbx2.out 0
     have rz:w.heap.size<wr.heap.size:=Hbx2.out.lt
     have hv4:=HV4.out.below Hbx.out
     have v40:=hv4.cell 0
     have v41:=hv4.cell 1
     have v4z:=hv4.lt
     simp at v40 v41
     have Hk4:=Lib.hid (show k<4 by omega)
     have Hor:=Lib.hid (orB_is hb16 (show k<4 by omega))
     clear hv4 Hbx2
     by_cases hgp:0<g
     ·have tg:decide (0<g)=true:=by simpa using hgp
      have Hgp:=Lib.hid hgp
      have heq:=fun w=>eqRat (ratN (S i) (T i)) (ratD (S i) (T i)) v1 v2 w
      obtain ⟨qq,hqq⟩ : ∃ qq,(ratN (S i) (T i)==v1 && ratD (S i) (T i)==v2)=qq:=⟨_,rfl⟩
      simp only [hqq] at heq
      have Hqq:=Lib.hid hqq
      have hlc:=fun (x:Later wr)=>later_cell x
      have H0:=Lib.hid (fun (x:Later wr)=>HSu.out i hlt x.w (Hbx.out.trans (x.h.mono Hbx.out.size)))
      rw [Hfc.out,Hcp.out] at H0
      clear hqq hgp
      go_wp2_with fail
      refine wp_region_later (by kernel_rfl) (by kernel_rfl) ?_
      repeat (go_big_quiet_step ((first | (with_reducible refine calls_later (H0.out _)))))
      refine wpQuiet_nil ?_
      clear hlc H0 heq
      rintro ⟨w5,hb5⟩
      dsimp only
      have Hb5:=Lib.hid (Hbx.out.trans (hb5.mono Hbx.out.size))
      clear hb5 c0 pz c1 lz r0 rz v40 v41 v4z i0
      cases qq with
      | true=>
        obtain ⟨hr1,hr2⟩:ratN (S i) (T i)=v1∧ratD (S i) (T i)=v2:=by simpa using Hqq.out
        have Hr:=Lib.hid (show ratN (S i) (T i)=v1∧ratD (S i) (T i)=v2 from ⟨hr1,hr2⟩)
        obtain ⟨o1,o2,o3⟩:=Hor.out
        have O3:=Lib.hid o3
        have o4:Go.bits BinOp.or IntKind.i64 (b2:Int) (wrap64 (2 ^ k))=(orB b2 k:Int):=by
         rw [show wrap64 (2 ^ k)=2 ^ k from ?_]
         ·exact o1
         ·have:k=0∨k=1∨k=2∨k=3:=by have:=Hk4.out; omega
          rcases this with rfl | rfl | rfl | rfl <;> decide +kernel
        have i4:(0:Int)≤(k:Int):=by omega
        clear hr1 hr2 o1 o3
        go_wp2_with fail
        go_roundw
        case rel=>
         refine ⟨orB b2 k,k+1,by omega,o2,by go_num,rfl,fun j hj => ?_,Hb5.out⟩
         rw [O3.out j hj,Bool.or_eq_true,Hbits.out j hj]
         constructor
         ·rintro (⟨l,h1,h2,h3,h4⟩ | h)
          ·exact ⟨l,by omega,h2,h3,h4⟩
          ·have e:j=k:=by simpa using h
           subst e
           exact ⟨i, .inr ⟨rfl,by omega⟩,hlk,by rw [Hg.out]; exact Hgp.out,Hr.out⟩
         ·rintro ⟨l,h1,h2,h3,h4⟩
          by_cases e:l=i∧j=k
          ·exact .inr (by simp [e.2])
          ·exact .inl ⟨l,by omega,h2,h3,h4⟩
        case measure=>simp [intOf]; omega
      | false=>
        have hr : ¬ (ratN (S i) (T i)=v1∧ratD (S i) (T i)=v2):=fun h=>by
         have:=Hqq.out
         rw [h.1,h.2] at this
         simp at this
        have Hr:=Lib.hid hr
        clear hr
        go_wp2_with fail
        go_roundw
        case rel=>
         refine ⟨b2,k+1,by omega,hb16,by go_num,rfl,fun j hj => ?_,Hb5.out⟩
         rw [Hbits.out j hj]
         constructor
         ·rintro ⟨l,h1,h2,h3,h4⟩
          exact ⟨l,by omega,h2,h3,h4⟩
         ·rintro ⟨l,h1,h2,h3,h4⟩
          by_cases e:l=i∧j=k
          ·rw [e.1] at h4
           exact absurd h4 Hr.out
          ·exact ⟨l,by omega,h2,h3,h4⟩
        case measure=>simp [intOf]; omega
     ·have tg:decide (0<g)=false:=by simpa using hgp
      have Hgp:=Lib.hid hgp
      clear hgp
      go_wp2_with fail
      go_quiet (fail)
      have Hb5:=Lib.hid (below_drewN Hbx.out nq)
      clear c0 pz c1 lz r0 rz v40 v41 v4z i0
      go_wp2_with fail
      go_roundw
      case rel=>
       refine ⟨b2,k+1,by omega,hb16,by go_num,rfl,fun j hj => ?_,Hb5.out⟩
       rw [Hbits.out j hj]
       constructor
       ·rintro ⟨l,h1,h2,h3,h4⟩
        exact ⟨l,by omega,h2,h3,h4⟩
       ·rintro ⟨l,h1,h2,h3,h4⟩
        by_cases e:l=i∧j=k
        ·rw [e.1,e.2,Hg.out] at h3
         have:=Hgp.out
         omega
        ·exact ⟨l,by omega,h2,h3,h4⟩
      case measure=>simp [intOf]; omega
    ·obtain rfl:k=m:=by omega
     go_wp2_with fail
     go_roundw
     case rel=>
      refine ⟨b2,i+1,by omega,hb16,by go_num,rfl,fun j hj => ?_,Hbx.out⟩
      rw [Hbits.out j hj]
      constructor
      ·rintro ⟨l,h1,h2,h3⟩
       exact ⟨l,by omega,h2,h3⟩
      ·rintro ⟨l,h1,h2,h3⟩
       exact ⟨l,by omega,h2,h3⟩
     case measure=>simp [intOf]; omega
  ·obtain rfl:i=N:=by omega
   have hU:bitsL b m=usedC (lossA f) m n:=bits_used HS.out fun j hj=>by
    rw [Hbits.out j (by omega)]
    constructor
    ·rintro ⟨l,h1,h2,h3,h4⟩
     exact ⟨l,h1,h3,(Hbest.out l h1).1 h4⟩
    ·rintro ⟨l,h1,h2,h3⟩
     exact ⟨l,h1,hj,h2,(Hbest.out l h1).2 h3⟩
   have HLs:=Lib.hid (fun (x:World)=>rListed_c b m x hm4)
   rw [hU] at HLs
   have Hbx2:=Lib.hid (RowIs.below HR2.out Hbx.out)
   have r0:wr.cell? ⟨w.heap.size,0,none⟩=some (.slice a m cap):=RowIs.cell Hbx2.out 0
   have rz:w.heap.size<wr.heap.size:=Hbx2.out.lt
   have HBf:=Lib.hid (HB.out.trans ((bup HB2.out Hbx.out).mono HB.out.size))
   clear hU
   go_wp2_with fail
   refine (HLs.out wr).mono ?_
   rintro e w9 ⟨⟨p9,c9,rfl,hl9⟩,hb9⟩
   go_wp2_with fail
   go_ret
   exact ⟨⟨p9,⟨c9,rfl,hl9⟩⟩,bup HBf.out hb9⟩
end Go.Proofs.Ytkbbhihndigmeaa
