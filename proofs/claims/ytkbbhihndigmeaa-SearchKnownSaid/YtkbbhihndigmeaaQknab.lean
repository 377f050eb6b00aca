/- The law SearchKnown answers true: the chapter's examples. Written by tools/known3.py. -/
import Derived.Shelf.Abstract
import Derived.Shelf.RegionOpen
import Derived.Conc.Own4
import Derived.Test.YtkbbhihndigmeaaQknaa
import Derived.Test.YtkbbhihndigmeaaBasac
namespace Go.Proofs.Ytkbbhihndigmeaa
open Go Go.RowKit Go.Shelf
theorem x_loadT {ev:Operand→Value} {o:Oper} {x:Operand} {b:Nat} {u:Value} (ho:o.op = .load 24 x) (hx:ev x = .pointer (some ⟨b,0,none⟩)) (y:World) (q0:y.cell? ⟨b,0,none⟩=some u) (_:b<y.heap.size):(execOp ev o).run Try.prog y = .ok (.value (.agg #[u])) y:=by
 unfold execOp
 simp only [ho,hx]
 go_simp
set_option maxRecDepth 100000 in
set_option maxHeartbeats 64000000 in
theorem law_known_c (w:World):Calls Try.prog 15 #[] w fun e w'=>e = .returned (.bool true)∧Below w.heap.size w w':=by
 go_enter Try.func15,Try.ntmps15
 go_wp2_with fail
 refine (mixed_c _).mono ?_
 rintro e w1 ⟨⟨p1,c1,x1,rfl,hT1⟩,hb1⟩
 have H1:=Lib.hid hT1
 have B1:=Lib.hid hb1
 clear hT1 hb1
 go_wp2_with fail
 refine (pure_c _).mono ?_
 rintro e w2 ⟨⟨p2,c2,x2,rfl,hT2⟩,hb2⟩
 replace H1:=Lib.hid (H1.out.below hb2)
 have H2:=Lib.hid hT2
 replace B1:=Lib.hid (bup B1.out hb2)
 clear hT2 hb2
 go_wp2_with fail
 refine (round_c _).mono ?_
 rintro e w3 ⟨⟨p3,c3,x3,rfl,hT3⟩,hb3⟩
 replace H1:=Lib.hid (H1.out.below hb3)
 replace H2:=Lib.hid (H2.out.below hb3)
 have H3:=Lib.hid hT3
 replace B1:=Lib.hid (bup B1.out hb3)
 clear hT3 hb3
 obtain ⟨Y0,hY0⟩ : ∃ Y,((w3.alloc (.cells #[.slice p1 2 c1] 24)).alloc (.cells #[.slice p2 2 c2] 24)).alloc (.cells #[.slice p3 3 c3] 24)=Y:=⟨_,rfl⟩
 have hb0:Below w3.heap.size w3 Y0:=by rw [← hY0]; exact Below.alloc1 (Below.alloc1 (Below.alloc1 (Below.refl _ _) _ (Nat.le_refl _)) _ (Nat.le_refl _)) _ (Nat.le_refl _)
 have R1:=Lib.hid (show RowIs Y0 w3.heap.size #[.slice p1 2 c1] 24 by rw [← hY0]; exact RowIs.alloc (RowIs.alloc (heap_new_at _ _ _ rfl) _) _)
 have R2:=Lib.hid (show RowIs Y0 (w3.heap.size+1) #[.slice p2 2 c2] 24 by rw [← hY0]; exact RowIs.alloc (heap_new_at _ _ _ (by simp)) _)
 have R3:=Lib.hid (show RowIs Y0 (w3.heap.size+1+1) #[.slice p3 3 c3] 24 by rw [← hY0]; exact heap_new_at _ _ _ (by simp))
 replace H1:=Lib.hid (H1.out.below hb0)
 replace H2:=Lib.hid (H2.out.below hb0)
 replace H3:=Lib.hid (H3.out.below hb0)
 replace B1:=Lib.hid (bup B1.out hb0)
 clear hb0
 have cc1:Y0.cell? ⟨w3.heap.size,0,none⟩=some (.slice p1 2 c1):=RowIs.cell R1.out 0
 have zz2:w3.heap.size<Y0.heap.size:=RowIs.lt R1.out
 go_wp2_with fail
 apply cutB1 (fun b d1 y=>Y0.heap.size≤b∧Below Y0.heap.size Y0 y∧RowIs y b #[.int .i64 (-1), .int .i64 1] 30)
 case main=>
  intro fin
  have hF3 : ∀ y,Below Y0.heap.size Y0 y→Below Y0.heap.size Y0 y∧y.cell? ⟨w3.heap.size,0,none⟩=some (.slice p1 2 c1):=fun y hy=>⟨hy,RowIs.cell (R1.out.below hy) 0⟩
  refine wp_region_runF (C:=fun y=>Below Y0.heap.size Y0 y∧y.cell? ⟨w3.heap.size,0,none⟩=some (.slice p1 2 c1)) (fun y=>Below Y0.heap.size Y0 y∧Has [] y) (by kernel_rfl) (stable_has Y0 []) ⟨Below.refl _ _,has_nil _⟩ ?_
  change Run _ _ _ _ _ 10 _ _ _
  refine run_take (i:=0) (tabV p1 2 c1) rfl (by kernel_rfl) (by kernel_rfl) (by kernel_rfl) rfl (fun y h=>hF3 y h.1) (fun y hy=>by obtain ⟨-,q0⟩:=hy; go_simp) ?_
  simp only [puts]
  refine runX_float (x:=7) (c:=5) (tx:=4) (z:= .cells #[.int .i64 0, .int .i64 0] 30 (0,0)) (w0:=Y0) (g:=4) rfl rfl rfl (fun a y=>by go_simp) (Region.noSelect_spec (by kernel_rfl)) (by kernel_rfl) (by kernel_rfl) (by decide) (fun y h=>h.1.size) 4 _ _ _ (fun _=>False) (by kernel_rfl) (fun y h=>hF3 y h.1) (fun _ _ _ h=>h.elim) ?_
  refine runX_each [1] (by kernel_rfl) (by kernel_rfl) (by kernel_rfl) (by decide) ?_
  intro i hi
  simp only [List.mem_cons,List.not_mem_nil,or_false] at hi
  subst hi
  refine atX_make (t:=24) (z:= .cells #[.int .i64 1, .int .i64 0] 2 (0,0)) (fun k=> .slice (some ⟨k,0,none⟩) 2 2) (fun _ _ h=>(sl_inj h).1) rfl rfl rfl (stable_has Y0 _) (fun y h=>hF3 y h.1) (fun y _=>by go_simp) ?_
  intro d1
  simp only [puts]
  refine runX_mono _ _ _ (fun y=>Below Y0.heap.size Y0 y∧Has ((d1, .cells #[.int .i64 1, .int .i64 0] 2 (0,0)) :: []) y) _ _ _ ?_ (fun _ h=>h) (fun _ h=>h) ?_
  ·rintro y ⟨⟨h1,h2⟩,h3⟩
   exact ⟨h1,h2.cons h3⟩
  refine runX_each [2] (by kernel_rfl) (by kernel_rfl) (by kernel_rfl) (by decide) ?_
  intro i hi
  simp only [List.mem_cons,List.not_mem_nil,or_false] at hi
  subst hi
  refine atX_quiet (.slice (some ⟨d1,0,none⟩) 2 2) rfl (quiet_call (args := #[.slice (some ⟨d1,0,none⟩) 2 2]) (by rfl) (fun y hy=>(Go.Conc.run_call_body (fn:=Try.f56) rfl Try.func56 (by kernel_rfl) (by kernel_rfl)).trans (by simp [Act.eval])) (fun y hy=>(longs_c _ _ _ y).mono (by rintro e y1 ⟨rfl,rfl⟩; exact ⟨rfl,Below.refl _ _⟩))) ?_
  simp only [puts]
  refine runX_each [3] (by kernel_rfl) (by kernel_rfl) (by kernel_rfl) (by decide) ?_
  intro i hi
  simp only [List.mem_cons,List.not_mem_nil,or_false] at hi
  subst hi
  refine atX_quiet (re2 (-1,1,0)) rfl (quiet_call (fn:=19) (args := #[tabV p1 2 c1, .slice (some ⟨d1,0,none⟩) 2 2]) (by rfl) (fun y hy=>(Go.Conc.run_call_body (fn:=Try.f19) rfl Try.func19 (by kernel_rfl) (by kernel_rfl)).trans (by simp [Act.eval])) (fun y hy => ?_)) ?_
  ·obtain ⟨g1,g2⟩:=hy
   have hi0:Ints y (some ⟨d1,0,none⟩) 2 (ltN [1,0]):=ints_has [1,0] (g2 (d1, .cells #[.int .i64 1, .int .i64 0] 2 (0,0)) (by simp))
   have hc:=Sure_c p1 2 c1 (mixedF x1) (some ⟨d1,0,none⟩) 2 2 (ltN [1,0]) y (H1.out.below g1) (by decide) (fun _ _=>(show (2:Nat)≤1048576 by decide)) hi0 (by decide); rw [mixed_sure4 x1] at hc
   exact hc
  simp only [puts]
  refine runX_each [4] (by kernel_rfl) (by kernel_rfl) (by kernel_rfl) (by decide) ?_
  intro i hi
  simp only [List.mem_cons,List.not_mem_nil,or_false] at hi
  subst hi
  refine atX_quiet (re2 (-1,1,0)) rfl (quiet_yes _ (by rfl) (fun y hy=>by go_simp)) ?_
  simp only [puts]
  refine ⟨?_,fun b hb0 _ => ?_⟩
  ·skip
   refine run_take (i:=5) (.agg #[.int .i64 (-1), .int .i64 1]) rfl (by kernel_rfl) (by kernel_rfl) (by kernel_rfl) rfl (fun y h=>hF3 y h.1) (fun y hy=>by go_simp) ?_
   simp only [puts]
   refine run_take (i:=6) (.int .i64 0) rfl (by kernel_rfl) (by kernel_rfl) (by kernel_rfl) rfl (fun y h=>hF3 y h.1) (fun y hy=>by go_simp) ?_
   simp only [puts]
   refine run_only (i:=7) (by kernel_rfl) (at_make (w0:=Y0) (t:=4) (z:= .cells #[.int .i64 0, .int .i64 0] 30 (0,0)) ptrTo (fun _=>False) ptrTo_inj rfl rfl rfl (fun y _=>by go_simp) (fun y h=>h.1.size) (fun _ _ _ h=>h.elim) ?_)
   intro b hb0 _
   simp only [puts]
   refine run_store (i:=8) (fun y=>Below Y0.heap.size Y0 y∧RowIs y b #[.int .i64 (-1), .int .i64 1] 30) (by kernel_rfl) rfl rfl (fun y y1 h hb=>⟨h.1.trans (hb.mono h.1.size),h.2.below hb⟩) (fun y h=>hF3 y h.1) (fun y hy => ?_) ?_
   ·obtain ⟨⟨g1, -⟩,g2⟩:=hy
    have r4:RowIs y b #[.int .i64 0, .int .i64 0] 30:=g2
    have q0:=r4.cell 0
    have q1:=r4.cell 1
    have z0:=r4.frozen 0
    have z1:=r4.frozen 1
    have qz:=r4.lt
    simp at q0 q1
    exact ⟨(y.setCell ⟨b,0,none⟩ (.int .i64 (-1))).setCell ⟨b,1,none⟩ (.int .i64 1),by go_simp,(g1.setCell (p:=⟨b,0,none⟩) hb0 _).setCell (p:=⟨b,1,none⟩) hb0 _,(r4.set 0 (.int .i64 (-1))).set 1 (.int .i64 1)⟩
   simp only [puts]
   refine run_quiet (i:=9) (.int .i64 0) (by kernel_rfl) rfl rfl (fun y hy=>by go_simp) ?_
   simp only [puts]
   refine ⟨by kernel_rfl,fun y hy => ?_⟩
   exact fin b d1 y ⟨hb0,hy.1,hy.2⟩
  ·skip
   refine run_take (i:=5) (.agg #[.int .i64 (-1), .int .i64 1]) rfl (by kernel_rfl) (by kernel_rfl) (by kernel_rfl) rfl (fun y h=>hF3 y h.1.1) (fun y hy=>by go_simp) ?_
   simp only [puts]
   refine run_take (i:=6) (.int .i64 0) rfl (by kernel_rfl) (by kernel_rfl) (by kernel_rfl) rfl (fun y h=>hF3 y h.1.1) (fun y hy=>by go_simp) ?_
   simp only [puts]
   refine run_store (i:=8) (fun y=>Below Y0.heap.size Y0 y∧RowIs y b #[.int .i64 (-1), .int .i64 1] 30) (by kernel_rfl) rfl rfl (fun y y1 h hb=>⟨h.1.trans (hb.mono h.1.size),h.2.below hb⟩) (fun y h=>hF3 y h.1) (fun y hy => ?_) ?_
   ·obtain ⟨⟨g1, -⟩,g2⟩:=hy
    have r4:RowIs y b #[.int .i64 0, .int .i64 0] 30:=g2
    have q0:=r4.cell 0
    have q1:=r4.cell 1
    have z0:=r4.frozen 0
    have z1:=r4.frozen 1
    have qz:=r4.lt
    simp at q0 q1
    exact ⟨(y.setCell ⟨b,0,none⟩ (.int .i64 (-1))).setCell ⟨b,1,none⟩ (.int .i64 1),by go_simp,(g1.setCell (p:=⟨b,0,none⟩) hb0 _).setCell (p:=⟨b,1,none⟩) hb0 _,(r4.set 0 (.int .i64 (-1))).set 1 (.int .i64 1)⟩
   simp only [puts]
   refine run_quiet (i:=9) (.int .i64 0) (by kernel_rfl) rfl rfl (fun y hy=>by go_simp) ?_
   simp only [puts]
   refine ⟨by kernel_rfl,fun y hy => ?_⟩
   exact fin b d1 y ⟨hb0,hy.1,hy.2⟩
 clear hY0 cc1 zz2
 rintro b4 d6 y5 ⟨hbb,hby,hrow⟩
 replace H1:=Lib.hid (H1.out.below hby)
 replace H2:=Lib.hid (H2.out.below hby)
 replace H3:=Lib.hid (H3.out.below hby)
 replace R1:=Lib.hid (RowIs.below R1.out hby)
 replace R2:=Lib.hid (RowIs.below R2.out hby)
 replace R3:=Lib.hid (RowIs.below R3.out hby)
 replace B1:=Lib.hid (bup B1.out hby)
 have Q4:=Lib.hid hrow
 clear hbb hby hrow
 have cc7:y5.cell? ⟨w3.heap.size,0,none⟩=some (.slice p1 2 c1):=RowIs.cell R1.out 0
 have zz8:w3.heap.size<y5.heap.size:=RowIs.lt R1.out
 go_wp2_with fail
 apply cutB1 (fun b d1 y=>y5.heap.size≤b∧Below y5.heap.size y5 y∧RowIs y b #[.int .i64 1, .int .i64 1] 30)
 case main=>
  intro fin
  have hF9 : ∀ y,Below y5.heap.size y5 y→Below y5.heap.size y5 y∧y.cell? ⟨w3.heap.size,0,none⟩=some (.slice p1 2 c1):=fun y hy=>⟨hy,RowIs.cell (R1.out.below hy) 0⟩
  refine wp_region_runF (C:=fun y=>Below y5.heap.size y5 y∧y.cell? ⟨w3.heap.size,0,none⟩=some (.slice p1 2 c1)) (fun y=>Below y5.heap.size y5 y∧Has [] y) (by kernel_rfl) (stable_has y5 []) ⟨Below.refl _ _,has_nil _⟩ ?_
  change Run _ _ _ _ _ 10 _ _ _
  refine run_take (i:=0) (tabV p1 2 c1) rfl (by kernel_rfl) (by kernel_rfl) (by kernel_rfl) rfl (fun y h=>hF9 y h.1) (fun y hy=>by obtain ⟨-,q0⟩:=hy; go_simp) ?_
  simp only [puts]
  refine runX_float (x:=7) (c:=5) (tx:=6) (z:= .cells #[.int .i64 0, .int .i64 0] 30 (0,0)) (w0:=y5) (g:=4) rfl rfl rfl (fun a y=>by go_simp) (Region.noSelect_spec (by kernel_rfl)) (by kernel_rfl) (by kernel_rfl) (by decide) (fun y h=>h.1.size) 4 _ _ _ (fun _=>False) (by kernel_rfl) (fun y h=>hF9 y h.1) (fun _ _ _ h=>h.elim) ?_
  refine runX_each [1] (by kernel_rfl) (by kernel_rfl) (by kernel_rfl) (by decide) ?_
  intro i hi
  simp only [List.mem_cons,List.not_mem_nil,or_false] at hi
  subst hi
  refine atX_make (t:=31) (z:= .cells #[.int .i64 1, .int .i64 1] 2 (0,0)) (fun k=> .slice (some ⟨k,0,none⟩) 2 2) (fun _ _ h=>(sl_inj h).1) rfl rfl rfl (stable_has y5 _) (fun y h=>hF9 y h.1) (fun y _=>by go_simp) ?_
  intro d1
  simp only [puts]
  refine runX_mono _ _ _ (fun y=>Below y5.heap.size y5 y∧Has ((d1, .cells #[.int .i64 1, .int .i64 1] 2 (0,0)) :: []) y) _ _ _ ?_ (fun _ h=>h) (fun _ h=>h) ?_
  ·rintro y ⟨⟨h1,h2⟩,h3⟩
   exact ⟨h1,h2.cons h3⟩
  refine runX_each [2] (by kernel_rfl) (by kernel_rfl) (by kernel_rfl) (by decide) ?_
  intro i hi
  simp only [List.mem_cons,List.not_mem_nil,or_false] at hi
  subst hi
  refine atX_quiet (.slice (some ⟨d1,0,none⟩) 2 2) rfl (quiet_call (args := #[.slice (some ⟨d1,0,none⟩) 2 2]) (by rfl) (fun y hy=>(Go.Conc.run_call_body (fn:=Try.f56) rfl Try.func56 (by kernel_rfl) (by kernel_rfl)).trans (by simp [Act.eval])) (fun y hy=>(longs_c _ _ _ y).mono (by rintro e y1 ⟨rfl,rfl⟩; exact ⟨rfl,Below.refl _ _⟩))) ?_
  simp only [puts]
  refine runX_each [3] (by kernel_rfl) (by kernel_rfl) (by kernel_rfl) (by decide) ?_
  intro i hi
  simp only [List.mem_cons,List.not_mem_nil,or_false] at hi
  subst hi
  refine atX_quiet (re2 (1,1,0)) rfl (quiet_call (fn:=21) (args := #[tabV p1 2 c1, .slice (some ⟨d1,0,none⟩) 2 2]) (by rfl) (fun y hy=>(Go.Conc.run_call_body (fn:=Try.f21) rfl Try.func21 (by kernel_rfl) (by kernel_rfl)).trans (by simp [Act.eval])) (fun y hy => ?_)) ?_
  ·obtain ⟨g1,g2⟩:=hy
   have hi0:Ints y (some ⟨d1,0,none⟩) 2 (ltN [1,1]):=ints_has [1,1] (g2 (d1, .cells #[.int .i64 1, .int .i64 1] 2 (0,0)) (by simp))
   have hc:=Bound_c p1 2 c1 (mixedF x1) (some ⟨d1,0,none⟩) 2 2 (ltN [1,1]) y (H1.out.below g1) (by decide) (fun _ _=>(show (2:Nat)≤1048576 by decide)) hi0 (by decide); rw [mixed_bound2 x1] at hc
   exact hc
  simp only [puts]
  refine runX_each [4] (by kernel_rfl) (by kernel_rfl) (by kernel_rfl) (by decide) ?_
  intro i hi
  simp only [List.mem_cons,List.not_mem_nil,or_false] at hi
  subst hi
  refine atX_quiet (re2 (1,1,0)) rfl (quiet_yes _ (by rfl) (fun y hy=>by go_simp)) ?_
  simp only [puts]
  refine ⟨?_,fun b hb0 _ => ?_⟩
  ·skip
   refine run_take (i:=5) (.agg #[.int .i64 1, .int .i64 1]) rfl (by kernel_rfl) (by kernel_rfl) (by kernel_rfl) rfl (fun y h=>hF9 y h.1) (fun y hy=>by go_simp) ?_
   simp only [puts]
   refine run_take (i:=6) (.int .i64 0) rfl (by kernel_rfl) (by kernel_rfl) (by kernel_rfl) rfl (fun y h=>hF9 y h.1) (fun y hy=>by go_simp) ?_
   simp only [puts]
   refine run_only (i:=7) (by kernel_rfl) (at_make (w0:=y5) (t:=6) (z:= .cells #[.int .i64 0, .int .i64 0] 30 (0,0)) ptrTo (fun _=>False) ptrTo_inj rfl rfl rfl (fun y _=>by go_simp) (fun y h=>h.1.size) (fun _ _ _ h=>h.elim) ?_)
   intro b hb0 _
   simp only [puts]
   refine run_store (i:=8) (fun y=>Below y5.heap.size y5 y∧RowIs y b #[.int .i64 1, .int .i64 1] 30) (by kernel_rfl) rfl rfl (fun y y1 h hb=>⟨h.1.trans (hb.mono h.1.size),h.2.below hb⟩) (fun y h=>hF9 y h.1) (fun y hy => ?_) ?_
   ·obtain ⟨⟨g1, -⟩,g2⟩:=hy
    have r4:RowIs y b #[.int .i64 0, .int .i64 0] 30:=g2
    have q0:=r4.cell 0
    have q1:=r4.cell 1
    have z0:=r4.frozen 0
    have z1:=r4.frozen 1
    have qz:=r4.lt
    simp at q0 q1
    exact ⟨(y.setCell ⟨b,0,none⟩ (.int .i64 1)).setCell ⟨b,1,none⟩ (.int .i64 1),by go_simp,(g1.setCell (p:=⟨b,0,none⟩) hb0 _).setCell (p:=⟨b,1,none⟩) hb0 _,(r4.set 0 (.int .i64 1)).set 1 (.int .i64 1)⟩
   simp only [puts]
   refine run_quiet (i:=9) (.int .i64 0) (by kernel_rfl) rfl rfl (fun y hy=>by go_simp) ?_
   simp only [puts]
   refine ⟨by kernel_rfl,fun y hy => ?_⟩
   exact fin b d1 y ⟨hb0,hy.1,hy.2⟩
  ·skip
   refine run_take (i:=5) (.agg #[.int .i64 1, .int .i64 1]) rfl (by kernel_rfl) (by kernel_rfl) (by kernel_rfl) rfl (fun y h=>hF9 y h.1.1) (fun y hy=>by go_simp) ?_
   simp only [puts]
   refine run_take (i:=6) (.int .i64 0) rfl (by kernel_rfl) (by kernel_rfl) (by kernel_rfl) rfl (fun y h=>hF9 y h.1.1) (fun y hy=>by go_simp) ?_
   simp only [puts]
   refine run_store (i:=8) (fun y=>Below y5.heap.size y5 y∧RowIs y b #[.int .i64 1, .int .i64 1] 30) (by kernel_rfl) rfl rfl (fun y y1 h hb=>⟨h.1.trans (hb.mono h.1.size),h.2.below hb⟩) (fun y h=>hF9 y h.1) (fun y hy => ?_) ?_
   ·obtain ⟨⟨g1, -⟩,g2⟩:=hy
    have r4:RowIs y b #[.int .i64 0, .int .i64 0] 30:=g2
    have q0:=r4.cell 0
    have q1:=r4.cell 1
    have z0:=r4.frozen 0
    have z1:=r4.frozen 1
    have qz:=r4.lt
    simp at q0 q1
    exact ⟨(y.setCell ⟨b,0,none⟩ (.int .i64 1)).setCell ⟨b,1,none⟩ (.int .i64 1),by go_simp,(g1.setCell (p:=⟨b,0,none⟩) hb0 _).setCell (p:=⟨b,1,none⟩) hb0 _,(r4.set 0 (.int .i64 1)).set 1 (.int .i64 1)⟩
   simp only [puts]
   refine run_quiet (i:=9) (.int .i64 0) (by kernel_rfl) rfl rfl (fun y hy=>by go_simp) ?_
   simp only [puts]
   refine ⟨by kernel_rfl,fun y hy => ?_⟩
   exact fin b d1 y ⟨hb0,hy.1,hy.2⟩
 clear cc7 zz8
 rintro b10 d12 y11 ⟨hbb,hby,hrow⟩
 replace H1:=Lib.hid (H1.out.below hby)
 replace H2:=Lib.hid (H2.out.below hby)
 replace H3:=Lib.hid (H3.out.below hby)
 replace R1:=Lib.hid (RowIs.below R1.out hby)
 replace R2:=Lib.hid (RowIs.below R2.out hby)
 replace R3:=Lib.hid (RowIs.below R3.out hby)
 replace Q4:=Lib.hid (RowIs.below Q4.out hby)
 replace B1:=Lib.hid (bup B1.out hby)
 have Q6:=Lib.hid hrow
 clear hbb hby hrow
 have cc13:y11.cell? ⟨w3.heap.size+1,0,none⟩=some (.slice p2 2 c2):=RowIs.cell R2.out 0
 have zz14:w3.heap.size+1<y11.heap.size:=RowIs.lt R2.out
 have hV:=Value_v p2 2 c2 (pureF x2) y11 H2.out (by decide) (fun _ _=>(show (2:Nat)≤1048576 by decide))
 rw [pure_value x2] at hV
 have HV:=Lib.hid hV
 clear hV
 go_wp2_with fail
 clear cc13 zz14
 refine (HV.out).mono ?_
 rintro e w15 ⟨rfl,hbq⟩
 replace H1:=Lib.hid (H1.out.below hbq)
 replace H2:=Lib.hid (H2.out.below hbq)
 replace H3:=Lib.hid (H3.out.below hbq)
 replace R1:=Lib.hid (RowIs.below R1.out hbq)
 replace R2:=Lib.hid (RowIs.below R2.out hbq)
 replace R3:=Lib.hid (RowIs.below R3.out hbq)
 replace Q4:=Lib.hid (RowIs.below Q4.out hbq)
 replace Q6:=Lib.hid (RowIs.below Q6.out hbq)
 replace B1:=Lib.hid (bup B1.out hbq)
 clear hbq
 clear HV
 obtain ⟨Y16,hY16⟩ : ∃ Y16,w15.alloc (.cells #[.int .i64 1, .int .i64 1] 30)=Y16:=⟨_,rfl⟩
 have hb17:Below w15.heap.size w15 Y16:=by rw [← hY16]; exact Below.alloc1 (Below.refl _ _) _ (Nat.le_refl _)
 have hr18:RowIs Y16 w15.heap.size #[.int .i64 1, .int .i64 1] 30:=by rw [← hY16]; exact heap_new_at _ _ _ rfl
 replace H1:=Lib.hid (H1.out.below hb17)
 replace H2:=Lib.hid (H2.out.below hb17)
 replace H3:=Lib.hid (H3.out.below hb17)
 replace R1:=Lib.hid (RowIs.below R1.out hb17)
 replace R2:=Lib.hid (RowIs.below R2.out hb17)
 replace R3:=Lib.hid (RowIs.below R3.out hb17)
 replace Q4:=Lib.hid (RowIs.below Q4.out hb17)
 replace Q6:=Lib.hid (RowIs.below Q6.out hb17)
 replace B1:=Lib.hid (bup B1.out hb17)
 have Q8:=Lib.hid hr18
 clear hb17 hr18
 have cc20:Y16.cell? ⟨w3.heap.size+1+1,0,none⟩=some (.slice p3 3 c3):=RowIs.cell R3.out 0
 have zz21:w3.heap.size+1+1<Y16.heap.size:=RowIs.lt R3.out
 have HV:=Lib.hid (Used_v p3 3 c3 (roundF x3) Y16 H3.out (by decide) (fun _ _=>(show (3:Nat)≤1048576 by decide)))
 go_wp2_with fail
 clear hY16 cc20 zz21
 refine HV.out.mono ?_
 rintro e w22 ⟨hres,hbq⟩
 obtain ⟨u1,k1,u2,k2,rfl,hl1,hl2⟩:=hres.elim (fun h=>absurd (okay_is (round_ok x3)) h.1) (fun h=>h.2)
 replace H1:=Lib.hid (H1.out.below hbq)
 replace H2:=Lib.hid (H2.out.below hbq)
 replace H3:=Lib.hid (H3.out.below hbq)
 replace R1:=Lib.hid (RowIs.below R1.out hbq)
 replace R2:=Lib.hid (RowIs.below R2.out hbq)
 replace R3:=Lib.hid (RowIs.below R3.out hbq)
 replace Q4:=Lib.hid (RowIs.below Q4.out hbq)
 replace Q6:=Lib.hid (RowIs.below Q6.out hbq)
 replace Q8:=Lib.hid (RowIs.below Q8.out hbq)
 replace B1:=Lib.hid (bup B1.out hbq)
 have L10:=Lib.hid (show Lst w22 [0,1,2] u1 k1 by rw [← round_used]; exact hl1)
 have L11:=Lib.hid (show Lst w22 [0,1,2] u2 k2 by rw [← round_usedf]; exact hl2)
 rw [show usedC (lossA (roundF x3)) 3 (roundF x3 0).n=[0,1,2] from round_used,show usedC (flip (lossA (roundF x3))) (roundF x3 0).n 3=[0,1,2] from round_usedf]
 clear hbq hres HV hl1 hl2
 have cc23:w22.cell? ⟨w3.heap.size,0,none⟩=some (.slice p1 2 c1):=RowIs.cell R1.out 0
 have zz24:w3.heap.size<w22.heap.size:=RowIs.lt R1.out
 have HV:=Lib.hid (Left_v p1 2 c1 (mixedF x1) w22 H1.out (by decide) (fun _ _=>(show (2:Nat)≤1048576 by decide)))
 go_wp2_with fail
 clear cc23 zz24
 refine HV.out.mono ?_
 rintro e w25 ⟨hres,hbq⟩
 obtain ⟨u3,k3,u4,k4,rfl,hl1,hl2⟩:=hres.elim (fun h=>absurd (okay_is (mixed_ok x1)) h.1) (fun h=>h.2)
 replace H1:=Lib.hid (H1.out.below hbq)
 replace H2:=Lib.hid (H2.out.below hbq)
 replace H3:=Lib.hid (H3.out.below hbq)
 replace R1:=Lib.hid (RowIs.below R1.out hbq)
 replace R2:=Lib.hid (RowIs.below R2.out hbq)
 replace R3:=Lib.hid (RowIs.below R3.out hbq)
 replace Q4:=Lib.hid (RowIs.below Q4.out hbq)
 replace Q6:=Lib.hid (RowIs.below Q6.out hbq)
 replace Q8:=Lib.hid (RowIs.below Q8.out hbq)
 replace L10:=Lib.hid (L10.out.below hbq)
 replace L11:=Lib.hid (L11.out.below hbq)
 replace B1:=Lib.hid (bup B1.out hbq)
 have hlf:=mixed_left x1
 have L13:=Lib.hid (show Lst w25 [0,1] u3 k3 by have:=hl1; rw [show leftR (mixedF x1) 2 (mixedF x1 0).n=([0,1],[0,1]) from hlf] at this; exact this)
 have L14:=Lib.hid (show Lst w25 [0,1] u4 k4 by have:=hl2; rw [show leftR (mixedF x1) 2 (mixedF x1 0).n=([0,1],[0,1]) from hlf] at this; exact this)
 rw [show leftR (mixedF x1) 2 (mixedF x1 0).n=([0,1],[0,1]) from hlf]
 clear hbq hres HV hl1 hl2 hlf
 have cc26:w25.cell? ⟨w3.heap.size+1+1,0,none⟩=some (.slice p3 3 c3):=RowIs.cell R3.out 0
 have zz27:w3.heap.size+1+1<w25.heap.size:=RowIs.lt R3.out
 have HV:=Lib.hid (Left_v p3 3 c3 (roundF x3) w25 H3.out (by decide) (fun _ _=>(show (3:Nat)≤1048576 by decide)))
 go_wp2_with fail
 clear cc26 zz27
 refine HV.out.mono ?_
 rintro e w28 ⟨hres,hbq⟩
 obtain ⟨u5,k5,u6,k6,rfl,hl1,hl2⟩:=hres.elim (fun h=>absurd (okay_is (round_ok x3)) h.1) (fun h=>h.2)
 replace H1:=Lib.hid (H1.out.below hbq)
 replace H2:=Lib.hid (H2.out.below hbq)
 replace H3:=Lib.hid (H3.out.below hbq)
 replace R1:=Lib.hid (RowIs.below R1.out hbq)
 replace R2:=Lib.hid (RowIs.below R2.out hbq)
 replace R3:=Lib.hid (RowIs.below R3.out hbq)
 replace Q4:=Lib.hid (RowIs.below Q4.out hbq)
 replace Q6:=Lib.hid (RowIs.below Q6.out hbq)
 replace Q8:=Lib.hid (RowIs.below Q8.out hbq)
 replace L10:=Lib.hid (L10.out.below hbq)
 replace L11:=Lib.hid (L11.out.below hbq)
 replace L13:=Lib.hid (L13.out.below hbq)
 replace L14:=Lib.hid (L14.out.below hbq)
 replace B1:=Lib.hid (bup B1.out hbq)
 have hlf:=round_left x3
 have L16:=Lib.hid (show Lst w28 [0,1,2] u5 k5 by have:=hl1; rw [show leftR (roundF x3) 3 (roundF x3 0).n=([0,1,2],[0,1,2]) from hlf] at this; exact this)
 have L17:=Lib.hid (show Lst w28 [0,1,2] u6 k6 by have:=hl2; rw [show leftR (roundF x3) 3 (roundF x3 0).n=([0,1,2],[0,1,2]) from hlf] at this; exact this)
 rw [show leftR (roundF x3) 3 (roundF x3 0).n=([0,1,2],[0,1,2]) from hlf]
 clear hbq hres HV hl1 hl2 hlf
 have HY0:=Lib.hid (fun x=>by_c (-1) 1 x)
 have HY1:=Lib.hid (fun x=>by_c (1) 1 x)
 go_wp2_with fail
 refine wp_region_runF (C:=fun y=>Below w28.heap.size w28 y) (fun y=>Below w28.heap.size w28 y) (by kernel_rfl) (stable_below w28) (Below.refl _ _) ?_
 change Run _ _ _ _ _ 82 _ _ _
 refine run_gen fun A0 h0 => ?_
 have s0:A0.tmps.size=140:=by rw [h0]; rfl
 have df0:A0.defers=[]:=by rw [h0]
 have e4:A0.eval (.tmp 4) = .pointer (some ⟨b4,0,none⟩):=by rw [h0]; rfl
 have e6:A0.eval (.tmp 6) = .pointer (some ⟨b10,0,none⟩):=by rw [h0]; rfl
 have e8:A0.eval (.tmp 8) = .pointer (some ⟨w15.heap.size,0,none⟩):=by rw [h0]; rfl
 have e3:A0.eval (.tmp 3) = .pointer (some ⟨w3.heap.size+1+1,0,none⟩):=by rw [h0]; rfl
 have e5:A0.eval (.tmp 5) = .int .i64 0:=by rw [h0]; rfl
 have e7:A0.eval (.tmp 7) = .int .i64 0:=by rw [h0]; rfl
 have e9:A0.eval (.tmp 9) = .int .i64 0:=by rw [h0]; rfl
 have e12:A0.eval (.tmp 12) = .int .i64 0:=by rw [h0]; rfl
 have e15:A0.eval (.tmp 15) = .int .i64 0:=by rw [h0]; rfl
 have e18:A0.eval (.tmp 18) = .int .i64 0:=by rw [h0]; rfl
 have e10:A0.eval (.tmp 10) = .slice u1 3 k1:=by rw [h0]; rfl
 have e11:A0.eval (.tmp 11) = .slice u2 3 k2:=by rw [h0]; rfl
 have e13:A0.eval (.tmp 13) = .slice u3 2 k3:=by rw [h0]; rfl
 have e14:A0.eval (.tmp 14) = .slice u4 2 k4:=by rw [h0]; rfl
 have e16:A0.eval (.tmp 16) = .slice u5 3 k5:=by rw [h0]; rfl
 have e17:A0.eval (.tmp 17) = .slice u6 3 k6:=by rw [h0]; rfl
 clear h0
 refine run_takeG (i:=0) (.int .i64 0) rfl (by kernel_rfl) (by kernel_rfl) (by kernel_rfl) (fun y h=>h) (quiet_yes _ (wanted_none rfl) fun y hy=>x_move rfl (by repeat (first | exact e5 | refine ev_o (by assumption) rfl ?_)) y) ?_
 refine run_gen fun A1 hh => ?_
 have h1:A1=A0.put (some 59) (.int .i64 0):=hh
 have s1:A1.tmps.size=140:=by rw [h1,sz_put]; exact s0
 have e59:A1.eval (.tmp 59) = .int .i64 0:=by rw [h1]; exact ev_same (by rw [s0]; decide)
 clear hh
 refine run_takeG (i:=1) (.bool true) rfl (by kernel_rfl) (by kernel_rfl) (by kernel_rfl) (fun y h=>h) (quiet_yes _ (wanted_none rfl) fun y hy=>x_eqE rfl (by repeat (first | exact e59 | refine ev_o (by assumption) rfl ?_)) rfl y) ?_
 refine run_gen fun A2 hh => ?_
 have h2:A2=A1.put (some 60) (.bool true):=hh
 have s2:A2.tmps.size=140:=by rw [h2,sz_put]; exact s1
 have e60:A2.eval (.tmp 60) = .bool true:=by rw [h2]; exact ev_same (by rw [s1]; decide)
 clear hh
 refine run_takeG (i:=2) (.bool true) rfl (by kernel_rfl) (by kernel_rfl) (by kernel_rfl) (fun y h=>h) (quiet_yes _ (wanted_none rfl) fun y hy=>x_move rfl (by repeat (first | exact e60 | refine ev_o (by assumption) rfl ?_)) y) ?_
 refine run_gen fun A3 hh => ?_
 have h3:A3=A2.put (some 61) (.bool true):=hh
 have s3:A3.tmps.size=140:=by rw [h3,sz_put]; exact s2
 have e61:A3.eval (.tmp 61) = .bool true:=by rw [h3]; exact ev_same (by rw [s2]; decide)
 clear hh
 refine run_takeG (i:=3) (.agg #[.int .i64 (-1), .int .i64 1]) rfl (by kernel_rfl) (by kernel_rfl) (by kernel_rfl) (fun y h=>h) (quiet_yes _ (wanted_yes (t:=61) rfl rfl (by rw [s3]; decide) (by repeat (first | exact e61 | refine ev_o (by assumption) rfl ?_))) fun y hy=>x_load rfl (by repeat (first | exact e4 | refine ev_o (by assumption) rfl ?_)) y (RowIs.cell (Q4.out.below hy) 0) (RowIs.cell (Q4.out.below hy) 1) (RowIs.lt (Q4.out.below hy))) ?_
 refine run_gen fun A4 hh => ?_
 have h4:A4=A3.put (some 62) (.agg #[.int .i64 (-1), .int .i64 1]):=hh
 have s4:A4.tmps.size=140:=by rw [h4,sz_put]; exact s3
 have e62:A4.eval (.tmp 62) = .agg #[.int .i64 (-1), .int .i64 1]:=by rw [h4]; exact ev_same (by rw [s3]; decide)
 clear hh
 refine run_takeG (i:=4) (.agg #[.int .i64 (-1), .int .i64 1]) rfl (by kernel_rfl) (by kernel_rfl) (by kernel_rfl) (fun y h=>h) (quiet_call (fn:=45) (args := #[.int .i64 (-1), .int .i64 1]) (wanted_yes (t:=61) rfl rfl (by rw [s4]; decide) (by repeat (first | exact e61 | refine ev_o (by assumption) rfl ?_))) (fun y hy=>(Go.Conc.run_call_body (fn:=Try.f45) rfl Try.func45 (by kernel_rfl) (by kernel_rfl)).trans (by simp [Act.eval])) (fun y hy=>HY0.out y)) ?_
 refine run_gen fun A5 hh => ?_
 have h5:A5=A4.put (some 63) (.agg #[.int .i64 (-1), .int .i64 1]):=hh
 have s5:A5.tmps.size=140:=by rw [h5,sz_put]; exact s4
 have e63:A5.eval (.tmp 63) = .agg #[.int .i64 (-1), .int .i64 1]:=by rw [h5]; exact ev_same (by rw [s4]; decide)
 clear hh
 refine run_takeG (i:=5) (.bool true) rfl (by kernel_rfl) (by kernel_rfl) (by kernel_rfl) (fun y h=>h) (quiet_yes _ (wanted_yes (t:=61) rfl rfl (by rw [s5]; decide) (by repeat (first | exact e61 | refine ev_o (by assumption) rfl ?_))) fun y hy=>x_eqR (-1) 1 rfl (by repeat (first | exact e62 | refine ev_o (by assumption) rfl ?_)) (by repeat (first | exact e63 | refine ev_o (by assumption) rfl ?_)) y) ?_
 refine run_gen fun A6 hh => ?_
 have h6:A6=A5.put (some 64) (.bool true):=hh
 have s6:A6.tmps.size=140:=by rw [h6,sz_put]; exact s5
 have e64:A6.eval (.tmp 64) = .bool true:=by rw [h6]; exact ev_same (by rw [s5]; decide)
 clear hh
 refine run_takeG (i:=6) (.bool true) rfl (by kernel_rfl) (by kernel_rfl) (by kernel_rfl) (fun y h=>h) (quiet_yes _ (wanted_none rfl) fun y hy=>x_pick rfl (by repeat (first | exact e61 | refine ev_o (by assumption) rfl ?_)) (by repeat (first | exact e64 | refine ev_o (by assumption) rfl ?_)) y) ?_
 refine run_gen fun A7 hh => ?_
 have h7:A7=A6.put (some 65) (.bool true):=hh
 have s7:A7.tmps.size=140:=by rw [h7,sz_put]; exact s6
 have e65:A7.eval (.tmp 65) = .bool true:=by rw [h7]; exact ev_same (by rw [s6]; decide)
 clear hh
 refine run_takeG (i:=7) (.bool true) rfl (by kernel_rfl) (by kernel_rfl) (by kernel_rfl) (fun y h=>h) (quiet_yes _ (wanted_none rfl) fun y hy=>x_move rfl (by repeat (first | exact e65 | refine ev_o (by assumption) rfl ?_)) y) ?_
 refine run_gen fun A8 hh => ?_
 have h8:A8=A7.put (some 66) (.bool true):=hh
 have s8:A8.tmps.size=140:=by rw [h8,sz_put]; exact s7
 have e66:A8.eval (.tmp 66) = .bool true:=by rw [h8]; exact ev_same (by rw [s7]; decide)
 clear hh
 refine run_takeG (i:=8) (.int .i64 0) rfl (by kernel_rfl) (by kernel_rfl) (by kernel_rfl) (fun y h=>h) (quiet_yes _ (wanted_yes (t:=66) rfl rfl (by rw [s8]; decide) (by repeat (first | exact e66 | refine ev_o (by assumption) rfl ?_))) fun y hy=>x_move rfl (by repeat (first | exact e7 | refine ev_o (by assumption) rfl ?_)) y) ?_
 refine run_gen fun A9 hh => ?_
 have h9:A9=A8.put (some 67) (.int .i64 0):=hh
 have s9:A9.tmps.size=140:=by rw [h9,sz_put]; exact s8
 have e67:A9.eval (.tmp 67) = .int .i64 0:=by rw [h9]; exact ev_same (by rw [s8]; decide)
 clear hh
 refine run_takeG (i:=9) (.bool true) rfl (by kernel_rfl) (by kernel_rfl) (by kernel_rfl) (fun y h=>h) (quiet_yes _ (wanted_yes (t:=66) rfl rfl (by rw [s9]; decide) (by repeat (first | exact e66 | refine ev_o (by assumption) rfl ?_))) fun y hy=>x_eqE rfl (by repeat (first | exact e67 | refine ev_o (by assumption) rfl ?_)) rfl y) ?_
 refine run_gen fun A10 hh => ?_
 have h10:A10=A9.put (some 68) (.bool true):=hh
 have s10:A10.tmps.size=140:=by rw [h10,sz_put]; exact s9
 have e68:A10.eval (.tmp 68) = .bool true:=by rw [h10]; exact ev_same (by rw [s9]; decide)
 clear hh
 refine run_takeG (i:=10) (.bool true) rfl (by kernel_rfl) (by kernel_rfl) (by kernel_rfl) (fun y h=>h) (quiet_yes _ (wanted_none rfl) fun y hy=>x_pick rfl (by repeat (first | exact e66 | refine ev_o (by assumption) rfl ?_)) (by repeat (first | exact e68 | refine ev_o (by assumption) rfl ?_)) y) ?_
 refine run_gen fun A11 hh => ?_
 have h11:A11=A10.put (some 69) (.bool true):=hh
 have s11:A11.tmps.size=140:=by rw [h11,sz_put]; exact s10
 have e69:A11.eval (.tmp 69) = .bool true:=by rw [h11]; exact ev_same (by rw [s10]; decide)
 clear hh
 refine run_takeG (i:=11) (.bool true) rfl (by kernel_rfl) (by kernel_rfl) (by kernel_rfl) (fun y h=>h) (quiet_yes _ (wanted_none rfl) fun y hy=>x_move rfl (by repeat (first | exact e69 | refine ev_o (by assumption) rfl ?_)) y) ?_
 refine run_gen fun A12 hh => ?_
 have h12:A12=A11.put (some 70) (.bool true):=hh
 have s12:A12.tmps.size=140:=by rw [h12,sz_put]; exact s11
 have e70:A12.eval (.tmp 70) = .bool true:=by rw [h12]; exact ev_same (by rw [s11]; decide)
 clear hh
 refine run_takeG (i:=12) (.agg #[.int .i64 1, .int .i64 1]) rfl (by kernel_rfl) (by kernel_rfl) (by kernel_rfl) (fun y h=>h) (quiet_yes _ (wanted_yes (t:=70) rfl rfl (by rw [s12]; decide) (by repeat (first | exact e70 | refine ev_o (by assumption) rfl ?_))) fun y hy=>x_load rfl (by repeat (first | exact e6 | refine ev_o (by assumption) rfl ?_)) y (RowIs.cell (Q6.out.below hy) 0) (RowIs.cell (Q6.out.below hy) 1) (RowIs.lt (Q6.out.below hy))) ?_
 refine run_gen fun A13 hh => ?_
 have h13:A13=A12.put (some 71) (.agg #[.int .i64 1, .int .i64 1]):=hh
 have s13:A13.tmps.size=140:=by rw [h13,sz_put]; exact s12
 have e71:A13.eval (.tmp 71) = .agg #[.int .i64 1, .int .i64 1]:=by rw [h13]; exact ev_same (by rw [s12]; decide)
 clear hh
 refine run_takeG (i:=13) (.agg #[.int .i64 1, .int .i64 1]) rfl (by kernel_rfl) (by kernel_rfl) (by kernel_rfl) (fun y h=>h) (quiet_call (fn:=45) (args := #[.int .i64 1, .int .i64 1]) (wanted_yes (t:=70) rfl rfl (by rw [s13]; decide) (by repeat (first | exact e70 | refine ev_o (by assumption) rfl ?_))) (fun y hy=>(Go.Conc.run_call_body (fn:=Try.f45) rfl Try.func45 (by kernel_rfl) (by kernel_rfl)).trans (by simp [Act.eval])) (fun y hy=>HY1.out y)) ?_
 refine run_gen fun A14 hh => ?_
 have h14:A14=A13.put (some 72) (.agg #[.int .i64 1, .int .i64 1]):=hh
 have s14:A14.tmps.size=140:=by rw [h14,sz_put]; exact s13
 have e72:A14.eval (.tmp 72) = .agg #[.int .i64 1, .int .i64 1]:=by rw [h14]; exact ev_same (by rw [s13]; decide)
 clear hh
 refine run_takeG (i:=14) (.bool true) rfl (by kernel_rfl) (by kernel_rfl) (by kernel_rfl) (fun y h=>h) (quiet_yes _ (wanted_yes (t:=70) rfl rfl (by rw [s14]; decide) (by repeat (first | exact e70 | refine ev_o (by assumption) rfl ?_))) fun y hy=>x_eqR (1) 1 rfl (by repeat (first | exact e71 | refine ev_o (by assumption) rfl ?_)) (by repeat (first | exact e72 | refine ev_o (by assumption) rfl ?_)) y) ?_
 refine run_gen fun A15 hh => ?_
 have h15:A15=A14.put (some 73) (.bool true):=hh
 have s15:A15.tmps.size=140:=by rw [h15,sz_put]; exact s14
 have e73:A15.eval (.tmp 73) = .bool true:=by rw [h15]; exact ev_same (by rw [s14]; decide)
 clear hh
 refine run_takeG (i:=15) (.bool true) rfl (by kernel_rfl) (by kernel_rfl) (by kernel_rfl) (fun y h=>h) (quiet_yes _ (wanted_none rfl) fun y hy=>x_pick rfl (by repeat (first | exact e70 | refine ev_o (by assumption) rfl ?_)) (by repeat (first | exact e73 | refine ev_o (by assumption) rfl ?_)) y) ?_
 refine run_gen fun A16 hh => ?_
 have h16:A16=A15.put (some 74) (.bool true):=hh
 have s16:A16.tmps.size=140:=by rw [h16,sz_put]; exact s15
 have e74:A16.eval (.tmp 74) = .bool true:=by rw [h16]; exact ev_same (by rw [s15]; decide)
 clear hh
 refine run_takeG (i:=16) (.bool true) rfl (by kernel_rfl) (by kernel_rfl) (by kernel_rfl) (fun y h=>h) (quiet_yes _ (wanted_none rfl) fun y hy=>x_move rfl (by repeat (first | exact e74 | refine ev_o (by assumption) rfl ?_)) y) ?_
 refine run_gen fun A17 hh => ?_
 have h17:A17=A16.put (some 75) (.bool true):=hh
 have s17:A17.tmps.size=140:=by rw [h17,sz_put]; exact s16
 have e75:A17.eval (.tmp 75) = .bool true:=by rw [h17]; exact ev_same (by rw [s16]; decide)
 clear hh
 refine run_takeG (i:=17) (.int .i64 0) rfl (by kernel_rfl) (by kernel_rfl) (by kernel_rfl) (fun y h=>h) (quiet_yes _ (wanted_yes (t:=75) rfl rfl (by rw [s17]; decide) (by repeat (first | exact e75 | refine ev_o (by assumption) rfl ?_))) fun y hy=>x_move rfl (by repeat (first | exact e9 | refine ev_o (by assumption) rfl ?_)) y) ?_
 refine run_gen fun A18 hh => ?_
 have h18:A18=A17.put (some 76) (.int .i64 0):=hh
 have s18:A18.tmps.size=140:=by rw [h18,sz_put]; exact s17
 have e76:A18.eval (.tmp 76) = .int .i64 0:=by rw [h18]; exact ev_same (by rw [s17]; decide)
 clear hh
 refine run_takeG (i:=18) (.bool true) rfl (by kernel_rfl) (by kernel_rfl) (by kernel_rfl) (fun y h=>h) (quiet_yes _ (wanted_yes (t:=75) rfl rfl (by rw [s18]; decide) (by repeat (first | exact e75 | refine ev_o (by assumption) rfl ?_))) fun y hy=>x_eqE rfl (by repeat (first | exact e76 | refine ev_o (by assumption) rfl ?_)) rfl y) ?_
 refine run_gen fun A19 hh => ?_
 have h19:A19=A18.put (some 77) (.bool true):=hh
 have s19:A19.tmps.size=140:=by rw [h19,sz_put]; exact s18
 have e77:A19.eval (.tmp 77) = .bool true:=by rw [h19]; exact ev_same (by rw [s18]; decide)
 clear hh
 refine run_takeG (i:=19) (.bool true) rfl (by kernel_rfl) (by kernel_rfl) (by kernel_rfl) (fun y h=>h) (quiet_yes _ (wanted_none rfl) fun y hy=>x_pick rfl (by repeat (first | exact e75 | refine ev_o (by assumption) rfl ?_)) (by repeat (first | exact e77 | refine ev_o (by assumption) rfl ?_)) y) ?_
 refine run_gen fun A20 hh => ?_
 have h20:A20=A19.put (some 78) (.bool true):=hh
 have s20:A20.tmps.size=140:=by rw [h20,sz_put]; exact s19
 have e78:A20.eval (.tmp 78) = .bool true:=by rw [h20]; exact ev_same (by rw [s19]; decide)
 clear hh
 refine run_takeG (i:=20) (.bool true) rfl (by kernel_rfl) (by kernel_rfl) (by kernel_rfl) (fun y h=>h) (quiet_yes _ (wanted_none rfl) fun y hy=>x_move rfl (by repeat (first | exact e78 | refine ev_o (by assumption) rfl ?_)) y) ?_
 refine run_gen fun A21 hh => ?_
 have h21:A21=A20.put (some 79) (.bool true):=hh
 have s21:A21.tmps.size=140:=by rw [h21,sz_put]; exact s20
 have e79:A21.eval (.tmp 79) = .bool true:=by rw [h21]; exact ev_same (by rw [s20]; decide)
 clear hh
 refine run_takeG (i:=21) (.agg #[.int .i64 1, .int .i64 1]) rfl (by kernel_rfl) (by kernel_rfl) (by kernel_rfl) (fun y h=>h) (quiet_yes _ (wanted_yes (t:=79) rfl rfl (by rw [s21]; decide) (by repeat (first | exact e79 | refine ev_o (by assumption) rfl ?_))) fun y hy=>x_load rfl (by repeat (first | exact e8 | refine ev_o (by assumption) rfl ?_)) y (RowIs.cell (Q8.out.below hy) 0) (RowIs.cell (Q8.out.below hy) 1) (RowIs.lt (Q8.out.below hy))) ?_
 refine run_gen fun A22 hh => ?_
 have h22:A22=A21.put (some 80) (.agg #[.int .i64 1, .int .i64 1]):=hh
 have s22:A22.tmps.size=140:=by rw [h22,sz_put]; exact s21
 have e80:A22.eval (.tmp 80) = .agg #[.int .i64 1, .int .i64 1]:=by rw [h22]; exact ev_same (by rw [s21]; decide)
 clear hh
 refine run_takeG (i:=22) (.agg #[.int .i64 1, .int .i64 1]) rfl (by kernel_rfl) (by kernel_rfl) (by kernel_rfl) (fun y h=>h) (quiet_call (fn:=45) (args := #[.int .i64 1, .int .i64 1]) (wanted_yes (t:=79) rfl rfl (by rw [s22]; decide) (by repeat (first | exact e79 | refine ev_o (by assumption) rfl ?_))) (fun y hy=>(Go.Conc.run_call_body (fn:=Try.f45) rfl Try.func45 (by kernel_rfl) (by kernel_rfl)).trans (by simp [Act.eval])) (fun y hy=>HY1.out y)) ?_
 refine run_gen fun A23 hh => ?_
 have h23:A23=A22.put (some 81) (.agg #[.int .i64 1, .int .i64 1]):=hh
 have s23:A23.tmps.size=140:=by rw [h23,sz_put]; exact s22
 have e81:A23.eval (.tmp 81) = .agg #[.int .i64 1, .int .i64 1]:=by rw [h23]; exact ev_same (by rw [s22]; decide)
 clear hh
 refine run_takeG (i:=23) (.bool true) rfl (by kernel_rfl) (by kernel_rfl) (by kernel_rfl) (fun y h=>h) (quiet_yes _ (wanted_yes (t:=79) rfl rfl (by rw [s23]; decide) (by repeat (first | exact e79 | refine ev_o (by assumption) rfl ?_))) fun y hy=>x_eqR (1) 1 rfl (by repeat (first | exact e80 | refine ev_o (by assumption) rfl ?_)) (by repeat (first | exact e81 | refine ev_o (by assumption) rfl ?_)) y) ?_
 refine run_gen fun A24 hh => ?_
 have h24:A24=A23.put (some 82) (.bool true):=hh
 have s24:A24.tmps.size=140:=by rw [h24,sz_put]; exact s23
 have e82:A24.eval (.tmp 82) = .bool true:=by rw [h24]; exact ev_same (by rw [s23]; decide)
 clear hh
 refine run_takeG (i:=24) (.bool true) rfl (by kernel_rfl) (by kernel_rfl) (by kernel_rfl) (fun y h=>h) (quiet_yes _ (wanted_none rfl) fun y hy=>x_pick rfl (by repeat (first | exact e79 | refine ev_o (by assumption) rfl ?_)) (by repeat (first | exact e82 | refine ev_o (by assumption) rfl ?_)) y) ?_
 refine run_gen fun A25 hh => ?_
 have h25:A25=A24.put (some 83) (.bool true):=hh
 have s25:A25.tmps.size=140:=by rw [h25,sz_put]; exact s24
 have e83:A25.eval (.tmp 83) = .bool true:=by rw [h25]; exact ev_same (by rw [s24]; decide)
 clear hh
 refine run_takeG (i:=25) (.bool true) rfl (by kernel_rfl) (by kernel_rfl) (by kernel_rfl) (fun y h=>h) (quiet_yes _ (wanted_none rfl) fun y hy=>x_move rfl (by repeat (first | exact e83 | refine ev_o (by assumption) rfl ?_)) y) ?_
 refine run_gen fun A26 hh => ?_
 have h26:A26=A25.put (some 84) (.bool true):=hh
 have s26:A26.tmps.size=140:=by rw [h26,sz_put]; exact s25
 have e84:A26.eval (.tmp 84) = .bool true:=by rw [h26]; exact ev_same (by rw [s25]; decide)
 clear hh
 refine run_takeG (i:=26) (.int .i64 0) rfl (by kernel_rfl) (by kernel_rfl) (by kernel_rfl) (fun y h=>h) (quiet_yes _ (wanted_yes (t:=84) rfl rfl (by rw [s26]; decide) (by repeat (first | exact e84 | refine ev_o (by assumption) rfl ?_))) fun y hy=>x_move rfl (by repeat (first | exact e12 | refine ev_o (by assumption) rfl ?_)) y) ?_
 refine run_gen fun A27 hh => ?_
 have h27:A27=A26.put (some 85) (.int .i64 0):=hh
 have s27:A27.tmps.size=140:=by rw [h27,sz_put]; exact s26
 have e85:A27.eval (.tmp 85) = .int .i64 0:=by rw [h27]; exact ev_same (by rw [s26]; decide)
 clear hh
 refine run_takeG (i:=27) (.bool true) rfl (by kernel_rfl) (by kernel_rfl) (by kernel_rfl) (fun y h=>h) (quiet_yes _ (wanted_yes (t:=84) rfl rfl (by rw [s27]; decide) (by repeat (first | exact e84 | refine ev_o (by assumption) rfl ?_))) fun y hy=>x_eqE rfl (by repeat (first | exact e85 | refine ev_o (by assumption) rfl ?_)) rfl y) ?_
 refine run_gen fun A28 hh => ?_
 have h28:A28=A27.put (some 86) (.bool true):=hh
 have s28:A28.tmps.size=140:=by rw [h28,sz_put]; exact s27
 have e86:A28.eval (.tmp 86) = .bool true:=by rw [h28]; exact ev_same (by rw [s27]; decide)
 clear hh
 refine run_takeG (i:=28) (.bool true) rfl (by kernel_rfl) (by kernel_rfl) (by kernel_rfl) (fun y h=>h) (quiet_yes _ (wanted_none rfl) fun y hy=>x_pick rfl (by repeat (first | exact e84 | refine ev_o (by assumption) rfl ?_)) (by repeat (first | exact e86 | refine ev_o (by assumption) rfl ?_)) y) ?_
 refine run_gen fun A29 hh => ?_
 have h29:A29=A28.put (some 87) (.bool true):=hh
 have s29:A29.tmps.size=140:=by rw [h29,sz_put]; exact s28
 have e87:A29.eval (.tmp 87) = .bool true:=by rw [h29]; exact ev_same (by rw [s28]; decide)
 clear hh
 refine run_takeG (i:=29) (.bool true) rfl (by kernel_rfl) (by kernel_rfl) (by kernel_rfl) (fun y h=>h) (quiet_yes _ (wanted_none rfl) fun y hy=>x_move rfl (by repeat (first | exact e87 | refine ev_o (by assumption) rfl ?_)) y) ?_
 refine run_gen fun A30 hh => ?_
 have h30:A30=A29.put (some 88) (.bool true):=hh
 have s30:A30.tmps.size=140:=by rw [h30,sz_put]; exact s29
 have e88:A30.eval (.tmp 88) = .bool true:=by rw [h30]; exact ev_same (by rw [s29]; decide)
 clear hh
 refine run_takeG (i:=30) (.slice u1 3 k1) rfl (by kernel_rfl) (by kernel_rfl) (by kernel_rfl) (fun y h=>h) (quiet_yes _ (wanted_yes (t:=88) rfl rfl (by rw [s30]; decide) (by repeat (first | exact e88 | refine ev_o (by assumption) rfl ?_))) fun y hy=>x_move rfl (by repeat (first | exact e10 | refine ev_o (by assumption) rfl ?_)) y) ?_
 refine run_gen fun A31 hh => ?_
 have h31:A31=A30.put (some 89) (.slice u1 3 k1):=hh
 have s31:A31.tmps.size=140:=by rw [h31,sz_put]; exact s30
 have e89:A31.eval (.tmp 89) = .slice u1 3 k1:=by rw [h31]; exact ev_same (by rw [s30]; decide)
 clear hh
 refine run_only (i:=31) (by kernel_rfl) (at_makeG (w0:=w28) (t:=90) (z:= .cells #[.int .i64 0, .int .i64 1, .int .i64 2] 3 (0,0)) (fun q=> .slice (some ⟨q,0,none⟩) 3 3) (fun _=>False) slice_inj rfl (wanted_yes (t:=88) rfl rfl (by rw [s31]; decide) (by repeat (first | exact e88 | refine ev_o (by assumption) rfl ?_))) rfl (fun y _=>by go_simp) (fun y h=>h.size) (fun _ _ _ h=>h.elim) ?_)
 intro d0 hd0 _
 refine run_gen fun A32 hh => ?_
 have h32:A32=A31.put (some 90) (.slice (some ⟨d0,0,none⟩) 3 3):=hh
 have s32:A32.tmps.size=140:=by rw [h32,sz_put]; exact s31
 have e90:A32.eval (.tmp 90) = .slice (some ⟨d0,0,none⟩) 3 3:=by rw [h32]; exact ev_same (by rw [s31]; decide)
 clear hh
 refine run_takeG (i:=32) (.slice (some ⟨d0,0,none⟩) 3 3) rfl (by kernel_rfl) (by kernel_rfl) (by kernel_rfl) (fun y h=>h.1) (quiet_call (fn:=60) (args := #[.slice (some ⟨d0,0,none⟩) 3 3]) (wanted_yes (t:=88) rfl rfl (by rw [s32]; decide) (by repeat (first | exact e88 | refine ev_o (by assumption) rfl ?_))) (fun y hy=>(Go.Conc.run_call_body (fn:=Try.f60) rfl Try.func60 (by kernel_rfl) (by kernel_rfl)).trans (by simp only [List.map_toArray,List.map_cons,List.map_nil,e90])) (fun y hy=>(of_c _ _ _ y).mono (by rintro e w1 ⟨h1,rfl⟩; exact ⟨h1,Below.refl _ _⟩))) ?_
 refine run_gen fun A33 hh => ?_
 have h33:A33=A32.put (some 91) (.slice (some ⟨d0,0,none⟩) 3 3):=hh
 have s33:A33.tmps.size=140:=by rw [h33,sz_put]; exact s32
 have e91:A33.eval (.tmp 91) = .slice (some ⟨d0,0,none⟩) 3 3:=by rw [h33]; exact ev_same (by rw [s32]; decide)
 clear hh
 have f0:A33.eval (.tmp 89) = .slice u1 3 k1:=(by repeat (first | exact e89 | refine ev_o (by assumption) rfl ?_))
 refine run_only (i:=33) (by kernel_rfl) (at_quiet (.bool true) rfl (quiet_call (fn:=35) (args := #[.slice u1 3 k1, .slice (some ⟨d0,0,none⟩) 3 3]) (wanted_yes (t:=88) rfl rfl (by rw [s33]; decide) (by repeat (first | exact e88 | refine ev_o (by assumption) rfl ?_))) (fun y hy=>(Go.Conc.run_call_body (fn:=Try.f35) rfl Try.func35 (by kernel_rfl) (by kernel_rfl)).trans (by simp only [List.map_toArray,List.map_cons,List.map_nil,f0,e91])) (fun y hy => ?_)) ?_)
 ·have hl:Ints y (some ⟨d0,0,none⟩) 3 (ltN [0,1,2]):=ints_has [0,1,2] hy.2
  have hI:=Ints_c u1 3 k1 (natI [0,1,2]) (some ⟨d0,0,none⟩) 3 3 (ltN [0,1,2]) y (L10.out.below hy.1).cells hl (by decide)
  rw [show intsB 3 (natI [0,1,2]) 3 (ltN [0,1,2])=true by decide +kernel] at hI
  exact hI
 refine run_gen fun A34 hh => ?_
 have h34:A34=A33.put (some 92) (.bool true):=hh
 have s34:A34.tmps.size=140:=by rw [h34,sz_put]; exact s33
 have e92:A34.eval (.tmp 92) = .bool true:=by rw [h34]; exact ev_same (by rw [s33]; decide)
 clear hh
 refine run_mono _ _ _ _ _ (fun y (h:Below w28.heap.size w28 y∧y.heap[d0]? = some (.cells #[.int .i64 0, .int .i64 1, .int .i64 2] 3 (0,0)))=>h.1) ?_
 refine run_takeG (i:=34) (.bool true) rfl (by kernel_rfl) (by kernel_rfl) (by kernel_rfl) (fun y h=>h) (quiet_yes _ (wanted_none rfl) fun y hy=>x_pick rfl (by repeat (first | exact e88 | refine ev_o (by assumption) rfl ?_)) (by repeat (first | exact e92 | refine ev_o (by assumption) rfl ?_)) y) ?_
 refine run_gen fun A35 hh => ?_
 have h35:A35=A34.put (some 93) (.bool true):=hh
 have s35:A35.tmps.size=140:=by rw [h35,sz_put]; exact s34
 have e93:A35.eval (.tmp 93) = .bool true:=by rw [h35]; exact ev_same (by rw [s34]; decide)
 clear hh
 refine run_takeG (i:=35) (.bool true) rfl (by kernel_rfl) (by kernel_rfl) (by kernel_rfl) (fun y h=>h) (quiet_yes _ (wanted_none rfl) fun y hy=>x_move rfl (by repeat (first | exact e93 | refine ev_o (by assumption) rfl ?_)) y) ?_
 refine run_gen fun A36 hh => ?_
 have h36:A36=A35.put (some 94) (.bool true):=hh
 have s36:A36.tmps.size=140:=by rw [h36,sz_put]; exact s35
 have e94:A36.eval (.tmp 94) = .bool true:=by rw [h36]; exact ev_same (by rw [s35]; decide)
 clear hh
 refine run_takeG (i:=36) (.slice u2 3 k2) rfl (by kernel_rfl) (by kernel_rfl) (by kernel_rfl) (fun y h=>h) (quiet_yes _ (wanted_yes (t:=94) rfl rfl (by rw [s36]; decide) (by repeat (first | exact e94 | refine ev_o (by assumption) rfl ?_))) fun y hy=>x_move rfl (by repeat (first | exact e11 | refine ev_o (by assumption) rfl ?_)) y) ?_
 refine run_gen fun A37 hh => ?_
 have h37:A37=A36.put (some 95) (.slice u2 3 k2):=hh
 have s37:A37.tmps.size=140:=by rw [h37,sz_put]; exact s36
 have e95:A37.eval (.tmp 95) = .slice u2 3 k2:=by rw [h37]; exact ev_same (by rw [s36]; decide)
 clear hh
 refine run_only (i:=37) (by kernel_rfl) (at_makeG (w0:=w28) (t:=96) (z:= .cells #[.int .i64 0, .int .i64 1, .int .i64 2] 3 (0,0)) (fun q=> .slice (some ⟨q,0,none⟩) 3 3) (fun _=>False) slice_inj rfl (wanted_yes (t:=94) rfl rfl (by rw [s37]; decide) (by repeat (first | exact e94 | refine ev_o (by assumption) rfl ?_))) rfl (fun y _=>by go_simp) (fun y h=>h.size) (fun _ _ _ h=>h.elim) ?_)
 intro d1 hd1 _
 refine run_gen fun A38 hh => ?_
 have h38:A38=A37.put (some 96) (.slice (some ⟨d1,0,none⟩) 3 3):=hh
 have s38:A38.tmps.size=140:=by rw [h38,sz_put]; exact s37
 have e96:A38.eval (.tmp 96) = .slice (some ⟨d1,0,none⟩) 3 3:=by rw [h38]; exact ev_same (by rw [s37]; decide)
 clear hh
 refine run_takeG (i:=38) (.slice (some ⟨d1,0,none⟩) 3 3) rfl (by kernel_rfl) (by kernel_rfl) (by kernel_rfl) (fun y h=>h.1) (quiet_call (fn:=60) (args := #[.slice (some ⟨d1,0,none⟩) 3 3]) (wanted_yes (t:=94) rfl rfl (by rw [s38]; decide) (by repeat (first | exact e94 | refine ev_o (by assumption) rfl ?_))) (fun y hy=>(Go.Conc.run_call_body (fn:=Try.f60) rfl Try.func60 (by kernel_rfl) (by kernel_rfl)).trans (by simp only [List.map_toArray,List.map_cons,List.map_nil,e96])) (fun y hy=>(of_c _ _ _ y).mono (by rintro e w1 ⟨h1,rfl⟩; exact ⟨h1,Below.refl _ _⟩))) ?_
 refine run_gen fun A39 hh => ?_
 have h39:A39=A38.put (some 97) (.slice (some ⟨d1,0,none⟩) 3 3):=hh
 have s39:A39.tmps.size=140:=by rw [h39,sz_put]; exact s38
 have e97:A39.eval (.tmp 97) = .slice (some ⟨d1,0,none⟩) 3 3:=by rw [h39]; exact ev_same (by rw [s38]; decide)
 clear hh
 have f1:A39.eval (.tmp 95) = .slice u2 3 k2:=(by repeat (first | exact e95 | refine ev_o (by assumption) rfl ?_))
 refine run_only (i:=39) (by kernel_rfl) (at_quiet (.bool true) rfl (quiet_call (fn:=35) (args := #[.slice u2 3 k2, .slice (some ⟨d1,0,none⟩) 3 3]) (wanted_yes (t:=94) rfl rfl (by rw [s39]; decide) (by repeat (first | exact e94 | refine ev_o (by assumption) rfl ?_))) (fun y hy=>(Go.Conc.run_call_body (fn:=Try.f35) rfl Try.func35 (by kernel_rfl) (by kernel_rfl)).trans (by simp only [List.map_toArray,List.map_cons,List.map_nil,f1,e97])) (fun y hy => ?_)) ?_)
 ·have hl:Ints y (some ⟨d1,0,none⟩) 3 (ltN [0,1,2]):=ints_has [0,1,2] hy.2
  have hI:=Ints_c u2 3 k2 (natI [0,1,2]) (some ⟨d1,0,none⟩) 3 3 (ltN [0,1,2]) y (L11.out.below hy.1).cells hl (by decide)
  rw [show intsB 3 (natI [0,1,2]) 3 (ltN [0,1,2])=true by decide +kernel] at hI
  exact hI
 refine run_gen fun A40 hh => ?_
 have h40:A40=A39.put (some 98) (.bool true):=hh
 have s40:A40.tmps.size=140:=by rw [h40,sz_put]; exact s39
 have e98:A40.eval (.tmp 98) = .bool true:=by rw [h40]; exact ev_same (by rw [s39]; decide)
 clear hh
 refine run_mono _ _ _ _ _ (fun y (h:Below w28.heap.size w28 y∧y.heap[d1]? = some (.cells #[.int .i64 0, .int .i64 1, .int .i64 2] 3 (0,0)))=>h.1) ?_
 refine run_takeG (i:=40) (.bool true) rfl (by kernel_rfl) (by kernel_rfl) (by kernel_rfl) (fun y h=>h) (quiet_yes _ (wanted_none rfl) fun y hy=>x_pick rfl (by repeat (first | exact e94 | refine ev_o (by assumption) rfl ?_)) (by repeat (first | exact e98 | refine ev_o (by assumption) rfl ?_)) y) ?_
 refine run_gen fun A41 hh => ?_
 have h41:A41=A40.put (some 99) (.bool true):=hh
 have s41:A41.tmps.size=140:=by rw [h41,sz_put]; exact s40
 have e99:A41.eval (.tmp 99) = .bool true:=by rw [h41]; exact ev_same (by rw [s40]; decide)
 clear hh
 refine run_takeG (i:=41) (.bool true) rfl (by kernel_rfl) (by kernel_rfl) (by kernel_rfl) (fun y h=>h) (quiet_yes _ (wanted_none rfl) fun y hy=>x_move rfl (by repeat (first | exact e99 | refine ev_o (by assumption) rfl ?_)) y) ?_
 refine run_gen fun A42 hh => ?_
 have h42:A42=A41.put (some 100) (.bool true):=hh
 have s42:A42.tmps.size=140:=by rw [h42,sz_put]; exact s41
 have e100:A42.eval (.tmp 100) = .bool true:=by rw [h42]; exact ev_same (by rw [s41]; decide)
 clear hh
 refine run_takeG (i:=42) (.int .i64 0) rfl (by kernel_rfl) (by kernel_rfl) (by kernel_rfl) (fun y h=>h) (quiet_yes _ (wanted_yes (t:=100) rfl rfl (by rw [s42]; decide) (by repeat (first | exact e100 | refine ev_o (by assumption) rfl ?_))) fun y hy=>x_move rfl (by repeat (first | exact e15 | refine ev_o (by assumption) rfl ?_)) y) ?_
 refine run_gen fun A43 hh => ?_
 have h43:A43=A42.put (some 101) (.int .i64 0):=hh
 have s43:A43.tmps.size=140:=by rw [h43,sz_put]; exact s42
 have e101:A43.eval (.tmp 101) = .int .i64 0:=by rw [h43]; exact ev_same (by rw [s42]; decide)
 clear hh
 refine run_takeG (i:=43) (.bool true) rfl (by kernel_rfl) (by kernel_rfl) (by kernel_rfl) (fun y h=>h) (quiet_yes _ (wanted_yes (t:=100) rfl rfl (by rw [s43]; decide) (by repeat (first | exact e100 | refine ev_o (by assumption) rfl ?_))) fun y hy=>x_eqE rfl (by repeat (first | exact e101 | refine ev_o (by assumption) rfl ?_)) rfl y) ?_
 refine run_gen fun A44 hh => ?_
 have h44:A44=A43.put (some 102) (.bool true):=hh
 have s44:A44.tmps.size=140:=by rw [h44,sz_put]; exact s43
 have e102:A44.eval (.tmp 102) = .bool true:=by rw [h44]; exact ev_same (by rw [s43]; decide)
 clear hh
 refine run_takeG (i:=44) (.bool true) rfl (by kernel_rfl) (by kernel_rfl) (by kernel_rfl) (fun y h=>h) (quiet_yes _ (wanted_none rfl) fun y hy=>x_pick rfl (by repeat (first | exact e100 | refine ev_o (by assumption) rfl ?_)) (by repeat (first | exact e102 | refine ev_o (by assumption) rfl ?_)) y) ?_
 refine run_gen fun A45 hh => ?_
 have h45:A45=A44.put (some 103) (.bool true):=hh
 have s45:A45.tmps.size=140:=by rw [h45,sz_put]; exact s44
 have e103:A45.eval (.tmp 103) = .bool true:=by rw [h45]; exact ev_same (by rw [s44]; decide)
 clear hh
 refine run_takeG (i:=45) (.bool true) rfl (by kernel_rfl) (by kernel_rfl) (by kernel_rfl) (fun y h=>h) (quiet_yes _ (wanted_none rfl) fun y hy=>x_move rfl (by repeat (first | exact e103 | refine ev_o (by assumption) rfl ?_)) y) ?_
 refine run_gen fun A46 hh => ?_
 have h46:A46=A45.put (some 104) (.bool true):=hh
 have s46:A46.tmps.size=140:=by rw [h46,sz_put]; exact s45
 have e104:A46.eval (.tmp 104) = .bool true:=by rw [h46]; exact ev_same (by rw [s45]; decide)
 clear hh
 refine run_takeG (i:=46) (.slice u3 2 k3) rfl (by kernel_rfl) (by kernel_rfl) (by kernel_rfl) (fun y h=>h) (quiet_yes _ (wanted_yes (t:=104) rfl rfl (by rw [s46]; decide) (by repeat (first | exact e104 | refine ev_o (by assumption) rfl ?_))) fun y hy=>x_move rfl (by repeat (first | exact e13 | refine ev_o (by assumption) rfl ?_)) y) ?_
 refine run_gen fun A47 hh => ?_
 have h47:A47=A46.put (some 105) (.slice u3 2 k3):=hh
 have s47:A47.tmps.size=140:=by rw [h47,sz_put]; exact s46
 have e105:A47.eval (.tmp 105) = .slice u3 2 k3:=by rw [h47]; exact ev_same (by rw [s46]; decide)
 clear hh
 refine run_only (i:=47) (by kernel_rfl) (at_makeG (w0:=w28) (t:=106) (z:= .cells #[.int .i64 0, .int .i64 1] 3 (0,0)) (fun q=> .slice (some ⟨q,0,none⟩) 2 2) (fun _=>False) slice_inj rfl (wanted_yes (t:=104) rfl rfl (by rw [s47]; decide) (by repeat (first | exact e104 | refine ev_o (by assumption) rfl ?_))) rfl (fun y _=>by go_simp) (fun y h=>h.size) (fun _ _ _ h=>h.elim) ?_)
 intro d2 hd2 _
 refine run_gen fun A48 hh => ?_
 have h48:A48=A47.put (some 106) (.slice (some ⟨d2,0,none⟩) 2 2):=hh
 have s48:A48.tmps.size=140:=by rw [h48,sz_put]; exact s47
 have e106:A48.eval (.tmp 106) = .slice (some ⟨d2,0,none⟩) 2 2:=by rw [h48]; exact ev_same (by rw [s47]; decide)
 clear hh
 refine run_takeG (i:=48) (.slice (some ⟨d2,0,none⟩) 2 2) rfl (by kernel_rfl) (by kernel_rfl) (by kernel_rfl) (fun y h=>h.1) (quiet_call (fn:=60) (args := #[.slice (some ⟨d2,0,none⟩) 2 2]) (wanted_yes (t:=104) rfl rfl (by rw [s48]; decide) (by repeat (first | exact e104 | refine ev_o (by assumption) rfl ?_))) (fun y hy=>(Go.Conc.run_call_body (fn:=Try.f60) rfl Try.func60 (by kernel_rfl) (by kernel_rfl)).trans (by simp only [List.map_toArray,List.map_cons,List.map_nil,e106])) (fun y hy=>(of_c _ _ _ y).mono (by rintro e w1 ⟨h1,rfl⟩; exact ⟨h1,Below.refl _ _⟩))) ?_
 refine run_gen fun A49 hh => ?_
 have h49:A49=A48.put (some 107) (.slice (some ⟨d2,0,none⟩) 2 2):=hh
 have s49:A49.tmps.size=140:=by rw [h49,sz_put]; exact s48
 have e107:A49.eval (.tmp 107) = .slice (some ⟨d2,0,none⟩) 2 2:=by rw [h49]; exact ev_same (by rw [s48]; decide)
 clear hh
 have f2:A49.eval (.tmp 105) = .slice u3 2 k3:=(by repeat (first | exact e105 | refine ev_o (by assumption) rfl ?_))
 refine run_only (i:=49) (by kernel_rfl) (at_quiet (.bool true) rfl (quiet_call (fn:=35) (args := #[.slice u3 2 k3, .slice (some ⟨d2,0,none⟩) 2 2]) (wanted_yes (t:=104) rfl rfl (by rw [s49]; decide) (by repeat (first | exact e104 | refine ev_o (by assumption) rfl ?_))) (fun y hy=>(Go.Conc.run_call_body (fn:=Try.f35) rfl Try.func35 (by kernel_rfl) (by kernel_rfl)).trans (by simp only [List.map_toArray,List.map_cons,List.map_nil,f2,e107])) (fun y hy => ?_)) ?_)
 ·have hl:Ints y (some ⟨d2,0,none⟩) 2 (ltN [0,1]):=ints_has [0,1] hy.2
  have hI:=Ints_c u3 2 k3 (natI [0,1]) (some ⟨d2,0,none⟩) 2 2 (ltN [0,1]) y (L13.out.below hy.1).cells hl (by decide)
  rw [show intsB 2 (natI [0,1]) 2 (ltN [0,1])=true by decide +kernel] at hI
  exact hI
 refine run_gen fun A50 hh => ?_
 have h50:A50=A49.put (some 108) (.bool true):=hh
 have s50:A50.tmps.size=140:=by rw [h50,sz_put]; exact s49
 have e108:A50.eval (.tmp 108) = .bool true:=by rw [h50]; exact ev_same (by rw [s49]; decide)
 clear hh
 refine run_mono _ _ _ _ _ (fun y (h:Below w28.heap.size w28 y∧y.heap[d2]? = some (.cells #[.int .i64 0, .int .i64 1] 3 (0,0)))=>h.1) ?_
 refine run_takeG (i:=50) (.bool true) rfl (by kernel_rfl) (by kernel_rfl) (by kernel_rfl) (fun y h=>h) (quiet_yes _ (wanted_none rfl) fun y hy=>x_pick rfl (by repeat (first | exact e104 | refine ev_o (by assumption) rfl ?_)) (by repeat (first | exact e108 | refine ev_o (by assumption) rfl ?_)) y) ?_
 refine run_gen fun A51 hh => ?_
 have h51:A51=A50.put (some 109) (.bool true):=hh
 have s51:A51.tmps.size=140:=by rw [h51,sz_put]; exact s50
 have e109:A51.eval (.tmp 109) = .bool true:=by rw [h51]; exact ev_same (by rw [s50]; decide)
 clear hh
 refine run_takeG (i:=51) (.bool true) rfl (by kernel_rfl) (by kernel_rfl) (by kernel_rfl) (fun y h=>h) (quiet_yes _ (wanted_none rfl) fun y hy=>x_move rfl (by repeat (first | exact e109 | refine ev_o (by assumption) rfl ?_)) y) ?_
 refine run_gen fun A52 hh => ?_
 have h52:A52=A51.put (some 110) (.bool true):=hh
 have s52:A52.tmps.size=140:=by rw [h52,sz_put]; exact s51
 have e110:A52.eval (.tmp 110) = .bool true:=by rw [h52]; exact ev_same (by rw [s51]; decide)
 clear hh
 refine run_takeG (i:=52) (.slice u4 2 k4) rfl (by kernel_rfl) (by kernel_rfl) (by kernel_rfl) (fun y h=>h) (quiet_yes _ (wanted_yes (t:=110) rfl rfl (by rw [s52]; decide) (by repeat (first | exact e110 | refine ev_o (by assumption) rfl ?_))) fun y hy=>x_move rfl (by repeat (first | exact e14 | refine ev_o (by assumption) rfl ?_)) y) ?_
 refine run_gen fun A53 hh => ?_
 have h53:A53=A52.put (some 111) (.slice u4 2 k4):=hh
 have s53:A53.tmps.size=140:=by rw [h53,sz_put]; exact s52
 have e111:A53.eval (.tmp 111) = .slice u4 2 k4:=by rw [h53]; exact ev_same (by rw [s52]; decide)
 clear hh
 refine run_only (i:=53) (by kernel_rfl) (at_makeG (w0:=w28) (t:=112) (z:= .cells #[.int .i64 0, .int .i64 1] 3 (0,0)) (fun q=> .slice (some ⟨q,0,none⟩) 2 2) (fun _=>False) slice_inj rfl (wanted_yes (t:=110) rfl rfl (by rw [s53]; decide) (by repeat (first | exact e110 | refine ev_o (by assumption) rfl ?_))) rfl (fun y _=>by go_simp) (fun y h=>h.size) (fun _ _ _ h=>h.elim) ?_)
 intro d3 hd3 _
 refine run_gen fun A54 hh => ?_
 have h54:A54=A53.put (some 112) (.slice (some ⟨d3,0,none⟩) 2 2):=hh
 have s54:A54.tmps.size=140:=by rw [h54,sz_put]; exact s53
 have e112:A54.eval (.tmp 112) = .slice (some ⟨d3,0,none⟩) 2 2:=by rw [h54]; exact ev_same (by rw [s53]; decide)
 clear hh
 refine run_takeG (i:=54) (.slice (some ⟨d3,0,none⟩) 2 2) rfl (by kernel_rfl) (by kernel_rfl) (by kernel_rfl) (fun y h=>h.1) (quiet_call (fn:=60) (args := #[.slice (some ⟨d3,0,none⟩) 2 2]) (wanted_yes (t:=110) rfl rfl (by rw [s54]; decide) (by repeat (first | exact e110 | refine ev_o (by assumption) rfl ?_))) (fun y hy=>(Go.Conc.run_call_body (fn:=Try.f60) rfl Try.func60 (by kernel_rfl) (by kernel_rfl)).trans (by simp only [List.map_toArray,List.map_cons,List.map_nil,e112])) (fun y hy=>(of_c _ _ _ y).mono (by rintro e w1 ⟨h1,rfl⟩; exact ⟨h1,Below.refl _ _⟩))) ?_
 refine run_gen fun A55 hh => ?_
 have h55:A55=A54.put (some 113) (.slice (some ⟨d3,0,none⟩) 2 2):=hh
 have s55:A55.tmps.size=140:=by rw [h55,sz_put]; exact s54
 have e113:A55.eval (.tmp 113) = .slice (some ⟨d3,0,none⟩) 2 2:=by rw [h55]; exact ev_same (by rw [s54]; decide)
 clear hh
 have f3:A55.eval (.tmp 111) = .slice u4 2 k4:=(by repeat (first | exact e111 | refine ev_o (by assumption) rfl ?_))
 refine run_only (i:=55) (by kernel_rfl) (at_quiet (.bool true) rfl (quiet_call (fn:=35) (args := #[.slice u4 2 k4, .slice (some ⟨d3,0,none⟩) 2 2]) (wanted_yes (t:=110) rfl rfl (by rw [s55]; decide) (by repeat (first | exact e110 | refine ev_o (by assumption) rfl ?_))) (fun y hy=>(Go.Conc.run_call_body (fn:=Try.f35) rfl Try.func35 (by kernel_rfl) (by kernel_rfl)).trans (by simp only [List.map_toArray,List.map_cons,List.map_nil,f3,e113])) (fun y hy => ?_)) ?_)
 ·have hl:Ints y (some ⟨d3,0,none⟩) 2 (ltN [0,1]):=ints_has [0,1] hy.2
  have hI:=Ints_c u4 2 k4 (natI [0,1]) (some ⟨d3,0,none⟩) 2 2 (ltN [0,1]) y (L14.out.below hy.1).cells hl (by decide)
  rw [show intsB 2 (natI [0,1]) 2 (ltN [0,1])=true by decide +kernel] at hI
  exact hI
 refine run_gen fun A56 hh => ?_
 have h56:A56=A55.put (some 114) (.bool true):=hh
 have s56:A56.tmps.size=140:=by rw [h56,sz_put]; exact s55
 have e114:A56.eval (.tmp 114) = .bool true:=by rw [h56]; exact ev_same (by rw [s55]; decide)
 clear hh
 refine run_mono _ _ _ _ _ (fun y (h:Below w28.heap.size w28 y∧y.heap[d3]? = some (.cells #[.int .i64 0, .int .i64 1] 3 (0,0)))=>h.1) ?_
 refine run_takeG (i:=56) (.bool true) rfl (by kernel_rfl) (by kernel_rfl) (by kernel_rfl) (fun y h=>h) (quiet_yes _ (wanted_none rfl) fun y hy=>x_pick rfl (by repeat (first | exact e110 | refine ev_o (by assumption) rfl ?_)) (by repeat (first | exact e114 | refine ev_o (by assumption) rfl ?_)) y) ?_
 refine run_gen fun A57 hh => ?_
 have h57:A57=A56.put (some 115) (.bool true):=hh
 have s57:A57.tmps.size=140:=by rw [h57,sz_put]; exact s56
 have e115:A57.eval (.tmp 115) = .bool true:=by rw [h57]; exact ev_same (by rw [s56]; decide)
 clear hh
 refine run_takeG (i:=57) (.bool true) rfl (by kernel_rfl) (by kernel_rfl) (by kernel_rfl) (fun y h=>h) (quiet_yes _ (wanted_none rfl) fun y hy=>x_move rfl (by repeat (first | exact e115 | refine ev_o (by assumption) rfl ?_)) y) ?_
 refine run_gen fun A58 hh => ?_
 have h58:A58=A57.put (some 116) (.bool true):=hh
 have s58:A58.tmps.size=140:=by rw [h58,sz_put]; exact s57
 have e116:A58.eval (.tmp 116) = .bool true:=by rw [h58]; exact ev_same (by rw [s57]; decide)
 clear hh
 refine run_takeG (i:=58) (.int .i64 0) rfl (by kernel_rfl) (by kernel_rfl) (by kernel_rfl) (fun y h=>h) (quiet_yes _ (wanted_yes (t:=116) rfl rfl (by rw [s58]; decide) (by repeat (first | exact e116 | refine ev_o (by assumption) rfl ?_))) fun y hy=>x_move rfl (by repeat (first | exact e18 | refine ev_o (by assumption) rfl ?_)) y) ?_
 refine run_gen fun A59 hh => ?_
 have h59:A59=A58.put (some 117) (.int .i64 0):=hh
 have s59:A59.tmps.size=140:=by rw [h59,sz_put]; exact s58
 have e117:A59.eval (.tmp 117) = .int .i64 0:=by rw [h59]; exact ev_same (by rw [s58]; decide)
 clear hh
 refine run_takeG (i:=59) (.bool true) rfl (by kernel_rfl) (by kernel_rfl) (by kernel_rfl) (fun y h=>h) (quiet_yes _ (wanted_yes (t:=116) rfl rfl (by rw [s59]; decide) (by repeat (first | exact e116 | refine ev_o (by assumption) rfl ?_))) fun y hy=>x_eqE rfl (by repeat (first | exact e117 | refine ev_o (by assumption) rfl ?_)) rfl y) ?_
 refine run_gen fun A60 hh => ?_
 have h60:A60=A59.put (some 118) (.bool true):=hh
 have s60:A60.tmps.size=140:=by rw [h60,sz_put]; exact s59
 have e118:A60.eval (.tmp 118) = .bool true:=by rw [h60]; exact ev_same (by rw [s59]; decide)
 clear hh
 refine run_takeG (i:=60) (.bool true) rfl (by kernel_rfl) (by kernel_rfl) (by kernel_rfl) (fun y h=>h) (quiet_yes _ (wanted_none rfl) fun y hy=>x_pick rfl (by repeat (first | exact e116 | refine ev_o (by assumption) rfl ?_)) (by repeat (first | exact e118 | refine ev_o (by assumption) rfl ?_)) y) ?_
 refine run_gen fun A61 hh => ?_
 have h61:A61=A60.put (some 119) (.bool true):=hh
 have s61:A61.tmps.size=140:=by rw [h61,sz_put]; exact s60
 have e119:A61.eval (.tmp 119) = .bool true:=by rw [h61]; exact ev_same (by rw [s60]; decide)
 clear hh
 refine run_takeG (i:=61) (.bool true) rfl (by kernel_rfl) (by kernel_rfl) (by kernel_rfl) (fun y h=>h) (quiet_yes _ (wanted_none rfl) fun y hy=>x_move rfl (by repeat (first | exact e119 | refine ev_o (by assumption) rfl ?_)) y) ?_
 refine run_gen fun A62 hh => ?_
 have h62:A62=A61.put (some 120) (.bool true):=hh
 have s62:A62.tmps.size=140:=by rw [h62,sz_put]; exact s61
 have e120:A62.eval (.tmp 120) = .bool true:=by rw [h62]; exact ev_same (by rw [s61]; decide)
 clear hh
 refine run_takeG (i:=62) (.slice u5 3 k5) rfl (by kernel_rfl) (by kernel_rfl) (by kernel_rfl) (fun y h=>h) (quiet_yes _ (wanted_yes (t:=120) rfl rfl (by rw [s62]; decide) (by repeat (first | exact e120 | refine ev_o (by assumption) rfl ?_))) fun y hy=>x_move rfl (by repeat (first | exact e16 | refine ev_o (by assumption) rfl ?_)) y) ?_
 refine run_gen fun A63 hh => ?_
 have h63:A63=A62.put (some 121) (.slice u5 3 k5):=hh
 have s63:A63.tmps.size=140:=by rw [h63,sz_put]; exact s62
 have e121:A63.eval (.tmp 121) = .slice u5 3 k5:=by rw [h63]; exact ev_same (by rw [s62]; decide)
 clear hh
 refine run_only (i:=63) (by kernel_rfl) (at_makeG (w0:=w28) (t:=122) (z:= .cells #[.int .i64 0, .int .i64 1, .int .i64 2] 3 (0,0)) (fun q=> .slice (some ⟨q,0,none⟩) 3 3) (fun _=>False) slice_inj rfl (wanted_yes (t:=120) rfl rfl (by rw [s63]; decide) (by repeat (first | exact e120 | refine ev_o (by assumption) rfl ?_))) rfl (fun y _=>by go_simp) (fun y h=>h.size) (fun _ _ _ h=>h.elim) ?_)
 intro d4 hd4 _
 refine run_gen fun A64 hh => ?_
 have h64:A64=A63.put (some 122) (.slice (some ⟨d4,0,none⟩) 3 3):=hh
 have s64:A64.tmps.size=140:=by rw [h64,sz_put]; exact s63
 have e122:A64.eval (.tmp 122) = .slice (some ⟨d4,0,none⟩) 3 3:=by rw [h64]; exact ev_same (by rw [s63]; decide)
 clear hh
 refine run_takeG (i:=64) (.slice (some ⟨d4,0,none⟩) 3 3) rfl (by kernel_rfl) (by kernel_rfl) (by kernel_rfl) (fun y h=>h.1) (quiet_call (fn:=60) (args := #[.slice (some ⟨d4,0,none⟩) 3 3]) (wanted_yes (t:=120) rfl rfl (by rw [s64]; decide) (by repeat (first | exact e120 | refine ev_o (by assumption) rfl ?_))) (fun y hy=>(Go.Conc.run_call_body (fn:=Try.f60) rfl Try.func60 (by kernel_rfl) (by kernel_rfl)).trans (by simp only [List.map_toArray,List.map_cons,List.map_nil,e122])) (fun y hy=>(of_c _ _ _ y).mono (by rintro e w1 ⟨h1,rfl⟩; exact ⟨h1,Below.refl _ _⟩))) ?_
 refine run_gen fun A65 hh => ?_
 have h65:A65=A64.put (some 123) (.slice (some ⟨d4,0,none⟩) 3 3):=hh
 have s65:A65.tmps.size=140:=by rw [h65,sz_put]; exact s64
 have e123:A65.eval (.tmp 123) = .slice (some ⟨d4,0,none⟩) 3 3:=by rw [h65]; exact ev_same (by rw [s64]; decide)
 clear hh
 have f4:A65.eval (.tmp 121) = .slice u5 3 k5:=(by repeat (first | exact e121 | refine ev_o (by assumption) rfl ?_))
 refine run_only (i:=65) (by kernel_rfl) (at_quiet (.bool true) rfl (quiet_call (fn:=35) (args := #[.slice u5 3 k5, .slice (some ⟨d4,0,none⟩) 3 3]) (wanted_yes (t:=120) rfl rfl (by rw [s65]; decide) (by repeat (first | exact e120 | refine ev_o (by assumption) rfl ?_))) (fun y hy=>(Go.Conc.run_call_body (fn:=Try.f35) rfl Try.func35 (by kernel_rfl) (by kernel_rfl)).trans (by simp only [List.map_toArray,List.map_cons,List.map_nil,f4,e123])) (fun y hy => ?_)) ?_)
 ·have hl:Ints y (some ⟨d4,0,none⟩) 3 (ltN [0,1,2]):=ints_has [0,1,2] hy.2
  have hI:=Ints_c u5 3 k5 (natI [0,1,2]) (some ⟨d4,0,none⟩) 3 3 (ltN [0,1,2]) y (L16.out.below hy.1).cells hl (by decide)
  rw [show intsB 3 (natI [0,1,2]) 3 (ltN [0,1,2])=true by decide +kernel] at hI
  exact hI
 refine run_gen fun A66 hh => ?_
 have h66:A66=A65.put (some 124) (.bool true):=hh
 have s66:A66.tmps.size=140:=by rw [h66,sz_put]; exact s65
 have e124:A66.eval (.tmp 124) = .bool true:=by rw [h66]; exact ev_same (by rw [s65]; decide)
 clear hh
 refine run_mono _ _ _ _ _ (fun y (h:Below w28.heap.size w28 y∧y.heap[d4]? = some (.cells #[.int .i64 0, .int .i64 1, .int .i64 2] 3 (0,0)))=>h.1) ?_
 refine run_takeG (i:=66) (.bool true) rfl (by kernel_rfl) (by kernel_rfl) (by kernel_rfl) (fun y h=>h) (quiet_yes _ (wanted_none rfl) fun y hy=>x_pick rfl (by repeat (first | exact e120 | refine ev_o (by assumption) rfl ?_)) (by repeat (first | exact e124 | refine ev_o (by assumption) rfl ?_)) y) ?_
 refine run_gen fun A67 hh => ?_
 have h67:A67=A66.put (some 125) (.bool true):=hh
 have s67:A67.tmps.size=140:=by rw [h67,sz_put]; exact s66
 have e125:A67.eval (.tmp 125) = .bool true:=by rw [h67]; exact ev_same (by rw [s66]; decide)
 clear hh
 refine run_takeG (i:=67) (.bool true) rfl (by kernel_rfl) (by kernel_rfl) (by kernel_rfl) (fun y h=>h) (quiet_yes _ (wanted_none rfl) fun y hy=>x_move rfl (by repeat (first | exact e125 | refine ev_o (by assumption) rfl ?_)) y) ?_
 refine run_gen fun A68 hh => ?_
 have h68:A68=A67.put (some 126) (.bool true):=hh
 have s68:A68.tmps.size=140:=by rw [h68,sz_put]; exact s67
 have e126:A68.eval (.tmp 126) = .bool true:=by rw [h68]; exact ev_same (by rw [s67]; decide)
 clear hh
 refine run_takeG (i:=68) (.slice u6 3 k6) rfl (by kernel_rfl) (by kernel_rfl) (by kernel_rfl) (fun y h=>h) (quiet_yes _ (wanted_yes (t:=126) rfl rfl (by rw [s68]; decide) (by repeat (first | exact e126 | refine ev_o (by assumption) rfl ?_))) fun y hy=>x_move rfl (by repeat (first | exact e17 | refine ev_o (by assumption) rfl ?_)) y) ?_
 refine run_gen fun A69 hh => ?_
 have h69:A69=A68.put (some 127) (.slice u6 3 k6):=hh
 have s69:A69.tmps.size=140:=by rw [h69,sz_put]; exact s68
 have e127:A69.eval (.tmp 127) = .slice u6 3 k6:=by rw [h69]; exact ev_same (by rw [s68]; decide)
 clear hh
 refine run_only (i:=69) (by kernel_rfl) (at_makeG (w0:=w28) (t:=128) (z:= .cells #[.int .i64 0, .int .i64 1, .int .i64 2] 3 (0,0)) (fun q=> .slice (some ⟨q,0,none⟩) 3 3) (fun _=>False) slice_inj rfl (wanted_yes (t:=126) rfl rfl (by rw [s69]; decide) (by repeat (first | exact e126 | refine ev_o (by assumption) rfl ?_))) rfl (fun y _=>by go_simp) (fun y h=>h.size) (fun _ _ _ h=>h.elim) ?_)
 intro d5 hd5 _
 refine run_gen fun A70 hh => ?_
 have h70:A70=A69.put (some 128) (.slice (some ⟨d5,0,none⟩) 3 3):=hh
 have s70:A70.tmps.size=140:=by rw [h70,sz_put]; exact s69
 have e128:A70.eval (.tmp 128) = .slice (some ⟨d5,0,none⟩) 3 3:=by rw [h70]; exact ev_same (by rw [s69]; decide)
 clear hh
 refine run_takeG (i:=70) (.slice (some ⟨d5,0,none⟩) 3 3) rfl (by kernel_rfl) (by kernel_rfl) (by kernel_rfl) (fun y h=>h.1) (quiet_call (fn:=60) (args := #[.slice (some ⟨d5,0,none⟩) 3 3]) (wanted_yes (t:=126) rfl rfl (by rw [s70]; decide) (by repeat (first | exact e126 | refine ev_o (by assumption) rfl ?_))) (fun y hy=>(Go.Conc.run_call_body (fn:=Try.f60) rfl Try.func60 (by kernel_rfl) (by kernel_rfl)).trans (by simp only [List.map_toArray,List.map_cons,List.map_nil,e128])) (fun y hy=>(of_c _ _ _ y).mono (by rintro e w1 ⟨h1,rfl⟩; exact ⟨h1,Below.refl _ _⟩))) ?_
 refine run_gen fun A71 hh => ?_
 have h71:A71=A70.put (some 129) (.slice (some ⟨d5,0,none⟩) 3 3):=hh
 have s71:A71.tmps.size=140:=by rw [h71,sz_put]; exact s70
 have e129:A71.eval (.tmp 129) = .slice (some ⟨d5,0,none⟩) 3 3:=by rw [h71]; exact ev_same (by rw [s70]; decide)
 clear hh
 have f5:A71.eval (.tmp 127) = .slice u6 3 k6:=(by repeat (first | exact e127 | refine ev_o (by assumption) rfl ?_))
 refine run_only (i:=71) (by kernel_rfl) (at_quiet (.bool true) rfl (quiet_call (fn:=35) (args := #[.slice u6 3 k6, .slice (some ⟨d5,0,none⟩) 3 3]) (wanted_yes (t:=126) rfl rfl (by rw [s71]; decide) (by repeat (first | exact e126 | refine ev_o (by assumption) rfl ?_))) (fun y hy=>(Go.Conc.run_call_body (fn:=Try.f35) rfl Try.func35 (by kernel_rfl) (by kernel_rfl)).trans (by simp only [List.map_toArray,List.map_cons,List.map_nil,f5,e129])) (fun y hy => ?_)) ?_)
 ·have hl:Ints y (some ⟨d5,0,none⟩) 3 (ltN [0,1,2]):=ints_has [0,1,2] hy.2
  have hI:=Ints_c u6 3 k6 (natI [0,1,2]) (some ⟨d5,0,none⟩) 3 3 (ltN [0,1,2]) y (L17.out.below hy.1).cells hl (by decide)
  rw [show intsB 3 (natI [0,1,2]) 3 (ltN [0,1,2])=true by decide +kernel] at hI
  exact hI
 refine run_gen fun A72 hh => ?_
 have h72:A72=A71.put (some 130) (.bool true):=hh
 have s72:A72.tmps.size=140:=by rw [h72,sz_put]; exact s71
 have e130:A72.eval (.tmp 130) = .bool true:=by rw [h72]; exact ev_same (by rw [s71]; decide)
 clear hh
 refine run_mono _ _ _ _ _ (fun y (h:Below w28.heap.size w28 y∧y.heap[d5]? = some (.cells #[.int .i64 0, .int .i64 1, .int .i64 2] 3 (0,0)))=>h.1) ?_
 refine run_takeG (i:=72) (.bool true) rfl (by kernel_rfl) (by kernel_rfl) (by kernel_rfl) (fun y h=>h) (quiet_yes _ (wanted_none rfl) fun y hy=>x_pick rfl (by repeat (first | exact e126 | refine ev_o (by assumption) rfl ?_)) (by repeat (first | exact e130 | refine ev_o (by assumption) rfl ?_)) y) ?_
 refine run_gen fun A73 hh => ?_
 have h73:A73=A72.put (some 131) (.bool true):=hh
 have s73:A73.tmps.size=140:=by rw [h73,sz_put]; exact s72
 have e131:A73.eval (.tmp 131) = .bool true:=by rw [h73]; exact ev_same (by rw [s72]; decide)
 clear hh
 refine run_takeG (i:=73) (.bool true) rfl (by kernel_rfl) (by kernel_rfl) (by kernel_rfl) (fun y h=>h) (quiet_yes _ (wanted_none rfl) fun y hy=>x_move rfl (by repeat (first | exact e131 | refine ev_o (by assumption) rfl ?_)) y) ?_
 refine run_gen fun A74 hh => ?_
 have h74:A74=A73.put (some 132) (.bool true):=hh
 have s74:A74.tmps.size=140:=by rw [h74,sz_put]; exact s73
 have e132:A74.eval (.tmp 132) = .bool true:=by rw [h74]; exact ev_same (by rw [s73]; decide)
 clear hh
 refine run_takeG (i:=74) (tabV p3 3 c3) rfl (by kernel_rfl) (by kernel_rfl) (by kernel_rfl) (fun y h=>h) (quiet_yes _ (wanted_yes (t:=132) rfl rfl (by rw [s74]; decide) (by repeat (first | exact e132 | refine ev_o (by assumption) rfl ?_))) fun y hy=>x_loadT rfl (by repeat (first | exact e3 | refine ev_o (by assumption) rfl ?_)) y (RowIs.cell (R3.out.below hy) 0) (RowIs.lt (R3.out.below hy))) ?_
 refine run_gen fun A75 hh => ?_
 have h75:A75=A74.put (some 133) (tabV p3 3 c3):=hh
 have s75:A75.tmps.size=140:=by rw [h75,sz_put]; exact s74
 have e133:A75.eval (.tmp 133)=tabV p3 3 c3:=by rw [h75]; exact ev_same (by rw [s74]; decide)
 clear hh
 refine run_takeG (i:=75) (.int .i64 0) rfl (by kernel_rfl) (by kernel_rfl) (by kernel_rfl) (fun y h=>h) (quiet_call (fn:=23) (args := #[tabV p3 3 c3]) (wanted_yes (t:=132) rfl rfl (by rw [s75]; decide) (by repeat (first | exact e132 | refine ev_o (by assumption) rfl ?_))) (fun y hy=>(Go.Conc.run_call_body (fn:=Try.f23) rfl Try.func23 (by kernel_rfl) (by kernel_rfl)).trans (by simp only [List.map_toArray,List.map_cons,List.map_nil,e133])) (fun y hy => ?_)) ?_
 ·have hc:=CheckTable_c p3 3 c3 (roundF x3) y (H3.out.below hy) (by decide) (fun _ _=>(show (3:Nat)≤1048576 by decide))
  rw [okay_is (round_ok x3)] at hc
  exact hc
 refine run_gen fun A76 hh => ?_
 have h76:A76=A75.put (some 134) (.int .i64 0):=hh
 have s76:A76.tmps.size=140:=by rw [h76,sz_put]; exact s75
 have e134:A76.eval (.tmp 134) = .int .i64 0:=by rw [h76]; exact ev_same (by rw [s75]; decide)
 clear hh
 refine run_takeG (i:=76) (.bool true) rfl (by kernel_rfl) (by kernel_rfl) (by kernel_rfl) (fun y h=>h) (quiet_yes _ (wanted_yes (t:=132) rfl rfl (by rw [s76]; decide) (by repeat (first | exact e132 | refine ev_o (by assumption) rfl ?_))) fun y hy=>x_eqE rfl (by repeat (first | exact e134 | refine ev_o (by assumption) rfl ?_)) rfl y) ?_
 refine run_gen fun A77 hh => ?_
 have h77:A77=A76.put (some 135) (.bool true):=hh
 have s77:A77.tmps.size=140:=by rw [h77,sz_put]; exact s76
 have e135:A77.eval (.tmp 135) = .bool true:=by rw [h77]; exact ev_same (by rw [s76]; decide)
 clear hh
 refine run_takeG (i:=77) (.bool true) rfl (by kernel_rfl) (by kernel_rfl) (by kernel_rfl) (fun y h=>h) (quiet_yes _ (wanted_none rfl) fun y hy=>x_pick rfl (by repeat (first | exact e132 | refine ev_o (by assumption) rfl ?_)) (by repeat (first | exact e135 | refine ev_o (by assumption) rfl ?_)) y) ?_
 refine run_gen fun A78 hh => ?_
 have h78:A78=A77.put (some 136) (.bool true):=hh
 have s78:A78.tmps.size=140:=by rw [h78,sz_put]; exact s77
 have e136:A78.eval (.tmp 136) = .bool true:=by rw [h78]; exact ev_same (by rw [s77]; decide)
 clear hh
 refine run_takeG (i:=78) (.bool true) rfl (by kernel_rfl) (by kernel_rfl) (by kernel_rfl) (fun y h=>h) (quiet_yes _ (wanted_none rfl) fun y hy=>x_move rfl (by repeat (first | exact e136 | refine ev_o (by assumption) rfl ?_)) y) ?_
 refine run_gen fun A79 hh => ?_
 have h79:A79=A78.put (some 137) (.bool true):=hh
 have s79:A79.tmps.size=140:=by rw [h79,sz_put]; exact s78
 have e137:A79.eval (.tmp 137) = .bool true:=by rw [h79]; exact ev_same (by rw [s78]; decide)
 clear hh
 refine run_takeG (i:=79) (.bool true) rfl (by kernel_rfl) (by kernel_rfl) (by kernel_rfl) (fun y h=>h) (quiet_call (fn:=18) (args := #[]) (wanted_yes (t:=137) rfl rfl (by rw [s79]; decide) (by repeat (first | exact e137 | refine ev_o (by assumption) rfl ?_))) (fun y hy=>(Go.Conc.run_call_body (fn:=Try.f18) rfl Try.func18 (by kernel_rfl) (by kernel_rfl)).trans (by simp only [List.map_toArray,List.map_nil])) (fun y hy=>works_c y)) ?_
 refine run_gen fun A80 hh => ?_
 have h80:A80=A79.put (some 138) (.bool true):=hh
 have s80:A80.tmps.size=140:=by rw [h80,sz_put]; exact s79
 have e138:A80.eval (.tmp 138) = .bool true:=by rw [h80]; exact ev_same (by rw [s79]; decide)
 clear hh
 refine run_takeG (i:=80) (.bool true) rfl (by kernel_rfl) (by kernel_rfl) (by kernel_rfl) (fun y h=>h) (quiet_yes _ (wanted_none rfl) fun y hy=>x_pick rfl (by repeat (first | exact e137 | refine ev_o (by assumption) rfl ?_)) (by repeat (first | exact e138 | refine ev_o (by assumption) rfl ?_)) y) ?_
 refine run_gen fun A81 hh => ?_
 have h81:A81=A80.put (some 139) (.bool true):=hh
 have s81:A81.tmps.size=140:=by rw [h81,sz_put]; exact s80
 have e139:A81.eval (.tmp 139) = .bool true:=by rw [h81]; exact ev_same (by rw [s80]; decide)
 clear hh
 refine run_quiet (i:=81) (.bool true) (by kernel_rfl) rfl rfl (fun y hy=>x_assign rfl (by repeat (first | exact e139 | refine ev_o (by assumption) rfl ?_)) y) ?_
 refine run_gen fun A82 hh => ?_
 have h82:A82=A81.put (some 0) (.bool true):=hh
 have s82:A82.tmps.size=140:=by rw [h82,sz_put]; exact s81
 have e0:A82.eval (.tmp 0) = .bool true:=by rw [h82]; exact ev_same (by rw [s81]; decide)
 clear hh
 refine ⟨by kernel_rfl,fun y hy => ?_⟩
 have HBy:=bup B1.out hy
 go_wp2_with fail
 refine bodyPost_ret (v:= .bool true) ?_ (by repeat (first | exact df0 | refine df_o (by assumption) ?_)) ⟨rfl,HBy⟩
 have hz:A82.tmps[0]? = some (.bool true):=tmp_some s82 e0 (by decide)
 simp [results,Try.results15,go_sem,hz]
end Go.Proofs.Ytkbbhihndigmeaa
