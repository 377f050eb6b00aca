/- The works function of layer 2's law: the chapter's examples. Written by tools/works2.py. -/
import Derived.Shelf.Abstract
import Derived.Shelf.RegionOpen
import Derived.Test.YtbjgbgchagfokaaGreatProg
import Derived.Test.YtbjgbgchagfokaaGreatBasaa
import Derived.Test.YtbjgbgchagfokaaGreatBasaj
import Derived.Test.YtbjgbgchagfokaaGreatBasba
namespace Go.Proofs.YtbjgbgchagfokaaGreat
open Go Go.RowKit Go.Shelf

theorem ints_below {w w' : World} {a : Option Addr} {n : Nat} {g : Nat → Int} (h : Ints w a n g) (hb : Below w.heap.size w w') : Ints w' a n g := Cells.below h hb

set_option maxRecDepth 100000 in
set_option maxHeartbeats 16000000 in
theorem works_c (w : World) : Calls Tryz.prog 6 #[] w fun e w' => e = .returned (.bool true) ∧ Below w.heap.size w w' := by
  go_enter Tryz.func6, Tryz.ntmps6
  go_wp2_with fail
  refine (three_c _).mono ?_
  rintro e w1 ⟨p3, k3, rfl, h3, hb1⟩
  go_wp2_with fail
  refine (two_c _).mono ?_
  rintro e w2 ⟨p2, k2, rfl, h2, hb2⟩
  obtain ⟨Y, hY⟩ : ∃ Y, (w2.alloc (.cells #[.int .i64 0, .int .i64 0, .slice none 0 0] 24)).alloc (.cells #[.int .i64 0, .int .i64 0, .slice none 0 0] 24) = Y := ⟨_, rfl⟩
  have hYb : Below w2.heap.size w2 Y := by rw [← hY]; exact Below.alloc1 (Below.alloc1 (Below.refl _ _) _ (Nat.le_refl _)) _ (Nat.le_refl _)
  have hY1 : RowIs Y w2.heap.size #[.int .i64 0, .int .i64 0, .slice none 0 0] 24 := by rw [← hY]; exact RowIs.alloc (heap_new_at _ _ _ rfl) _
  have hY2 : RowIs Y (w2.heap.size + 1) #[.int .i64 0, .int .i64 0, .slice none 0 0] 24 := by rw [← hY]; exact heap_new_at _ _ _ (by simp)
  obtain ⟨Z, hZ⟩ : ∃ Z, ((((((Y.setCell ⟨w2.heap.size, 0, none⟩ (.int .i64 3)).setCell ⟨w2.heap.size, 1, none⟩ (.int .i64 3)).setCell ⟨w2.heap.size, 2, none⟩ (.slice p3 5 k3)).setCell ⟨w2.heap.size + 1, 0, none⟩ (.int .i64 3)).setCell ⟨w2.heap.size + 1, 1, none⟩ (.int .i64 2)).setCell ⟨w2.heap.size + 1, 2, none⟩ (.slice p2 4 k2)) = Z := ⟨_, rfl⟩
  have hZ1 : RowIs Z w2.heap.size #[.int .i64 3, .int .i64 3, .slice p3 5 k3] 24 := by
    rw [← hZ]
    exact (Below.heap_setCell _ _ _ _ (by simp)).trans ((Below.heap_setCell _ _ _ _ (by simp)).trans ((Below.heap_setCell _ _ _ _ (by simp)).trans (RowIs.set (RowIs.set (RowIs.set hY1 0 (.int .i64 3)) 1 (.int .i64 3)) 2 (.slice p3 5 k3))))
  have hZ2 : RowIs Z (w2.heap.size + 1) #[.int .i64 3, .int .i64 2, .slice p2 4 k2] 24 := by
    rw [← hZ]
    have hA : RowIs (((Y.setCell ⟨w2.heap.size, 0, none⟩ (.int .i64 3)).setCell ⟨w2.heap.size, 1, none⟩ (.int .i64 3)).setCell ⟨w2.heap.size, 2, none⟩ (.slice p3 5 k3)) (w2.heap.size + 1) #[.int .i64 0, .int .i64 0, .slice none 0 0] 24 :=
      (Below.heap_setCell _ _ _ _ (by simp)).trans ((Below.heap_setCell _ _ _ _ (by simp)).trans ((Below.heap_setCell _ _ _ _ (by simp)).trans hY2))
    exact RowIs.set (RowIs.set (RowIs.set hA 0 (.int .i64 3)) 1 (.int .i64 2)) 2 (.slice p2 4 k2)
  have hZb : Below w2.heap.size w2 Z := hYb.trans (by
    rw [← hZ]
    exact ((((((Below.refl _ Y).setCell (p := ⟨w2.heap.size, 0, none⟩) (Nat.le_refl _) _).setCell (p := ⟨w2.heap.size, 1, none⟩) (Nat.le_refl _) _).setCell (p := ⟨w2.heap.size, 2, none⟩) (Nat.le_refl _) _).setCell (p := ⟨w2.heap.size + 1, 0, none⟩) (Nat.le_succ _) _).setCell (p := ⟨w2.heap.size + 1, 1, none⟩) (Nat.le_succ _) _).setCell (p := ⟨w2.heap.size + 1, 2, none⟩) (Nat.le_succ _) _)
  have z0 : Y.cell? ⟨w2.heap.size, 0, none⟩ = some (.int .i64 0) := hY1.cell 0
  have z1 : Y.cell? ⟨w2.heap.size, 1, none⟩ = some (.int .i64 0) := hY1.cell 1
  have z2 : Y.cell? ⟨w2.heap.size, 2, none⟩ = some (.slice none 0 0) := hY1.cell 2
  have z3 : Y.cell? ⟨w2.heap.size + 1, 0, none⟩ = some (.int .i64 0) := hY2.cell 0
  have z4 : Y.cell? ⟨w2.heap.size + 1, 1, none⟩ = some (.int .i64 0) := hY2.cell 1
  have z5 : Y.cell? ⟨w2.heap.size + 1, 2, none⟩ = some (.slice none 0 0) := hY2.cell 2
  have f0 := hY1.frozen 0
  have f1 := hY1.frozen 1
  have f2 := hY1.frozen 2
  have f3 := hY2.frozen 0
  have f4 := hY2.frozen 1
  have f5 := hY2.frozen 2
  have H3 := Lib.hid (h3.below (bup hb2 hZb))
  have H2 := Lib.hid (h2.below hZb)
  have B1 := Lib.hid hZ1
  have B2 := Lib.hid hZ2
  have hB := bup hb1 (bup hb2 hZb)
  clear h3 h2 hZ1 hZ2 hb1 hb2 hZb hYb hY1 hY2
  obtain ⟨X1, hX1⟩ : ∃ X1, Z.alloc (.cells #[.int .i64 0, .int .i64 1, .int .i64 1, .int .i64 0, .int .i64 2] 3) = X1 := ⟨_, rfl⟩
  have hx2 : Below Z.heap.size Z X1 := by rw [← hX1]; exact Below.alloc1 (Below.refl _ _) _ (Nat.le_refl _)
  have HD := Lib.hid (show Ints X1 (some ⟨Z.heap.size, 0, none⟩) 5 (ltI [0, 1, 1, 0, 2]) by rw [← hX1]; exact ints_new Z _ (0, 0) [0, 1, 1, 0, 2])
  replace H3 := Lib.hid (H3.out.below hx2)
  replace H2 := Lib.hid (H2.out.below hx2)
  replace B1 := Lib.hid (RowIs.below B1.out hx2)
  replace B2 := Lib.hid (RowIs.below B2.out hx2)
  replace hB := bup hB hx2
  obtain ⟨pd, hpd⟩ : ∃ q, Z.heap.size = q := ⟨_, rfl⟩
  rw [hpd] at HD
  have C3 := Lib.hid (t_Loads p3 k3 X1 H3.out)
  obtain ⟨r0, r1, r2, rz⟩ := bookcells B1.out
  go_wp2_with (go_at_call 18; refine (of_c _ _ _ _).mono ?_; rintro e w' ⟨rfl, rfl⟩)
  clear hY hZ z0 z1 z2 z3 z4 z5 f0 f1 f2 f3 f4 f5 hX1 hx2 r0 r1 r2 rz
  refine C3.out.mono ?_
  rintro e w4 ⟨x1, x2, rfl, hx1, hx2, hw5⟩
  clear C3
  replace H3 := Lib.hid (H3.out.below hw5)
  replace H2 := Lib.hid (H2.out.below hw5)
  replace B1 := Lib.hid (RowIs.below B1.out hw5)
  replace B2 := Lib.hid (RowIs.below B2.out hw5)
  replace HD := Lib.hid (ints_below HD.out hw5)
  replace hB := bup hB hw5
  have HX := Lib.hid hx1
  clear hx1
  have HY := Lib.hid hx2
  clear hx2
  have K6 := Lib.hid (fun (q : Nat) (V : World) (hV : Below w4.heap.size w4 V) (hI : Ints V (some ⟨q, 0, none⟩) 5 (ltI [4, 1, 1, 4, 2])) => t_Days p3 k3 V [4, 1, 1, 4, 2] 3 0 5 (some ⟨q, 0, none⟩) 5 y_days1 y_days1n (H3.out.below hV) hI)
  go_wp2_with fail
  clear hpd hw5
  apply cut1 (w0 := w4)
  case main =>
    intro fin
    refine wp_region_runF (C := fun x => Below w4.heap.size w4 x) (fun x => Below w4.heap.size w4 x) (by kernel_rfl) (stable_below w4) (Below.refl _ _) ?_
    change Run _ _ _ _ _ 9 _ _ _
    refine run_take (i := 0) (.agg #[.int .i64 3, .int .i64 3, .slice p3 5 k3]) rfl (by kernel_rfl) (by kernel_rfl) (by kernel_rfl) rfl (fun y h => h) (fun y hy => by obtain ⟨r0, r1, r2, rz⟩ := bookcells (RowIs.below B1.out hy); go_simp) ?_
    simp only [Act.put, List.getElem_toArray, List.getElem_cons_zero, List.setIfInBounds_toArray, List.set_cons_zero, List.set_cons_succ]
    refine run_only (i := 1) (by kernel_rfl) (at_make (w0 := w4) (t := 60) (z := .cells #[.int .i64 4, .int .i64 1, .int .i64 1, .int .i64 4, .int .i64 2] 3 (0, 0)) (fun q => .slice (some ⟨q, 0, none⟩) 5 5) (fun _ => False) slice_inj rfl rfl rfl (fun y _ => by go_simp) (fun y h => h.size) (fun _ _ _ h => h.elim) ?_)
    intro bb0 hbb0 _
    simp only [Act.put, List.setIfInBounds_toArray, List.set_cons_zero, List.set_cons_succ]
    refine run_strong (C' := fun x => (Below w4.heap.size w4 x) ∧ x.heap[bb0]? = some (.cells #[.int .i64 4, .int .i64 1, .int .i64 1, .int .i64 4, .int .i64 2] 3 (0, 0))) (fun x h => h.1) _ _ _ _ ?_
    refine run_takeQ (i := 2) (.slice (some ⟨bb0, 0, none⟩) 5 5) rfl (by kernel_rfl) (by kernel_rfl) (by kernel_rfl) (fun y h => h) (quiet_of_walk rfl rfl (by simp) (fun y hy K1 hK1 => ?_)) ?_
    · have g0 : Below w4.heap.size w4 y := hy.1
      have HI0 := Lib.hid (show Ints y (some ⟨bb0, 0, none⟩) 5 (ltI [4, 1, 1, 4, 2]) from ints_lit [4, 1, 1, 4, 2] hy.2)
      simp only [List.getElem_toArray, List.getElem_cons_zero, List.getElem_cons_succ]
      go_big_quiet_step ((with_reducible refine calls_later_same (of_c _ _ _ _)))
      exact wpQuiet_nil hK1
    simp only [Act.put, List.getElem_toArray, List.getElem_cons_zero, List.getElem_cons_succ, List.setIfInBounds_toArray, List.set_cons_zero, List.set_cons_succ]
    refine run_takeQ (i := 3) (.tuple #[.int .i64 3, .int .i64 0]) rfl (by kernel_rfl) (by kernel_rfl) (by kernel_rfl) (fun y h => h) (quiet_of_walk rfl rfl (by simp) (fun y hy K1 hK1 => ?_)) ?_
    · have g0 : Below w4.heap.size w4 y := hy.1
      have HI0 := Lib.hid (show Ints y (some ⟨bb0, 0, none⟩) 5 (ltI [4, 1, 1, 4, 2]) from ints_lit [4, 1, 1, 4, 2] hy.2)
      simp only [List.getElem_toArray, List.getElem_cons_zero, List.getElem_cons_succ]
      go_big_quiet_step ((with_reducible refine calls_later (K6.out bb0 _ (g0.trans ((Later.h _).mono g0.size)) (ints_below HI0.out (Later.h _)))))
      exact wpQuiet_nil hK1
    simp only [Act.put, List.getElem_toArray, List.getElem_cons_zero, List.getElem_cons_succ, List.setIfInBounds_toArray, List.set_cons_zero, List.set_cons_succ]
    refine run_take (i := 4) (.tuple #[.int .i64 3, .int .i64 0]) rfl (by kernel_rfl) (by kernel_rfl) (by kernel_rfl) rfl (fun y h => h) (fun y _ => by go_simp) ?_
    simp only [Act.put, List.getElem_toArray, List.getElem_cons_zero, List.getElem_cons_succ, List.setIfInBounds_toArray, List.set_cons_zero, List.set_cons_succ]
    refine run_take (i := 5) (.int .i64 3) rfl (by kernel_rfl) (by kernel_rfl) (by kernel_rfl) rfl (fun y h => h) (fun y _ => by go_simp) ?_
    simp only [Act.put, List.getElem_toArray, List.getElem_cons_zero, List.getElem_cons_succ, List.setIfInBounds_toArray, List.set_cons_zero, List.set_cons_succ]
    refine run_take (i := 6) (.int .i64 0) rfl (by kernel_rfl) (by kernel_rfl) (by kernel_rfl) rfl (fun y h => h) (fun y _ => by go_simp) ?_
    simp only [Act.put, List.getElem_toArray, List.getElem_cons_zero, List.getElem_cons_succ, List.setIfInBounds_toArray, List.set_cons_zero, List.set_cons_succ]
    refine run_take (i := 7) (.int .i64 3) rfl (by kernel_rfl) (by kernel_rfl) (by kernel_rfl) rfl (fun y h => h) (fun y _ => by go_simp) ?_
    simp only [Act.put, List.getElem_toArray, List.getElem_cons_zero, List.getElem_cons_succ, List.setIfInBounds_toArray, List.set_cons_zero, List.set_cons_succ]
    refine run_take (i := 8) (.int .i64 0) rfl (by kernel_rfl) (by kernel_rfl) (by kernel_rfl) rfl (fun y h => h) (fun y _ => by go_simp) ?_
    simp only [Act.put, List.getElem_toArray, List.getElem_cons_zero, List.getElem_cons_succ, List.setIfInBounds_toArray, List.set_cons_zero, List.set_cons_succ]
    exact ⟨by kernel_rfl, fun y hy => fin bb0 y hy.1⟩
  intro b9 y7 hy8
  clear K6
  replace H3 := Lib.hid (H3.out.below hy8)
  replace H2 := Lib.hid (H2.out.below hy8)
  replace B1 := Lib.hid (RowIs.below B1.out hy8)
  replace B2 := Lib.hid (RowIs.below B2.out hy8)
  replace HD := Lib.hid (ints_below HD.out hy8)
  replace HX := Lib.hid (ints_below HX.out hy8)
  replace HY := Lib.hid (ints_below HY.out hy8)
  replace hB := bup hB hy8
  have K10 := Lib.hid (fun (q : Nat) (V : World) (hV : Below y7.heap.size y7 V) (hI : Ints V (some ⟨q, 0, none⟩) 5 (ltI [0, 1, 1, 0, 1])) => t_Days p3 k3 V [0, 1, 1, 0, 1] 0 18 5 (some ⟨q, 0, none⟩) 5 y_days2 y_days2n (H3.out.below hV) hI)
  go_wp2_with fail
  clear hy8
  apply cut1 (w0 := y7)
  case main =>
    intro fin
    refine wp_region_runF (C := fun x => Below y7.heap.size y7 x) (fun x => Below y7.heap.size y7 x) (by kernel_rfl) (stable_below y7) (Below.refl _ _) ?_
    change Run _ _ _ _ _ 9 _ _ _
    refine run_take (i := 0) (.agg #[.int .i64 3, .int .i64 3, .slice p3 5 k3]) rfl (by kernel_rfl) (by kernel_rfl) (by kernel_rfl) rfl (fun y h => h) (fun y hy => by obtain ⟨r0, r1, r2, rz⟩ := bookcells (RowIs.below B1.out hy); go_simp) ?_
    simp only [Act.put, List.getElem_toArray, List.getElem_cons_zero, List.setIfInBounds_toArray, List.set_cons_zero, List.set_cons_succ]
    refine run_only (i := 1) (by kernel_rfl) (at_make (w0 := y7) (t := 67) (z := .cells #[.int .i64 0, .int .i64 1, .int .i64 1, .int .i64 0, .int .i64 1] 3 (0, 0)) (fun q => .slice (some ⟨q, 0, none⟩) 5 5) (fun _ => False) slice_inj rfl rfl rfl (fun y _ => by go_simp) (fun y h => h.size) (fun _ _ _ h => h.elim) ?_)
    intro bb0 hbb0 _
    simp only [Act.put, List.setIfInBounds_toArray, List.set_cons_zero, List.set_cons_succ]
    refine run_strong (C' := fun x => (Below y7.heap.size y7 x) ∧ x.heap[bb0]? = some (.cells #[.int .i64 0, .int .i64 1, .int .i64 1, .int .i64 0, .int .i64 1] 3 (0, 0))) (fun x h => h.1) _ _ _ _ ?_
    refine run_takeQ (i := 2) (.slice (some ⟨bb0, 0, none⟩) 5 5) rfl (by kernel_rfl) (by kernel_rfl) (by kernel_rfl) (fun y h => h) (quiet_of_walk rfl rfl (by simp) (fun y hy K1 hK1 => ?_)) ?_
    · have g0 : Below y7.heap.size y7 y := hy.1
      have HI0 := Lib.hid (show Ints y (some ⟨bb0, 0, none⟩) 5 (ltI [0, 1, 1, 0, 1]) from ints_lit [0, 1, 1, 0, 1] hy.2)
      simp only [List.getElem_toArray, List.getElem_cons_zero, List.getElem_cons_succ]
      go_big_quiet_step ((with_reducible refine calls_later_same (of_c _ _ _ _)))
      exact wpQuiet_nil hK1
    simp only [Act.put, List.getElem_toArray, List.getElem_cons_zero, List.getElem_cons_succ, List.setIfInBounds_toArray, List.set_cons_zero, List.set_cons_succ]
    refine run_takeQ (i := 3) (.tuple #[.int .i64 0, .int .i64 18]) rfl (by kernel_rfl) (by kernel_rfl) (by kernel_rfl) (fun y h => h) (quiet_of_walk rfl rfl (by simp) (fun y hy K1 hK1 => ?_)) ?_
    · have g0 : Below y7.heap.size y7 y := hy.1
      have HI0 := Lib.hid (show Ints y (some ⟨bb0, 0, none⟩) 5 (ltI [0, 1, 1, 0, 1]) from ints_lit [0, 1, 1, 0, 1] hy.2)
      simp only [List.getElem_toArray, List.getElem_cons_zero, List.getElem_cons_succ]
      go_big_quiet_step ((with_reducible refine calls_later (K10.out bb0 _ (g0.trans ((Later.h _).mono g0.size)) (ints_below HI0.out (Later.h _)))))
      exact wpQuiet_nil hK1
    simp only [Act.put, List.getElem_toArray, List.getElem_cons_zero, List.getElem_cons_succ, List.setIfInBounds_toArray, List.set_cons_zero, List.set_cons_succ]
    refine run_take (i := 4) (.tuple #[.int .i64 0, .int .i64 18]) rfl (by kernel_rfl) (by kernel_rfl) (by kernel_rfl) rfl (fun y h => h) (fun y _ => by go_simp) ?_
    simp only [Act.put, List.getElem_toArray, List.getElem_cons_zero, List.getElem_cons_succ, List.setIfInBounds_toArray, List.set_cons_zero, List.set_cons_succ]
    refine run_take (i := 5) (.int .i64 0) rfl (by kernel_rfl) (by kernel_rfl) (by kernel_rfl) rfl (fun y h => h) (fun y _ => by go_simp) ?_
    simp only [Act.put, List.getElem_toArray, List.getElem_cons_zero, List.getElem_cons_succ, List.setIfInBounds_toArray, List.set_cons_zero, List.set_cons_succ]
    refine run_take (i := 6) (.int .i64 18) rfl (by kernel_rfl) (by kernel_rfl) (by kernel_rfl) rfl (fun y h => h) (fun y _ => by go_simp) ?_
    simp only [Act.put, List.getElem_toArray, List.getElem_cons_zero, List.getElem_cons_succ, List.setIfInBounds_toArray, List.set_cons_zero, List.set_cons_succ]
    refine run_take (i := 7) (.int .i64 0) rfl (by kernel_rfl) (by kernel_rfl) (by kernel_rfl) rfl (fun y h => h) (fun y _ => by go_simp) ?_
    simp only [Act.put, List.getElem_toArray, List.getElem_cons_zero, List.getElem_cons_succ, List.setIfInBounds_toArray, List.set_cons_zero, List.set_cons_succ]
    refine run_take (i := 8) (.int .i64 18) rfl (by kernel_rfl) (by kernel_rfl) (by kernel_rfl) rfl (fun y h => h) (fun y _ => by go_simp) ?_
    simp only [Act.put, List.getElem_toArray, List.getElem_cons_zero, List.getElem_cons_succ, List.setIfInBounds_toArray, List.set_cons_zero, List.set_cons_succ]
    exact ⟨by kernel_rfl, fun y hy => fin bb0 y hy.1⟩
  intro b13 y11 hy12
  clear K10
  replace H3 := Lib.hid (H3.out.below hy12)
  replace H2 := Lib.hid (H2.out.below hy12)
  replace B1 := Lib.hid (RowIs.below B1.out hy12)
  replace B2 := Lib.hid (RowIs.below B2.out hy12)
  replace HD := Lib.hid (ints_below HD.out hy12)
  replace HX := Lib.hid (ints_below HX.out hy12)
  replace HY := Lib.hid (ints_below HY.out hy12)
  replace hB := bup hB hy12
  have K14 := Lib.hid (fun (q : Nat) (V : World) (hV : Below y11.heap.size y11 V) (hI : Ints V (some ⟨q, 0, none⟩) 4 (ltI [0, 1, 1, 0])) => t_Days p3 k3 V [0, 1, 1, 0] 0 15 4 (some ⟨q, 0, none⟩) 4 y_days3 y_days3n (H3.out.below hV) hI)
  go_wp2_with fail
  clear hy12
  apply cut1 (w0 := y11)
  case main =>
    intro fin
    refine wp_region_runF (C := fun x => Below y11.heap.size y11 x) (fun x => Below y11.heap.size y11 x) (by kernel_rfl) (stable_below y11) (Below.refl _ _) ?_
    change Run _ _ _ _ _ 9 _ _ _
    refine run_take (i := 0) (.agg #[.int .i64 3, .int .i64 3, .slice p3 5 k3]) rfl (by kernel_rfl) (by kernel_rfl) (by kernel_rfl) rfl (fun y h => h) (fun y hy => by obtain ⟨r0, r1, r2, rz⟩ := bookcells (RowIs.below B1.out hy); go_simp) ?_
    simp only [Act.put, List.getElem_toArray, List.getElem_cons_zero, List.setIfInBounds_toArray, List.set_cons_zero, List.set_cons_succ]
    refine run_only (i := 1) (by kernel_rfl) (at_make (w0 := y11) (t := 74) (z := .cells #[.int .i64 0, .int .i64 1, .int .i64 1, .int .i64 0] 3 (0, 0)) (fun q => .slice (some ⟨q, 0, none⟩) 4 4) (fun _ => False) slice_inj rfl rfl rfl (fun y _ => by go_simp) (fun y h => h.size) (fun _ _ _ h => h.elim) ?_)
    intro bb0 hbb0 _
    simp only [Act.put, List.setIfInBounds_toArray, List.set_cons_zero, List.set_cons_succ]
    refine run_strong (C' := fun x => (Below y11.heap.size y11 x) ∧ x.heap[bb0]? = some (.cells #[.int .i64 0, .int .i64 1, .int .i64 1, .int .i64 0] 3 (0, 0))) (fun x h => h.1) _ _ _ _ ?_
    refine run_takeQ (i := 2) (.slice (some ⟨bb0, 0, none⟩) 4 4) rfl (by kernel_rfl) (by kernel_rfl) (by kernel_rfl) (fun y h => h) (quiet_of_walk rfl rfl (by simp) (fun y hy K1 hK1 => ?_)) ?_
    · have g0 : Below y11.heap.size y11 y := hy.1
      have HI0 := Lib.hid (show Ints y (some ⟨bb0, 0, none⟩) 4 (ltI [0, 1, 1, 0]) from ints_lit [0, 1, 1, 0] hy.2)
      simp only [List.getElem_toArray, List.getElem_cons_zero, List.getElem_cons_succ]
      go_big_quiet_step ((with_reducible refine calls_later_same (of_c _ _ _ _)))
      exact wpQuiet_nil hK1
    simp only [Act.put, List.getElem_toArray, List.getElem_cons_zero, List.getElem_cons_succ, List.setIfInBounds_toArray, List.set_cons_zero, List.set_cons_succ]
    refine run_takeQ (i := 3) (.tuple #[.int .i64 0, .int .i64 15]) rfl (by kernel_rfl) (by kernel_rfl) (by kernel_rfl) (fun y h => h) (quiet_of_walk rfl rfl (by simp) (fun y hy K1 hK1 => ?_)) ?_
    · have g0 : Below y11.heap.size y11 y := hy.1
      have HI0 := Lib.hid (show Ints y (some ⟨bb0, 0, none⟩) 4 (ltI [0, 1, 1, 0]) from ints_lit [0, 1, 1, 0] hy.2)
      simp only [List.getElem_toArray, List.getElem_cons_zero, List.getElem_cons_succ]
      go_big_quiet_step ((with_reducible refine calls_later (K14.out bb0 _ (g0.trans ((Later.h _).mono g0.size)) (ints_below HI0.out (Later.h _)))))
      exact wpQuiet_nil hK1
    simp only [Act.put, List.getElem_toArray, List.getElem_cons_zero, List.getElem_cons_succ, List.setIfInBounds_toArray, List.set_cons_zero, List.set_cons_succ]
    refine run_take (i := 4) (.tuple #[.int .i64 0, .int .i64 15]) rfl (by kernel_rfl) (by kernel_rfl) (by kernel_rfl) rfl (fun y h => h) (fun y _ => by go_simp) ?_
    simp only [Act.put, List.getElem_toArray, List.getElem_cons_zero, List.getElem_cons_succ, List.setIfInBounds_toArray, List.set_cons_zero, List.set_cons_succ]
    refine run_take (i := 5) (.int .i64 0) rfl (by kernel_rfl) (by kernel_rfl) (by kernel_rfl) rfl (fun y h => h) (fun y _ => by go_simp) ?_
    simp only [Act.put, List.getElem_toArray, List.getElem_cons_zero, List.getElem_cons_succ, List.setIfInBounds_toArray, List.set_cons_zero, List.set_cons_succ]
    refine run_take (i := 6) (.int .i64 15) rfl (by kernel_rfl) (by kernel_rfl) (by kernel_rfl) rfl (fun y h => h) (fun y _ => by go_simp) ?_
    simp only [Act.put, List.getElem_toArray, List.getElem_cons_zero, List.getElem_cons_succ, List.setIfInBounds_toArray, List.set_cons_zero, List.set_cons_succ]
    refine run_take (i := 7) (.int .i64 0) rfl (by kernel_rfl) (by kernel_rfl) (by kernel_rfl) rfl (fun y h => h) (fun y _ => by go_simp) ?_
    simp only [Act.put, List.getElem_toArray, List.getElem_cons_zero, List.getElem_cons_succ, List.setIfInBounds_toArray, List.set_cons_zero, List.set_cons_succ]
    refine run_take (i := 8) (.int .i64 15) rfl (by kernel_rfl) (by kernel_rfl) (by kernel_rfl) rfl (fun y h => h) (fun y _ => by go_simp) ?_
    simp only [Act.put, List.getElem_toArray, List.getElem_cons_zero, List.getElem_cons_succ, List.setIfInBounds_toArray, List.set_cons_zero, List.set_cons_succ]
    exact ⟨by kernel_rfl, fun y hy => fin bb0 y hy.1⟩
  intro b17 y15 hy16
  clear K14
  replace H3 := Lib.hid (H3.out.below hy16)
  replace H2 := Lib.hid (H2.out.below hy16)
  replace B1 := Lib.hid (RowIs.below B1.out hy16)
  replace B2 := Lib.hid (RowIs.below B2.out hy16)
  replace HD := Lib.hid (ints_below HD.out hy16)
  replace HX := Lib.hid (ints_below HX.out hy16)
  replace HY := Lib.hid (ints_below HY.out hy16)
  replace hB := bup hB hy16
  have C18 := Lib.hid (t_Fewest p3 k3 y15 H3.out)
  obtain ⟨r0, r1, r2, rz⟩ := bookcells B1.out
  go_wp2_with fail
  clear hy16 r0 r1 r2 rz
  refine C18.out.mono ?_
  rintro e w19 ⟨rfl, hw20⟩
  clear C18
  replace H3 := Lib.hid (H3.out.below hw20)
  replace H2 := Lib.hid (H2.out.below hw20)
  replace B1 := Lib.hid (RowIs.below B1.out hw20)
  replace B2 := Lib.hid (RowIs.below B2.out hw20)
  replace HD := Lib.hid (ints_below HD.out hw20)
  replace HX := Lib.hid (ints_below HX.out hw20)
  replace HY := Lib.hid (ints_below HY.out hw20)
  replace hB := bup hB hw20
  have C21 := Lib.hid (t_Days3 p3 k3 w19 H3.out)
  obtain ⟨r0, r1, r2, rz⟩ := bookcells B1.out
  go_wp2_with fail
  clear hw20 r0 r1 r2 rz
  refine C21.out.mono ?_
  rintro e w22 ⟨x3, rfl, hx3, hw23⟩
  clear C21
  replace H3 := Lib.hid (H3.out.below hw23)
  replace H2 := Lib.hid (H2.out.below hw23)
  replace B1 := Lib.hid (RowIs.below B1.out hw23)
  replace B2 := Lib.hid (RowIs.below B2.out hw23)
  replace HD := Lib.hid (ints_below HD.out hw23)
  replace HX := Lib.hid (ints_below HX.out hw23)
  replace HY := Lib.hid (ints_below HY.out hw23)
  replace hB := bup hB hw23
  have HL := Lib.hid hx3
  clear hx3
  have C24 := Lib.hid (t_Days2 p2 k2 w22 H2.out)
  obtain ⟨r0, r1, r2, rz⟩ := bookcells B2.out
  go_wp2_with fail
  clear hw23 r0 r1 r2 rz
  refine C24.out.mono ?_
  rintro e w25 ⟨x4, rfl, hx4, hw26⟩
  clear C24
  replace H3 := Lib.hid (H3.out.below hw26)
  replace H2 := Lib.hid (H2.out.below hw26)
  replace B1 := Lib.hid (RowIs.below B1.out hw26)
  replace B2 := Lib.hid (RowIs.below B2.out hw26)
  replace HD := Lib.hid (ints_below HD.out hw26)
  replace HX := Lib.hid (ints_below HX.out hw26)
  replace HY := Lib.hid (ints_below HY.out hw26)
  replace HL := Lib.hid (ints_below HL.out hw26)
  replace hB := bup hB hw26
  have HM := Lib.hid hx4
  clear hx4
  have C27 := Lib.hid (t_Chain1 p3 k3 w25 (some ⟨pd, 0, none⟩) 5 H3.out HD.out)
  obtain ⟨r0, r1, r2, rz⟩ := bookcells B1.out
  go_wp2_with fail
  clear hw26 r0 r1 r2 rz
  refine C27.out.mono ?_
  rintro e w28 ⟨x5, k5, rfl, hx5, hw29⟩
  clear C27
  replace H3 := Lib.hid (H3.out.below hw29)
  replace H2 := Lib.hid (H2.out.below hw29)
  replace B1 := Lib.hid (RowIs.below B1.out hw29)
  replace B2 := Lib.hid (RowIs.below B2.out hw29)
  replace HD := Lib.hid (ints_below HD.out hw29)
  replace HX := Lib.hid (ints_below HX.out hw29)
  replace HY := Lib.hid (ints_below HY.out hw29)
  replace HL := Lib.hid (ints_below HL.out hw29)
  replace HM := Lib.hid (ints_below HM.out hw29)
  replace hB := bup hB hw29
  have HP := Lib.hid hx5
  clear hx5
  have C30 := Lib.hid (t_Chain2 p3 k3 w28 (some ⟨pd, 0, none⟩) 5 H3.out HD.out)
  obtain ⟨r0, r1, r2, rz⟩ := bookcells B1.out
  go_wp2_with fail
  clear hw29 r0 r1 r2 rz
  refine C30.out.mono ?_
  rintro e w31 ⟨rfl, hw32⟩
  clear C30
  replace H3 := Lib.hid (H3.out.below hw32)
  replace H2 := Lib.hid (H2.out.below hw32)
  replace B1 := Lib.hid (RowIs.below B1.out hw32)
  replace B2 := Lib.hid (RowIs.below B2.out hw32)
  replace HD := Lib.hid (ints_below HD.out hw32)
  replace HX := Lib.hid (ints_below HX.out hw32)
  replace HY := Lib.hid (ints_below HY.out hw32)
  replace HL := Lib.hid (ints_below HL.out hw32)
  replace HM := Lib.hid (ints_below HM.out hw32)
  replace HP := Lib.hid (ints_below HP.out hw32)
  replace hB := bup hB hw32
  have C33 := Lib.hid (t_Swap1 p3 k3 w31 (some ⟨pd, 0, none⟩) 5 H3.out HD.out)
  obtain ⟨r0, r1, r2, rz⟩ := bookcells B1.out
  go_wp2_with fail
  clear hw32 r0 r1 r2 rz
  refine C33.out.mono ?_
  rintro e w34 ⟨x6, rfl, hx6, hw35⟩
  clear C33
  replace H3 := Lib.hid (H3.out.below hw35)
  replace H2 := Lib.hid (H2.out.below hw35)
  replace B1 := Lib.hid (RowIs.below B1.out hw35)
  replace B2 := Lib.hid (RowIs.below B2.out hw35)
  replace HD := Lib.hid (ints_below HD.out hw35)
  replace HX := Lib.hid (ints_below HX.out hw35)
  replace HY := Lib.hid (ints_below HY.out hw35)
  replace HL := Lib.hid (ints_below HL.out hw35)
  replace HM := Lib.hid (ints_below HM.out hw35)
  replace HP := Lib.hid (ints_below HP.out hw35)
  replace hB := bup hB hw35
  have HS := Lib.hid hx6
  clear hx6
  have C36 := Lib.hid (t_Swap2 p3 k3 w34 (some ⟨pd, 0, none⟩) 5 H3.out HD.out)
  obtain ⟨r0, r1, r2, rz⟩ := bookcells B1.out
  go_wp2_with fail
  clear hw35 r0 r1 r2 rz
  refine C36.out.mono ?_
  rintro e w37 ⟨rfl, hw38⟩
  clear C36
  replace H3 := Lib.hid (H3.out.below hw38)
  replace H2 := Lib.hid (H2.out.below hw38)
  replace B1 := Lib.hid (RowIs.below B1.out hw38)
  replace B2 := Lib.hid (RowIs.below B2.out hw38)
  replace HD := Lib.hid (ints_below HD.out hw38)
  replace HX := Lib.hid (ints_below HX.out hw38)
  replace HY := Lib.hid (ints_below HY.out hw38)
  replace HL := Lib.hid (ints_below HL.out hw38)
  replace HM := Lib.hid (ints_below HM.out hw38)
  replace HP := Lib.hid (ints_below HP.out hw38)
  replace HS := Lib.hid (ints_below HS.out hw38)
  replace hB := bup hB hw38
  have C39 := Lib.hid (t_Swap3 p3 k3 w37 (some ⟨pd, 0, none⟩) 5 H3.out HD.out)
  obtain ⟨r0, r1, r2, rz⟩ := bookcells B1.out
  go_wp2_with fail
  clear hw38 r0 r1 r2 rz
  refine C39.out.mono ?_
  rintro e w40 ⟨rfl, hw41⟩
  clear C39
  replace H3 := Lib.hid (H3.out.below hw41)
  replace H2 := Lib.hid (H2.out.below hw41)
  replace B1 := Lib.hid (RowIs.below B1.out hw41)
  replace B2 := Lib.hid (RowIs.below B2.out hw41)
  replace HD := Lib.hid (ints_below HD.out hw41)
  replace HX := Lib.hid (ints_below HX.out hw41)
  replace HY := Lib.hid (ints_below HY.out hw41)
  replace HL := Lib.hid (ints_below HL.out hw41)
  replace HM := Lib.hid (ints_below HM.out hw41)
  replace HP := Lib.hid (ints_below HP.out hw41)
  replace HS := Lib.hid (ints_below HS.out hw41)
  replace hB := bup hB hw41
  have C42 := Lib.hid (t_List p3 k3 w40 H3.out)
  obtain ⟨r0, r1, r2, rz⟩ := bookcells B1.out
  go_wp2_with fail
  clear hw41 r0 r1 r2 rz
  refine C42.out.mono ?_
  rintro e w43 ⟨x7, k7, rfl, hx7, hw44⟩
  clear C42
  replace H3 := Lib.hid (H3.out.below hw44)
  replace H2 := Lib.hid (H2.out.below hw44)
  replace B1 := Lib.hid (RowIs.below B1.out hw44)
  replace B2 := Lib.hid (RowIs.below B2.out hw44)
  replace HD := Lib.hid (ints_below HD.out hw44)
  replace HX := Lib.hid (ints_below HX.out hw44)
  replace HY := Lib.hid (ints_below HY.out hw44)
  replace HL := Lib.hid (ints_below HL.out hw44)
  replace HM := Lib.hid (ints_below HM.out hw44)
  replace HP := Lib.hid (ints_below HP.out hw44)
  replace HS := Lib.hid (ints_below HS.out hw44)
  replace hB := bup hB hw44
  have HO := Lib.hid hx7
  clear hx7
  have K45 := Lib.hid (fun (q : Nat) (V : World) (hV : Below w43.heap.size w43 V) (hI : Ints V (some ⟨q, 0, none⟩) 2 (ltI [0, 1])) => t_CheckList p3 k3 V [0, 1] 18 (some ⟨q, 0, none⟩) y_list1 (H3.out.below hV) hI)
  have K46 := Lib.hid (fun (q : Nat) (V : World) (hV : Below w43.heap.size w43 V) (hI : Ints V (some ⟨q, 0, none⟩) 2 (ltI [3, 0])) => t_CheckList p3 k3 V [3, 0] 3 (some ⟨q, 0, none⟩) y_list2 (H3.out.below hV) hI)
  go_wp2_with fail
  clear hw44
  apply cut2 (w0 := w43)
  case main =>
    intro fin
    refine wp_region_runF (C := fun x => Below w43.heap.size w43 x) (fun x => Below w43.heap.size w43 x) (by kernel_rfl) (stable_below w43) (Below.refl _ _) ?_
    change Run _ _ _ _ _ 10 _ _ _
    refine run_take (i := 0) (.agg #[.int .i64 3, .int .i64 3, .slice p3 5 k3]) rfl (by kernel_rfl) (by kernel_rfl) (by kernel_rfl) rfl (fun y h => h) (fun y hy => by obtain ⟨r0, r1, r2, rz⟩ := bookcells (RowIs.below B1.out hy); go_simp) ?_
    simp only [Act.put, List.getElem_toArray, List.getElem_cons_zero, List.setIfInBounds_toArray, List.set_cons_zero, List.set_cons_succ]
    refine run_take (i := 4) (.agg #[.int .i64 3, .int .i64 3, .slice p3 5 k3]) rfl (by kernel_rfl) (by kernel_rfl) (by kernel_rfl) rfl (fun y h => h) (fun y hy => by obtain ⟨r0, r1, r2, rz⟩ := bookcells (RowIs.below B1.out hy); go_simp) ?_
    simp only [Act.put, List.getElem_toArray, List.getElem_cons_zero, List.getElem_cons_succ, List.setIfInBounds_toArray, List.set_cons_zero, List.set_cons_succ]
    refine run_both (i := 1) (j := 5) (by kernel_rfl) ?_ ?_
    · skip
      refine at_make (w0 := w43) (t := 130) (z := .cells #[.int .i64 0, .int .i64 1] 3 (0, 0)) (fun q => .slice (some ⟨q, 0, none⟩) 2 2) (fun _ => False) slice_inj rfl rfl rfl (fun y _ => by go_simp) (fun y h => h.size) (fun _ _ _ h => h.elim) ?_
      intro bb0 hbb0 _
      simp only [Act.put, List.setIfInBounds_toArray, List.set_cons_zero, List.set_cons_succ]
      refine run_strong (C' := fun x => (Below w43.heap.size w43 x) ∧ x.heap[bb0]? = some (.cells #[.int .i64 0, .int .i64 1] 3 (0, 0))) (fun x h => h.1) _ _ _ _ ?_
      refine run_takeQ (i := 2) (.slice (some ⟨bb0, 0, none⟩) 2 2) rfl (by kernel_rfl) (by kernel_rfl) (by kernel_rfl) (fun y h => h) (quiet_of_walk rfl rfl (by simp) (fun y hy K1 hK1 => ?_)) ?_
      · have g0 : Below w43.heap.size w43 y := hy.1
        have HI0 := Lib.hid (show Ints y (some ⟨bb0, 0, none⟩) 2 (ltI [0, 1]) from ints_lit [0, 1] hy.2)
        simp only [List.getElem_toArray, List.getElem_cons_zero, List.getElem_cons_succ]
        go_big_quiet_step ((with_reducible refine calls_later_same (of_c _ _ _ _)))
        exact wpQuiet_nil hK1
      simp only [Act.put, List.getElem_toArray, List.getElem_cons_zero, List.getElem_cons_succ, List.setIfInBounds_toArray, List.set_cons_zero, List.set_cons_succ]
      refine run_takeQ (i := 3) (.int .i64 18) rfl (by kernel_rfl) (by kernel_rfl) (by kernel_rfl) (fun y h => h) (quiet_of_walk rfl rfl (by simp) (fun y hy K1 hK1 => ?_)) ?_
      · have g0 : Below w43.heap.size w43 y := hy.1
        have HI0 := Lib.hid (show Ints y (some ⟨bb0, 0, none⟩) 2 (ltI [0, 1]) from ints_lit [0, 1] hy.2)
        simp only [List.getElem_toArray, List.getElem_cons_zero, List.getElem_cons_succ]
        go_big_quiet_step ((with_reducible refine calls_later (K45.out bb0 _ (g0.trans ((Later.h _).mono g0.size)) (ints_below HI0.out (Later.h _)))))
        exact wpQuiet_nil hK1
      simp only [Act.put, List.getElem_toArray, List.getElem_cons_zero, List.getElem_cons_succ, List.setIfInBounds_toArray, List.set_cons_zero, List.set_cons_succ]
      refine run_only (i := 5) (by kernel_rfl) (at_make (w0 := w43) (t := 134) (z := .cells #[.int .i64 3, .int .i64 0] 3 (0, 0)) (fun q => .slice (some ⟨q, 0, none⟩) 2 2) (fun _ => False) slice_inj rfl rfl rfl (fun y _ => by go_simp) (fun y h => h.1.size) (fun _ _ _ h => h.elim) ?_)
      intro bb1 hbb1 _
      simp only [Act.put, List.setIfInBounds_toArray, List.set_cons_zero, List.set_cons_succ]
      refine run_strong (C' := fun x => ((Below w43.heap.size w43 x) ∧ x.heap[bb0]? = some (.cells #[.int .i64 0, .int .i64 1] 3 (0, 0))) ∧ x.heap[bb1]? = some (.cells #[.int .i64 3, .int .i64 0] 3 (0, 0))) (fun x h => h.1) _ _ _ _ ?_
      refine run_takeQ (i := 6) (.slice (some ⟨bb1, 0, none⟩) 2 2) rfl (by kernel_rfl) (by kernel_rfl) (by kernel_rfl) (fun y h => h) (quiet_of_walk rfl rfl (by simp) (fun y hy K1 hK1 => ?_)) ?_
      · have g0 : Below w43.heap.size w43 y := hy.1.1
        have HI0 := Lib.hid (show Ints y (some ⟨bb0, 0, none⟩) 2 (ltI [0, 1]) from ints_lit [0, 1] hy.1.2)
        have HI1 := Lib.hid (show Ints y (some ⟨bb1, 0, none⟩) 2 (ltI [3, 0]) from ints_lit [3, 0] hy.2)
        simp only [List.getElem_toArray, List.getElem_cons_zero, List.getElem_cons_succ]
        go_big_quiet_step ((with_reducible refine calls_later_same (of_c _ _ _ _)))
        exact wpQuiet_nil hK1
      simp only [Act.put, List.getElem_toArray, List.getElem_cons_zero, List.getElem_cons_succ, List.setIfInBounds_toArray, List.set_cons_zero, List.set_cons_succ]
      refine run_takeQ (i := 7) (.int .i64 3) rfl (by kernel_rfl) (by kernel_rfl) (by kernel_rfl) (fun y h => h) (quiet_of_walk rfl rfl (by simp) (fun y hy K1 hK1 => ?_)) ?_
      · have g0 : Below w43.heap.size w43 y := hy.1.1
        have HI0 := Lib.hid (show Ints y (some ⟨bb0, 0, none⟩) 2 (ltI [0, 1]) from ints_lit [0, 1] hy.1.2)
        have HI1 := Lib.hid (show Ints y (some ⟨bb1, 0, none⟩) 2 (ltI [3, 0]) from ints_lit [3, 0] hy.2)
        simp only [List.getElem_toArray, List.getElem_cons_zero, List.getElem_cons_succ]
        go_big_quiet_step ((with_reducible refine calls_later (K46.out bb1 _ (g0.trans ((Later.h _).mono g0.size)) (ints_below HI1.out (Later.h _)))))
        exact wpQuiet_nil hK1
      simp only [Act.put, List.getElem_toArray, List.getElem_cons_zero, List.getElem_cons_succ, List.setIfInBounds_toArray, List.set_cons_zero, List.set_cons_succ]
      refine run_take (i := 8) (.int .i64 18) rfl (by kernel_rfl) (by kernel_rfl) (by kernel_rfl) rfl (fun y h => h) (fun y _ => by go_simp) ?_
      simp only [Act.put, List.getElem_toArray, List.getElem_cons_zero, List.getElem_cons_succ, List.setIfInBounds_toArray, List.set_cons_zero, List.set_cons_succ]
      refine run_take (i := 9) (.int .i64 3) rfl (by kernel_rfl) (by kernel_rfl) (by kernel_rfl) rfl (fun y h => h) (fun y _ => by go_simp) ?_
      simp only [Act.put, List.getElem_toArray, List.getElem_cons_zero, List.getElem_cons_succ, List.setIfInBounds_toArray, List.set_cons_zero, List.set_cons_succ]
      exact ⟨by kernel_rfl, fun y hy => fin bb0 bb1 y hy.1.1⟩
    · skip
      refine at_make (w0 := w43) (t := 134) (z := .cells #[.int .i64 3, .int .i64 0] 3 (0, 0)) (fun q => .slice (some ⟨q, 0, none⟩) 2 2) (fun _ => False) slice_inj rfl rfl rfl (fun y _ => by go_simp) (fun y h => h.size) (fun _ _ _ h => h.elim) ?_
      intro bb1 hbb1 _
      simp only [Act.put, List.setIfInBounds_toArray, List.set_cons_zero, List.set_cons_succ]
      refine run_only (i := 1) (by kernel_rfl) (at_make (w0 := w43) (t := 130) (z := .cells #[.int .i64 0, .int .i64 1] 3 (0, 0)) (fun q => .slice (some ⟨q, 0, none⟩) 2 2) (fun _ => False) slice_inj rfl rfl rfl (fun y _ => by go_simp) (fun y h => h.1.size) (fun _ _ _ h => h.elim) ?_)
      intro bb0 hbb0 _
      simp only [Act.put, List.setIfInBounds_toArray, List.set_cons_zero, List.set_cons_succ]
      refine run_strong (C' := fun x => ((Below w43.heap.size w43 x) ∧ x.heap[bb1]? = some (.cells #[.int .i64 3, .int .i64 0] 3 (0, 0))) ∧ x.heap[bb0]? = some (.cells #[.int .i64 0, .int .i64 1] 3 (0, 0))) (fun x h => h.1.1) _ _ _ _ ?_
      refine run_takeQ (i := 2) (.slice (some ⟨bb0, 0, none⟩) 2 2) rfl (by kernel_rfl) (by kernel_rfl) (by kernel_rfl) (fun y h => h) (quiet_of_walk rfl rfl (by simp) (fun y hy K1 hK1 => ?_)) ?_
      · have g0 : Below w43.heap.size w43 y := hy.1.1
        have HI1 := Lib.hid (show Ints y (some ⟨bb1, 0, none⟩) 2 (ltI [3, 0]) from ints_lit [3, 0] hy.1.2)
        have HI0 := Lib.hid (show Ints y (some ⟨bb0, 0, none⟩) 2 (ltI [0, 1]) from ints_lit [0, 1] hy.2)
        simp only [List.getElem_toArray, List.getElem_cons_zero, List.getElem_cons_succ]
        go_big_quiet_step ((with_reducible refine calls_later_same (of_c _ _ _ _)))
        exact wpQuiet_nil hK1
      simp only [Act.put, List.getElem_toArray, List.getElem_cons_zero, List.getElem_cons_succ, List.setIfInBounds_toArray, List.set_cons_zero, List.set_cons_succ]
      refine run_takeQ (i := 3) (.int .i64 18) rfl (by kernel_rfl) (by kernel_rfl) (by kernel_rfl) (fun y h => h) (quiet_of_walk rfl rfl (by simp) (fun y hy K1 hK1 => ?_)) ?_
      · have g0 : Below w43.heap.size w43 y := hy.1.1
        have HI1 := Lib.hid (show Ints y (some ⟨bb1, 0, none⟩) 2 (ltI [3, 0]) from ints_lit [3, 0] hy.1.2)
        have HI0 := Lib.hid (show Ints y (some ⟨bb0, 0, none⟩) 2 (ltI [0, 1]) from ints_lit [0, 1] hy.2)
        simp only [List.getElem_toArray, List.getElem_cons_zero, List.getElem_cons_succ]
        go_big_quiet_step ((with_reducible refine calls_later (K45.out bb0 _ (g0.trans ((Later.h _).mono g0.size)) (ints_below HI0.out (Later.h _)))))
        exact wpQuiet_nil hK1
      simp only [Act.put, List.getElem_toArray, List.getElem_cons_zero, List.getElem_cons_succ, List.setIfInBounds_toArray, List.set_cons_zero, List.set_cons_succ]
      refine run_takeQ (i := 6) (.slice (some ⟨bb1, 0, none⟩) 2 2) rfl (by kernel_rfl) (by kernel_rfl) (by kernel_rfl) (fun y h => h) (quiet_of_walk rfl rfl (by simp) (fun y hy K1 hK1 => ?_)) ?_
      · have g0 : Below w43.heap.size w43 y := hy.1.1
        have HI1 := Lib.hid (show Ints y (some ⟨bb1, 0, none⟩) 2 (ltI [3, 0]) from ints_lit [3, 0] hy.1.2)
        have HI0 := Lib.hid (show Ints y (some ⟨bb0, 0, none⟩) 2 (ltI [0, 1]) from ints_lit [0, 1] hy.2)
        simp only [List.getElem_toArray, List.getElem_cons_zero, List.getElem_cons_succ]
        go_big_quiet_step ((with_reducible refine calls_later_same (of_c _ _ _ _)))
        exact wpQuiet_nil hK1
      simp only [Act.put, List.getElem_toArray, List.getElem_cons_zero, List.getElem_cons_succ, List.setIfInBounds_toArray, List.set_cons_zero, List.set_cons_succ]
      refine run_takeQ (i := 7) (.int .i64 3) rfl (by kernel_rfl) (by kernel_rfl) (by kernel_rfl) (fun y h => h) (quiet_of_walk rfl rfl (by simp) (fun y hy K1 hK1 => ?_)) ?_
      · have g0 : Below w43.heap.size w43 y := hy.1.1
        have HI1 := Lib.hid (show Ints y (some ⟨bb1, 0, none⟩) 2 (ltI [3, 0]) from ints_lit [3, 0] hy.1.2)
        have HI0 := Lib.hid (show Ints y (some ⟨bb0, 0, none⟩) 2 (ltI [0, 1]) from ints_lit [0, 1] hy.2)
        simp only [List.getElem_toArray, List.getElem_cons_zero, List.getElem_cons_succ]
        go_big_quiet_step ((with_reducible refine calls_later (K46.out bb1 _ (g0.trans ((Later.h _).mono g0.size)) (ints_below HI1.out (Later.h _)))))
        exact wpQuiet_nil hK1
      simp only [Act.put, List.getElem_toArray, List.getElem_cons_zero, List.getElem_cons_succ, List.setIfInBounds_toArray, List.set_cons_zero, List.set_cons_succ]
      refine run_take (i := 8) (.int .i64 18) rfl (by kernel_rfl) (by kernel_rfl) (by kernel_rfl) rfl (fun y h => h) (fun y _ => by go_simp) ?_
      simp only [Act.put, List.getElem_toArray, List.getElem_cons_zero, List.getElem_cons_succ, List.setIfInBounds_toArray, List.set_cons_zero, List.set_cons_succ]
      refine run_take (i := 9) (.int .i64 3) rfl (by kernel_rfl) (by kernel_rfl) (by kernel_rfl) rfl (fun y h => h) (fun y _ => by go_simp) ?_
      simp only [Act.put, List.getElem_toArray, List.getElem_cons_zero, List.getElem_cons_succ, List.setIfInBounds_toArray, List.set_cons_zero, List.set_cons_succ]
      exact ⟨by kernel_rfl, fun y hy => fin bb0 bb1 y hy.1.1⟩
  intro b49 b50 y47 hy48
  clear K45
  clear K46
  replace H3 := Lib.hid (H3.out.below hy48)
  replace H2 := Lib.hid (H2.out.below hy48)
  replace B1 := Lib.hid (RowIs.below B1.out hy48)
  replace B2 := Lib.hid (RowIs.below B2.out hy48)
  replace HD := Lib.hid (ints_below HD.out hy48)
  replace HX := Lib.hid (ints_below HX.out hy48)
  replace HY := Lib.hid (ints_below HY.out hy48)
  replace HL := Lib.hid (ints_below HL.out hy48)
  replace HM := Lib.hid (ints_below HM.out hy48)
  replace HP := Lib.hid (ints_below HP.out hy48)
  replace HS := Lib.hid (ints_below HS.out hy48)
  replace HO := Lib.hid (ints_below HO.out hy48)
  replace hB := bup hB hy48
  have K51 := Lib.hid (fun (q : Nat) (V : World) (hV : Below y47.heap.size y47 V) (hI : Ints V (some ⟨q, 0, none⟩) 2 (ltI [0, 1])) => t_CheckCover1 p3 k3 V (some ⟨q, 0, none⟩) (H3.out.below hV) hI)
  go_wp2_with fail
  clear hy48
  apply cut1 (w0 := y47)
  case main =>
    intro fin
    refine wp_region_runF (C := fun x => Below y47.heap.size y47 x) (fun x => Below y47.heap.size y47 x) (by kernel_rfl) (stable_below y47) (Below.refl _ _) ?_
    change Run _ _ _ _ _ 9 _ _ _
    refine run_take (i := 0) (.agg #[.int .i64 3, .int .i64 3, .slice p3 5 k3]) rfl (by kernel_rfl) (by kernel_rfl) (by kernel_rfl) rfl (fun y h => h) (fun y hy => by obtain ⟨r0, r1, r2, rz⟩ := bookcells (RowIs.below B1.out hy); go_simp) ?_
    simp only [Act.put, List.getElem_toArray, List.getElem_cons_zero, List.setIfInBounds_toArray, List.set_cons_zero, List.set_cons_succ]
    refine run_only (i := 1) (by kernel_rfl) (at_make (w0 := y47) (t := 139) (z := .cells #[.int .i64 0, .int .i64 1] 3 (0, 0)) (fun q => .slice (some ⟨q, 0, none⟩) 2 2) (fun _ => False) slice_inj rfl rfl rfl (fun y _ => by go_simp) (fun y h => h.size) (fun _ _ _ h => h.elim) ?_)
    intro bb0 hbb0 _
    simp only [Act.put, List.setIfInBounds_toArray, List.set_cons_zero, List.set_cons_succ]
    refine run_strong (C' := fun x => (Below y47.heap.size y47 x) ∧ x.heap[bb0]? = some (.cells #[.int .i64 0, .int .i64 1] 3 (0, 0))) (fun x h => h.1) _ _ _ _ ?_
    refine run_takeQ (i := 2) (.slice (some ⟨bb0, 0, none⟩) 2 2) rfl (by kernel_rfl) (by kernel_rfl) (by kernel_rfl) (fun y h => h) (quiet_of_walk rfl rfl (by simp) (fun y hy K1 hK1 => ?_)) ?_
    · have g0 : Below y47.heap.size y47 y := hy.1
      have HI0 := Lib.hid (show Ints y (some ⟨bb0, 0, none⟩) 2 (ltI [0, 1]) from ints_lit [0, 1] hy.2)
      simp only [List.getElem_toArray, List.getElem_cons_zero, List.getElem_cons_succ]
      go_big_quiet_step ((with_reducible refine calls_later_same (of_c _ _ _ _)))
      exact wpQuiet_nil hK1
    simp only [Act.put, List.getElem_toArray, List.getElem_cons_zero, List.getElem_cons_succ, List.setIfInBounds_toArray, List.set_cons_zero, List.set_cons_succ]
    refine run_takeQ (i := 3) (.tuple #[.int .i64 2, .int .i64 0]) rfl (by kernel_rfl) (by kernel_rfl) (by kernel_rfl) (fun y h => h) (quiet_of_walk rfl rfl (by simp) (fun y hy K1 hK1 => ?_)) ?_
    · have g0 : Below y47.heap.size y47 y := hy.1
      have HI0 := Lib.hid (show Ints y (some ⟨bb0, 0, none⟩) 2 (ltI [0, 1]) from ints_lit [0, 1] hy.2)
      simp only [List.getElem_toArray, List.getElem_cons_zero, List.getElem_cons_succ]
      go_big_quiet_step ((with_reducible refine calls_later (K51.out bb0 _ (g0.trans ((Later.h _).mono g0.size)) (ints_below HI0.out (Later.h _)))))
      exact wpQuiet_nil hK1
    simp only [Act.put, List.getElem_toArray, List.getElem_cons_zero, List.getElem_cons_succ, List.setIfInBounds_toArray, List.set_cons_zero, List.set_cons_succ]
    refine run_take (i := 4) (.tuple #[.int .i64 2, .int .i64 0]) rfl (by kernel_rfl) (by kernel_rfl) (by kernel_rfl) rfl (fun y h => h) (fun y _ => by go_simp) ?_
    simp only [Act.put, List.getElem_toArray, List.getElem_cons_zero, List.getElem_cons_succ, List.setIfInBounds_toArray, List.set_cons_zero, List.set_cons_succ]
    refine run_take (i := 5) (.int .i64 2) rfl (by kernel_rfl) (by kernel_rfl) (by kernel_rfl) rfl (fun y h => h) (fun y _ => by go_simp) ?_
    simp only [Act.put, List.getElem_toArray, List.getElem_cons_zero, List.getElem_cons_succ, List.setIfInBounds_toArray, List.set_cons_zero, List.set_cons_succ]
    refine run_take (i := 6) (.int .i64 0) rfl (by kernel_rfl) (by kernel_rfl) (by kernel_rfl) rfl (fun y h => h) (fun y _ => by go_simp) ?_
    simp only [Act.put, List.getElem_toArray, List.getElem_cons_zero, List.getElem_cons_succ, List.setIfInBounds_toArray, List.set_cons_zero, List.set_cons_succ]
    refine run_take (i := 7) (.int .i64 2) rfl (by kernel_rfl) (by kernel_rfl) (by kernel_rfl) rfl (fun y h => h) (fun y _ => by go_simp) ?_
    simp only [Act.put, List.getElem_toArray, List.getElem_cons_zero, List.getElem_cons_succ, List.setIfInBounds_toArray, List.set_cons_zero, List.set_cons_succ]
    refine run_take (i := 8) (.int .i64 0) rfl (by kernel_rfl) (by kernel_rfl) (by kernel_rfl) rfl (fun y h => h) (fun y _ => by go_simp) ?_
    simp only [Act.put, List.getElem_toArray, List.getElem_cons_zero, List.getElem_cons_succ, List.setIfInBounds_toArray, List.set_cons_zero, List.set_cons_succ]
    exact ⟨by kernel_rfl, fun y hy => fin bb0 y hy.1⟩
  intro b54 y52 hy53
  clear K51
  replace H3 := Lib.hid (H3.out.below hy53)
  replace H2 := Lib.hid (H2.out.below hy53)
  replace B1 := Lib.hid (RowIs.below B1.out hy53)
  replace B2 := Lib.hid (RowIs.below B2.out hy53)
  replace HD := Lib.hid (ints_below HD.out hy53)
  replace HX := Lib.hid (ints_below HX.out hy53)
  replace HY := Lib.hid (ints_below HY.out hy53)
  replace HL := Lib.hid (ints_below HL.out hy53)
  replace HM := Lib.hid (ints_below HM.out hy53)
  replace HP := Lib.hid (ints_below HP.out hy53)
  replace HS := Lib.hid (ints_below HS.out hy53)
  replace HO := Lib.hid (ints_below HO.out hy53)
  replace hB := bup hB hy53
  have K55 := Lib.hid (fun (q r : Nat) (V : World) (hV : Below y52.heap.size y52 V) (hI : Ints V (some ⟨q, 0, none⟩) 1 (ltI [0])) (hJ : Ints V (some ⟨r, 0, none⟩) 1 (ltI [0])) => t_CheckCover2 p3 k3 V (some ⟨q, 0, none⟩) (some ⟨r, 0, none⟩) (H3.out.below hV) hI hJ)
  go_wp2_with fail
  clear hy53
  apply cut2 (w0 := y52)
  case main =>
    intro fin
    refine wp_region_runF (C := fun x => Below y52.heap.size y52 x) (fun x => Below y52.heap.size y52 x) (by kernel_rfl) (stable_below y52) (Below.refl _ _) ?_
    change Run _ _ _ _ _ 11 _ _ _
    refine run_take (i := 0) (.agg #[.int .i64 3, .int .i64 3, .slice p3 5 k3]) rfl (by kernel_rfl) (by kernel_rfl) (by kernel_rfl) rfl (fun y h => h) (fun y hy => by obtain ⟨r0, r1, r2, rz⟩ := bookcells (RowIs.below B1.out hy); go_simp) ?_
    simp only [Act.put, List.getElem_toArray, List.getElem_cons_zero, List.setIfInBounds_toArray, List.set_cons_zero, List.set_cons_succ]
    refine run_both (i := 1) (j := 3) (by kernel_rfl) ?_ ?_
    · skip
      refine at_make (w0 := y52) (t := 146) (z := .cells #[.int .i64 0] 3 (0, 0)) (fun q => .slice (some ⟨q, 0, none⟩) 1 1) (fun _ => False) slice_inj rfl rfl rfl (fun y _ => by go_simp) (fun y h => h.size) (fun _ _ _ h => h.elim) ?_
      intro bb0 hbb0 _
      simp only [Act.put, List.setIfInBounds_toArray, List.set_cons_zero, List.set_cons_succ]
      refine run_strong (C' := fun x => (Below y52.heap.size y52 x) ∧ x.heap[bb0]? = some (.cells #[.int .i64 0] 3 (0, 0))) (fun x h => h.1) _ _ _ _ ?_
      refine run_takeQ (i := 2) (.slice (some ⟨bb0, 0, none⟩) 1 1) rfl (by kernel_rfl) (by kernel_rfl) (by kernel_rfl) (fun y h => h) (quiet_of_walk rfl rfl (by simp) (fun y hy K1 hK1 => ?_)) ?_
      · have g0 : Below y52.heap.size y52 y := hy.1
        have HI0 := Lib.hid (show Ints y (some ⟨bb0, 0, none⟩) 1 (ltI [0]) from ints_lit [0] hy.2)
        simp only [List.getElem_toArray, List.getElem_cons_zero, List.getElem_cons_succ]
        go_big_quiet_step ((with_reducible refine calls_later_same (of_c _ _ _ _)))
        exact wpQuiet_nil hK1
      simp only [Act.put, List.getElem_toArray, List.getElem_cons_zero, List.getElem_cons_succ, List.setIfInBounds_toArray, List.set_cons_zero, List.set_cons_succ]
      refine run_only (i := 3) (by kernel_rfl) (at_make (w0 := y52) (t := 148) (z := .cells #[.int .i64 0] 3 (0, 0)) (fun q => .slice (some ⟨q, 0, none⟩) 1 1) (fun _ => False) slice_inj rfl rfl rfl (fun y _ => by go_simp) (fun y h => h.1.size) (fun _ _ _ h => h.elim) ?_)
      intro bb1 hbb1 _
      simp only [Act.put, List.setIfInBounds_toArray, List.set_cons_zero, List.set_cons_succ]
      refine run_strong (C' := fun x => ((Below y52.heap.size y52 x) ∧ x.heap[bb0]? = some (.cells #[.int .i64 0] 3 (0, 0))) ∧ x.heap[bb1]? = some (.cells #[.int .i64 0] 3 (0, 0))) (fun x h => h.1) _ _ _ _ ?_
      refine run_takeQ (i := 4) (.slice (some ⟨bb1, 0, none⟩) 1 1) rfl (by kernel_rfl) (by kernel_rfl) (by kernel_rfl) (fun y h => h) (quiet_of_walk rfl rfl (by simp) (fun y hy K1 hK1 => ?_)) ?_
      · have g0 : Below y52.heap.size y52 y := hy.1.1
        have HI0 := Lib.hid (show Ints y (some ⟨bb0, 0, none⟩) 1 (ltI [0]) from ints_lit [0] hy.1.2)
        have HI1 := Lib.hid (show Ints y (some ⟨bb1, 0, none⟩) 1 (ltI [0]) from ints_lit [0] hy.2)
        simp only [List.getElem_toArray, List.getElem_cons_zero, List.getElem_cons_succ]
        go_big_quiet_step ((with_reducible refine calls_later_same (of_c _ _ _ _)))
        exact wpQuiet_nil hK1
      simp only [Act.put, List.getElem_toArray, List.getElem_cons_zero, List.getElem_cons_succ, List.setIfInBounds_toArray, List.set_cons_zero, List.set_cons_succ]
      refine run_takeQ (i := 5) (.tuple #[.int .i64 0, .int .i64 14]) rfl (by kernel_rfl) (by kernel_rfl) (by kernel_rfl) (fun y h => h) (quiet_of_walk rfl rfl (by simp) (fun y hy K1 hK1 => ?_)) ?_
      · have g0 : Below y52.heap.size y52 y := hy.1.1
        have HI0 := Lib.hid (show Ints y (some ⟨bb0, 0, none⟩) 1 (ltI [0]) from ints_lit [0] hy.1.2)
        have HI1 := Lib.hid (show Ints y (some ⟨bb1, 0, none⟩) 1 (ltI [0]) from ints_lit [0] hy.2)
        simp only [List.getElem_toArray, List.getElem_cons_zero, List.getElem_cons_succ]
        go_big_quiet_step ((with_reducible refine calls_later (K55.out bb0 bb1 _ (g0.trans ((Later.h _).mono g0.size)) (ints_below HI0.out (Later.h _)) (ints_below HI1.out (Later.h _)))))
        exact wpQuiet_nil hK1
      simp only [Act.put, List.getElem_toArray, List.getElem_cons_zero, List.getElem_cons_succ, List.setIfInBounds_toArray, List.set_cons_zero, List.set_cons_succ]
      refine run_take (i := 6) (.tuple #[.int .i64 0, .int .i64 14]) rfl (by kernel_rfl) (by kernel_rfl) (by kernel_rfl) rfl (fun y h => h) (fun y _ => by go_simp) ?_
      simp only [Act.put, List.getElem_toArray, List.getElem_cons_zero, List.getElem_cons_succ, List.setIfInBounds_toArray, List.set_cons_zero, List.set_cons_succ]
      refine run_take (i := 7) (.int .i64 0) rfl (by kernel_rfl) (by kernel_rfl) (by kernel_rfl) rfl (fun y h => h) (fun y _ => by go_simp) ?_
      simp only [Act.put, List.getElem_toArray, List.getElem_cons_zero, List.getElem_cons_succ, List.setIfInBounds_toArray, List.set_cons_zero, List.set_cons_succ]
      refine run_take (i := 8) (.int .i64 14) rfl (by kernel_rfl) (by kernel_rfl) (by kernel_rfl) rfl (fun y h => h) (fun y _ => by go_simp) ?_
      simp only [Act.put, List.getElem_toArray, List.getElem_cons_zero, List.getElem_cons_succ, List.setIfInBounds_toArray, List.set_cons_zero, List.set_cons_succ]
      refine run_take (i := 9) (.int .i64 0) rfl (by kernel_rfl) (by kernel_rfl) (by kernel_rfl) rfl (fun y h => h) (fun y _ => by go_simp) ?_
      simp only [Act.put, List.getElem_toArray, List.getElem_cons_zero, List.getElem_cons_succ, List.setIfInBounds_toArray, List.set_cons_zero, List.set_cons_succ]
      refine run_take (i := 10) (.int .i64 14) rfl (by kernel_rfl) (by kernel_rfl) (by kernel_rfl) rfl (fun y h => h) (fun y _ => by go_simp) ?_
      simp only [Act.put, List.getElem_toArray, List.getElem_cons_zero, List.getElem_cons_succ, List.setIfInBounds_toArray, List.set_cons_zero, List.set_cons_succ]
      exact ⟨by kernel_rfl, fun y hy => fin bb0 bb1 y hy.1.1⟩
    · skip
      refine at_make (w0 := y52) (t := 148) (z := .cells #[.int .i64 0] 3 (0, 0)) (fun q => .slice (some ⟨q, 0, none⟩) 1 1) (fun _ => False) slice_inj rfl rfl rfl (fun y _ => by go_simp) (fun y h => h.size) (fun _ _ _ h => h.elim) ?_
      intro bb1 hbb1 _
      simp only [Act.put, List.setIfInBounds_toArray, List.set_cons_zero, List.set_cons_succ]
      refine run_only (i := 1) (by kernel_rfl) (at_make (w0 := y52) (t := 146) (z := .cells #[.int .i64 0] 3 (0, 0)) (fun q => .slice (some ⟨q, 0, none⟩) 1 1) (fun _ => False) slice_inj rfl rfl rfl (fun y _ => by go_simp) (fun y h => h.1.size) (fun _ _ _ h => h.elim) ?_)
      intro bb0 hbb0 _
      simp only [Act.put, List.setIfInBounds_toArray, List.set_cons_zero, List.set_cons_succ]
      refine run_strong (C' := fun x => ((Below y52.heap.size y52 x) ∧ x.heap[bb1]? = some (.cells #[.int .i64 0] 3 (0, 0))) ∧ x.heap[bb0]? = some (.cells #[.int .i64 0] 3 (0, 0))) (fun x h => h.1.1) _ _ _ _ ?_
      refine run_takeQ (i := 2) (.slice (some ⟨bb0, 0, none⟩) 1 1) rfl (by kernel_rfl) (by kernel_rfl) (by kernel_rfl) (fun y h => h) (quiet_of_walk rfl rfl (by simp) (fun y hy K1 hK1 => ?_)) ?_
      · have g0 : Below y52.heap.size y52 y := hy.1.1
        have HI1 := Lib.hid (show Ints y (some ⟨bb1, 0, none⟩) 1 (ltI [0]) from ints_lit [0] hy.1.2)
        have HI0 := Lib.hid (show Ints y (some ⟨bb0, 0, none⟩) 1 (ltI [0]) from ints_lit [0] hy.2)
        simp only [List.getElem_toArray, List.getElem_cons_zero, List.getElem_cons_succ]
        go_big_quiet_step ((with_reducible refine calls_later_same (of_c _ _ _ _)))
        exact wpQuiet_nil hK1
      simp only [Act.put, List.getElem_toArray, List.getElem_cons_zero, List.getElem_cons_succ, List.setIfInBounds_toArray, List.set_cons_zero, List.set_cons_succ]
      refine run_takeQ (i := 4) (.slice (some ⟨bb1, 0, none⟩) 1 1) rfl (by kernel_rfl) (by kernel_rfl) (by kernel_rfl) (fun y h => h) (quiet_of_walk rfl rfl (by simp) (fun y hy K1 hK1 => ?_)) ?_
      · have g0 : Below y52.heap.size y52 y := hy.1.1
        have HI1 := Lib.hid (show Ints y (some ⟨bb1, 0, none⟩) 1 (ltI [0]) from ints_lit [0] hy.1.2)
        have HI0 := Lib.hid (show Ints y (some ⟨bb0, 0, none⟩) 1 (ltI [0]) from ints_lit [0] hy.2)
        simp only [List.getElem_toArray, List.getElem_cons_zero, List.getElem_cons_succ]
        go_big_quiet_step ((with_reducible refine calls_later_same (of_c _ _ _ _)))
        exact wpQuiet_nil hK1
      simp only [Act.put, List.getElem_toArray, List.getElem_cons_zero, List.getElem_cons_succ, List.setIfInBounds_toArray, List.set_cons_zero, List.set_cons_succ]
      refine run_takeQ (i := 5) (.tuple #[.int .i64 0, .int .i64 14]) rfl (by kernel_rfl) (by kernel_rfl) (by kernel_rfl) (fun y h => h) (quiet_of_walk rfl rfl (by simp) (fun y hy K1 hK1 => ?_)) ?_
      · have g0 : Below y52.heap.size y52 y := hy.1.1
        have HI1 := Lib.hid (show Ints y (some ⟨bb1, 0, none⟩) 1 (ltI [0]) from ints_lit [0] hy.1.2)
        have HI0 := Lib.hid (show Ints y (some ⟨bb0, 0, none⟩) 1 (ltI [0]) from ints_lit [0] hy.2)
        simp only [List.getElem_toArray, List.getElem_cons_zero, List.getElem_cons_succ]
        go_big_quiet_step ((with_reducible refine calls_later (K55.out bb0 bb1 _ (g0.trans ((Later.h _).mono g0.size)) (ints_below HI0.out (Later.h _)) (ints_below HI1.out (Later.h _)))))
        exact wpQuiet_nil hK1
      simp only [Act.put, List.getElem_toArray, List.getElem_cons_zero, List.getElem_cons_succ, List.setIfInBounds_toArray, List.set_cons_zero, List.set_cons_succ]
      refine run_take (i := 6) (.tuple #[.int .i64 0, .int .i64 14]) rfl (by kernel_rfl) (by kernel_rfl) (by kernel_rfl) rfl (fun y h => h) (fun y _ => by go_simp) ?_
      simp only [Act.put, List.getElem_toArray, List.getElem_cons_zero, List.getElem_cons_succ, List.setIfInBounds_toArray, List.set_cons_zero, List.set_cons_succ]
      refine run_take (i := 7) (.int .i64 0) rfl (by kernel_rfl) (by kernel_rfl) (by kernel_rfl) rfl (fun y h => h) (fun y _ => by go_simp) ?_
      simp only [Act.put, List.getElem_toArray, List.getElem_cons_zero, List.getElem_cons_succ, List.setIfInBounds_toArray, List.set_cons_zero, List.set_cons_succ]
      refine run_take (i := 8) (.int .i64 14) rfl (by kernel_rfl) (by kernel_rfl) (by kernel_rfl) rfl (fun y h => h) (fun y _ => by go_simp) ?_
      simp only [Act.put, List.getElem_toArray, List.getElem_cons_zero, List.getElem_cons_succ, List.setIfInBounds_toArray, List.set_cons_zero, List.set_cons_succ]
      refine run_take (i := 9) (.int .i64 0) rfl (by kernel_rfl) (by kernel_rfl) (by kernel_rfl) rfl (fun y h => h) (fun y _ => by go_simp) ?_
      simp only [Act.put, List.getElem_toArray, List.getElem_cons_zero, List.getElem_cons_succ, List.setIfInBounds_toArray, List.set_cons_zero, List.set_cons_succ]
      refine run_take (i := 10) (.int .i64 14) rfl (by kernel_rfl) (by kernel_rfl) (by kernel_rfl) rfl (fun y h => h) (fun y _ => by go_simp) ?_
      simp only [Act.put, List.getElem_toArray, List.getElem_cons_zero, List.getElem_cons_succ, List.setIfInBounds_toArray, List.set_cons_zero, List.set_cons_succ]
      exact ⟨by kernel_rfl, fun y hy => fin bb0 bb1 y hy.1.1⟩
  intro b58 b59 y56 hy57
  clear K55
  replace H3 := Lib.hid (H3.out.below hy57)
  replace H2 := Lib.hid (H2.out.below hy57)
  replace B1 := Lib.hid (RowIs.below B1.out hy57)
  replace B2 := Lib.hid (RowIs.below B2.out hy57)
  replace HD := Lib.hid (ints_below HD.out hy57)
  replace HX := Lib.hid (ints_below HX.out hy57)
  replace HY := Lib.hid (ints_below HY.out hy57)
  replace HL := Lib.hid (ints_below HL.out hy57)
  replace HM := Lib.hid (ints_below HM.out hy57)
  replace HP := Lib.hid (ints_below HP.out hy57)
  replace HS := Lib.hid (ints_below HS.out hy57)
  replace HO := Lib.hid (ints_below HO.out hy57)
  replace hB := bup hB hy57
  have C60 := Lib.hid (t_Cover p3 k3 y56 H3.out)
  obtain ⟨r0, r1, r2, rz⟩ := bookcells B1.out
  go_wp2_with fail
  clear hy57 r0 r1 r2 rz
  refine C60.out.mono ?_
  rintro e w61 ⟨x8, k8, x9, k9, rfl, hx8, hx9, hw62⟩
  clear C60
  replace H3 := Lib.hid (H3.out.below hw62)
  replace H2 := Lib.hid (H2.out.below hw62)
  replace B1 := Lib.hid (RowIs.below B1.out hw62)
  replace B2 := Lib.hid (RowIs.below B2.out hw62)
  replace HD := Lib.hid (ints_below HD.out hw62)
  replace HX := Lib.hid (ints_below HX.out hw62)
  replace HY := Lib.hid (ints_below HY.out hw62)
  replace HL := Lib.hid (ints_below HL.out hw62)
  replace HM := Lib.hid (ints_below HM.out hw62)
  replace HP := Lib.hid (ints_below HP.out hw62)
  replace HS := Lib.hid (ints_below HS.out hw62)
  replace HO := Lib.hid (ints_below HO.out hw62)
  replace hB := bup hB hw62
  have HI := Lib.hid hx8
  clear hx8
  have HJ := Lib.hid hx9
  clear hx9
  have K63 := Lib.hid (fun (q : Nat) (V : World) (hV : Below w61.heap.size w61 V) (hI : Ints V (some ⟨q, 0, none⟩) 2 (ltI [0, 1])) => t_CheckShort1 p2 k2 V (some ⟨q, 0, none⟩) (H2.out.below hV) hI)
  go_wp2_with fail
  clear hw62
  apply cut1 (w0 := w61)
  case main =>
    intro fin
    refine wp_region_runF (C := fun x => Below w61.heap.size w61 x) (fun x => Below w61.heap.size w61 x) (by kernel_rfl) (stable_below w61) (Below.refl _ _) ?_
    change Run _ _ _ _ _ 9 _ _ _
    refine run_take (i := 0) (.agg #[.int .i64 3, .int .i64 2, .slice p2 4 k2]) rfl (by kernel_rfl) (by kernel_rfl) (by kernel_rfl) rfl (fun y h => h) (fun y hy => by obtain ⟨r0, r1, r2, rz⟩ := bookcells (RowIs.below B2.out hy); go_simp) ?_
    simp only [Act.put, List.getElem_toArray, List.getElem_cons_zero, List.setIfInBounds_toArray, List.set_cons_zero, List.set_cons_succ]
    refine run_only (i := 1) (by kernel_rfl) (at_make (w0 := w61) (t := 161) (z := .cells #[.int .i64 0, .int .i64 1] 3 (0, 0)) (fun q => .slice (some ⟨q, 0, none⟩) 2 2) (fun _ => False) slice_inj rfl rfl rfl (fun y _ => by go_simp) (fun y h => h.size) (fun _ _ _ h => h.elim) ?_)
    intro bb0 hbb0 _
    simp only [Act.put, List.setIfInBounds_toArray, List.set_cons_zero, List.set_cons_succ]
    refine run_strong (C' := fun x => (Below w61.heap.size w61 x) ∧ x.heap[bb0]? = some (.cells #[.int .i64 0, .int .i64 1] 3 (0, 0))) (fun x h => h.1) _ _ _ _ ?_
    refine run_takeQ (i := 2) (.slice (some ⟨bb0, 0, none⟩) 2 2) rfl (by kernel_rfl) (by kernel_rfl) (by kernel_rfl) (fun y h => h) (quiet_of_walk rfl rfl (by simp) (fun y hy K1 hK1 => ?_)) ?_
    · have g0 : Below w61.heap.size w61 y := hy.1
      have HI0 := Lib.hid (show Ints y (some ⟨bb0, 0, none⟩) 2 (ltI [0, 1]) from ints_lit [0, 1] hy.2)
      simp only [List.getElem_toArray, List.getElem_cons_zero, List.getElem_cons_succ]
      go_big_quiet_step ((with_reducible refine calls_later_same (of_c _ _ _ _)))
      exact wpQuiet_nil hK1
    simp only [Act.put, List.getElem_toArray, List.getElem_cons_zero, List.getElem_cons_succ, List.setIfInBounds_toArray, List.set_cons_zero, List.set_cons_succ]
    refine run_takeQ (i := 3) (.tuple #[.int .i64 1, .int .i64 0]) rfl (by kernel_rfl) (by kernel_rfl) (by kernel_rfl) (fun y h => h) (quiet_of_walk rfl rfl (by simp) (fun y hy K1 hK1 => ?_)) ?_
    · have g0 : Below w61.heap.size w61 y := hy.1
      have HI0 := Lib.hid (show Ints y (some ⟨bb0, 0, none⟩) 2 (ltI [0, 1]) from ints_lit [0, 1] hy.2)
      simp only [List.getElem_toArray, List.getElem_cons_zero, List.getElem_cons_succ]
      go_big_quiet_step ((with_reducible refine calls_later (K63.out bb0 _ (g0.trans ((Later.h _).mono g0.size)) (ints_below HI0.out (Later.h _)))))
      exact wpQuiet_nil hK1
    simp only [Act.put, List.getElem_toArray, List.getElem_cons_zero, List.getElem_cons_succ, List.setIfInBounds_toArray, List.set_cons_zero, List.set_cons_succ]
    refine run_take (i := 4) (.tuple #[.int .i64 1, .int .i64 0]) rfl (by kernel_rfl) (by kernel_rfl) (by kernel_rfl) rfl (fun y h => h) (fun y _ => by go_simp) ?_
    simp only [Act.put, List.getElem_toArray, List.getElem_cons_zero, List.getElem_cons_succ, List.setIfInBounds_toArray, List.set_cons_zero, List.set_cons_succ]
    refine run_take (i := 5) (.int .i64 1) rfl (by kernel_rfl) (by kernel_rfl) (by kernel_rfl) rfl (fun y h => h) (fun y _ => by go_simp) ?_
    simp only [Act.put, List.getElem_toArray, List.getElem_cons_zero, List.getElem_cons_succ, List.setIfInBounds_toArray, List.set_cons_zero, List.set_cons_succ]
    refine run_take (i := 6) (.int .i64 0) rfl (by kernel_rfl) (by kernel_rfl) (by kernel_rfl) rfl (fun y h => h) (fun y _ => by go_simp) ?_
    simp only [Act.put, List.getElem_toArray, List.getElem_cons_zero, List.getElem_cons_succ, List.setIfInBounds_toArray, List.set_cons_zero, List.set_cons_succ]
    refine run_take (i := 7) (.int .i64 1) rfl (by kernel_rfl) (by kernel_rfl) (by kernel_rfl) rfl (fun y h => h) (fun y _ => by go_simp) ?_
    simp only [Act.put, List.getElem_toArray, List.getElem_cons_zero, List.getElem_cons_succ, List.setIfInBounds_toArray, List.set_cons_zero, List.set_cons_succ]
    refine run_take (i := 8) (.int .i64 0) rfl (by kernel_rfl) (by kernel_rfl) (by kernel_rfl) rfl (fun y h => h) (fun y _ => by go_simp) ?_
    simp only [Act.put, List.getElem_toArray, List.getElem_cons_zero, List.getElem_cons_succ, List.setIfInBounds_toArray, List.set_cons_zero, List.set_cons_succ]
    exact ⟨by kernel_rfl, fun y hy => fin bb0 y hy.1⟩
  intro b66 y64 hy65
  clear K63
  replace H3 := Lib.hid (H3.out.below hy65)
  replace H2 := Lib.hid (H2.out.below hy65)
  replace B1 := Lib.hid (RowIs.below B1.out hy65)
  replace B2 := Lib.hid (RowIs.below B2.out hy65)
  replace HD := Lib.hid (ints_below HD.out hy65)
  replace HX := Lib.hid (ints_below HX.out hy65)
  replace HY := Lib.hid (ints_below HY.out hy65)
  replace HL := Lib.hid (ints_below HL.out hy65)
  replace HM := Lib.hid (ints_below HM.out hy65)
  replace HP := Lib.hid (ints_below HP.out hy65)
  replace HS := Lib.hid (ints_below HS.out hy65)
  replace HO := Lib.hid (ints_below HO.out hy65)
  replace HI := Lib.hid (ints_below HI.out hy65)
  replace HJ := Lib.hid (ints_below HJ.out hy65)
  replace hB := bup hB hy65
  have C67 := Lib.hid (t_CheckShort2 p3 k3 y64 H3.out)
  obtain ⟨r0, r1, r2, rz⟩ := bookcells B1.out
  go_wp2_with fail
  clear hy65 r0 r1 r2 rz
  refine C67.out.mono ?_
  rintro e w68 ⟨rfl, hw69⟩
  clear C67
  replace H3 := Lib.hid (H3.out.below hw69)
  replace H2 := Lib.hid (H2.out.below hw69)
  replace B1 := Lib.hid (RowIs.below B1.out hw69)
  replace B2 := Lib.hid (RowIs.below B2.out hw69)
  replace HD := Lib.hid (ints_below HD.out hw69)
  replace HX := Lib.hid (ints_below HX.out hw69)
  replace HY := Lib.hid (ints_below HY.out hw69)
  replace HL := Lib.hid (ints_below HL.out hw69)
  replace HM := Lib.hid (ints_below HM.out hw69)
  replace HP := Lib.hid (ints_below HP.out hw69)
  replace HS := Lib.hid (ints_below HS.out hw69)
  replace HO := Lib.hid (ints_below HO.out hw69)
  replace HI := Lib.hid (ints_below HI.out hw69)
  replace HJ := Lib.hid (ints_below HJ.out hw69)
  replace hB := bup hB hw69
  have C70 := Lib.hid (t_Short p3 k3 w68 H3.out)
  obtain ⟨r0, r1, r2, rz⟩ := bookcells B1.out
  go_wp2_with fail
  clear hw69 r0 r1 r2 rz
  refine C70.out.mono ?_
  rintro e w71 ⟨x10, k10, rfl, hx10, hw72⟩
  clear C70
  replace H3 := Lib.hid (H3.out.below hw72)
  replace H2 := Lib.hid (H2.out.below hw72)
  replace B1 := Lib.hid (RowIs.below B1.out hw72)
  replace B2 := Lib.hid (RowIs.below B2.out hw72)
  replace HD := Lib.hid (ints_below HD.out hw72)
  replace HX := Lib.hid (ints_below HX.out hw72)
  replace HY := Lib.hid (ints_below HY.out hw72)
  replace HL := Lib.hid (ints_below HL.out hw72)
  replace HM := Lib.hid (ints_below HM.out hw72)
  replace HP := Lib.hid (ints_below HP.out hw72)
  replace HS := Lib.hid (ints_below HS.out hw72)
  replace HO := Lib.hid (ints_below HO.out hw72)
  replace HI := Lib.hid (ints_below HI.out hw72)
  replace HJ := Lib.hid (ints_below HJ.out hw72)
  replace hB := bup hB hw72
  have HU := Lib.hid hx10
  clear hx10
  obtain ⟨X73, hX73⟩ : ∃ X73, w71.alloc (.cells #[.int .i64 2, .int .i64 2, .int .i64 1] 3) = X73 := ⟨_, rfl⟩
  have hx74 : Below w71.heap.size w71 X73 := by rw [← hX73]; exact Below.alloc1 (Below.refl _ _) _ (Nat.le_refl _)
  have HZ := Lib.hid (show Ints X73 (some ⟨w71.heap.size, 0, none⟩) 3 (ltI [2, 2, 1]) by rw [← hX73]; exact ints_new w71 _ (0, 0) [2, 2, 1])
  replace H3 := Lib.hid (H3.out.below hx74)
  replace H2 := Lib.hid (H2.out.below hx74)
  replace B1 := Lib.hid (RowIs.below B1.out hx74)
  replace B2 := Lib.hid (RowIs.below B2.out hx74)
  replace HD := Lib.hid (ints_below HD.out hx74)
  replace HX := Lib.hid (ints_below HX.out hx74)
  replace HY := Lib.hid (ints_below HY.out hx74)
  replace HL := Lib.hid (ints_below HL.out hx74)
  replace HM := Lib.hid (ints_below HM.out hx74)
  replace HP := Lib.hid (ints_below HP.out hx74)
  replace HS := Lib.hid (ints_below HS.out hx74)
  replace HO := Lib.hid (ints_below HO.out hx74)
  replace HI := Lib.hid (ints_below HI.out hx74)
  replace HJ := Lib.hid (ints_below HJ.out hx74)
  replace HU := Lib.hid (ints_below HU.out hx74)
  replace hB := bup hB hx74
  have cC75 := Ints_c (some ⟨x1, 0, none⟩) 3 3 (ltI [2, 2, 1]) (some ⟨w71.heap.size, 0, none⟩) 3 3 (ltI [2, 2, 1]) X73 HX.out HZ.out (by omega)
  rw [show intsB 3 (ltI [2, 2, 1]) 3 (ltI [2, 2, 1]) = true from intsB_yes fun _ _ => rfl] at cC75
  have C75 := Lib.hid cC75
  clear cC75 HZ
  go_wp2_with (go_at_call 18; refine (of_c _ _ _ _).mono ?_; rintro e w' ⟨rfl, rfl⟩)
  clear hw72 hX73 hx74
  refine C75.out.mono ?_
  rintro e w76 ⟨rfl, hw77⟩
  clear C75
  replace H3 := Lib.hid (H3.out.below hw77)
  replace H2 := Lib.hid (H2.out.below hw77)
  replace B1 := Lib.hid (RowIs.below B1.out hw77)
  replace B2 := Lib.hid (RowIs.below B2.out hw77)
  replace HD := Lib.hid (ints_below HD.out hw77)
  replace HX := Lib.hid (ints_below HX.out hw77)
  replace HY := Lib.hid (ints_below HY.out hw77)
  replace HL := Lib.hid (ints_below HL.out hw77)
  replace HM := Lib.hid (ints_below HM.out hw77)
  replace HP := Lib.hid (ints_below HP.out hw77)
  replace HS := Lib.hid (ints_below HS.out hw77)
  replace HO := Lib.hid (ints_below HO.out hw77)
  replace HI := Lib.hid (ints_below HI.out hw77)
  replace HJ := Lib.hid (ints_below HJ.out hw77)
  replace HU := Lib.hid (ints_below HU.out hw77)
  replace hB := bup hB hw77
  obtain ⟨X78, hX78⟩ : ∃ X78, w76.alloc (.cells #[.int .i64 2, .int .i64 3, .int .i64 0] 3) = X78 := ⟨_, rfl⟩
  have hx79 : Below w76.heap.size w76 X78 := by rw [← hX78]; exact Below.alloc1 (Below.refl _ _) _ (Nat.le_refl _)
  have HZ := Lib.hid (show Ints X78 (some ⟨w76.heap.size, 0, none⟩) 3 (ltI [2, 3, 0]) by rw [← hX78]; exact ints_new w76 _ (0, 0) [2, 3, 0])
  replace H3 := Lib.hid (H3.out.below hx79)
  replace H2 := Lib.hid (H2.out.below hx79)
  replace B1 := Lib.hid (RowIs.below B1.out hx79)
  replace B2 := Lib.hid (RowIs.below B2.out hx79)
  replace HD := Lib.hid (ints_below HD.out hx79)
  replace HX := Lib.hid (ints_below HX.out hx79)
  replace HY := Lib.hid (ints_below HY.out hx79)
  replace HL := Lib.hid (ints_below HL.out hx79)
  replace HM := Lib.hid (ints_below HM.out hx79)
  replace HP := Lib.hid (ints_below HP.out hx79)
  replace HS := Lib.hid (ints_below HS.out hx79)
  replace HO := Lib.hid (ints_below HO.out hx79)
  replace HI := Lib.hid (ints_below HI.out hx79)
  replace HJ := Lib.hid (ints_below HJ.out hx79)
  replace HU := Lib.hid (ints_below HU.out hx79)
  replace hB := bup hB hx79
  have cC80 := Ints_c (some ⟨x2, 0, none⟩) 3 3 (ltI [2, 3, 0]) (some ⟨w76.heap.size, 0, none⟩) 3 3 (ltI [2, 3, 0]) X78 HY.out HZ.out (by omega)
  rw [show intsB 3 (ltI [2, 3, 0]) 3 (ltI [2, 3, 0]) = true from intsB_yes fun _ _ => rfl] at cC80
  have C80 := Lib.hid cC80
  clear cC80 HZ
  go_wp2_with (go_at_call 18; refine (of_c _ _ _ _).mono ?_; rintro e w' ⟨rfl, rfl⟩)
  clear hw77 hX78 hx79
  refine C80.out.mono ?_
  rintro e w81 ⟨rfl, hw82⟩
  clear C80
  replace H3 := Lib.hid (H3.out.below hw82)
  replace H2 := Lib.hid (H2.out.below hw82)
  replace B1 := Lib.hid (RowIs.below B1.out hw82)
  replace B2 := Lib.hid (RowIs.below B2.out hw82)
  replace HD := Lib.hid (ints_below HD.out hw82)
  replace HX := Lib.hid (ints_below HX.out hw82)
  replace HY := Lib.hid (ints_below HY.out hw82)
  replace HL := Lib.hid (ints_below HL.out hw82)
  replace HM := Lib.hid (ints_below HM.out hw82)
  replace HP := Lib.hid (ints_below HP.out hw82)
  replace HS := Lib.hid (ints_below HS.out hw82)
  replace HO := Lib.hid (ints_below HO.out hw82)
  replace HI := Lib.hid (ints_below HI.out hw82)
  replace HJ := Lib.hid (ints_below HJ.out hw82)
  replace HU := Lib.hid (ints_below HU.out hw82)
  replace hB := bup hB hw82
  have cC83 := Ints_c (some ⟨x3, 0, none⟩) 5 5 (ltI [0, 1, 1, 0, 2]) (some ⟨pd, 0, none⟩) 5 5 (ltI [0, 1, 1, 0, 2]) w81 HL.out HD.out (by omega)
  rw [show intsB 5 (ltI [0, 1, 1, 0, 2]) 5 (ltI [0, 1, 1, 0, 2]) = true from intsB_yes fun _ _ => rfl] at cC83
  have C83 := Lib.hid cC83
  clear cC83
  go_wp2_with fail
  clear hw82
  refine C83.out.mono ?_
  rintro e w84 ⟨rfl, hw85⟩
  clear C83
  replace H3 := Lib.hid (H3.out.below hw85)
  replace H2 := Lib.hid (H2.out.below hw85)
  replace B1 := Lib.hid (RowIs.below B1.out hw85)
  replace B2 := Lib.hid (RowIs.below B2.out hw85)
  replace HD := Lib.hid (ints_below HD.out hw85)
  replace HX := Lib.hid (ints_below HX.out hw85)
  replace HY := Lib.hid (ints_below HY.out hw85)
  replace HL := Lib.hid (ints_below HL.out hw85)
  replace HM := Lib.hid (ints_below HM.out hw85)
  replace HP := Lib.hid (ints_below HP.out hw85)
  replace HS := Lib.hid (ints_below HS.out hw85)
  replace HO := Lib.hid (ints_below HO.out hw85)
  replace HI := Lib.hid (ints_below HI.out hw85)
  replace HJ := Lib.hid (ints_below HJ.out hw85)
  replace HU := Lib.hid (ints_below HU.out hw85)
  replace hB := bup hB hw85
  obtain ⟨X86, hX86⟩ : ∃ X86, w84.alloc (.cells #[.int .i64 0, .int .i64 1, .int .i64 0, .int .i64 1] 3) = X86 := ⟨_, rfl⟩
  have hx87 : Below w84.heap.size w84 X86 := by rw [← hX86]; exact Below.alloc1 (Below.refl _ _) _ (Nat.le_refl _)
  have HZ := Lib.hid (show Ints X86 (some ⟨w84.heap.size, 0, none⟩) 4 (ltI [0, 1, 0, 1]) by rw [← hX86]; exact ints_new w84 _ (0, 0) [0, 1, 0, 1])
  replace H3 := Lib.hid (H3.out.below hx87)
  replace H2 := Lib.hid (H2.out.below hx87)
  replace B1 := Lib.hid (RowIs.below B1.out hx87)
  replace B2 := Lib.hid (RowIs.below B2.out hx87)
  replace HD := Lib.hid (ints_below HD.out hx87)
  replace HX := Lib.hid (ints_below HX.out hx87)
  replace HY := Lib.hid (ints_below HY.out hx87)
  replace HL := Lib.hid (ints_below HL.out hx87)
  replace HM := Lib.hid (ints_below HM.out hx87)
  replace HP := Lib.hid (ints_below HP.out hx87)
  replace HS := Lib.hid (ints_below HS.out hx87)
  replace HO := Lib.hid (ints_below HO.out hx87)
  replace HI := Lib.hid (ints_below HI.out hx87)
  replace HJ := Lib.hid (ints_below HJ.out hx87)
  replace HU := Lib.hid (ints_below HU.out hx87)
  replace hB := bup hB hx87
  have cC88 := Ints_c (some ⟨x4, 0, none⟩) 4 4 (ltI [0, 1, 0, 1]) (some ⟨w84.heap.size, 0, none⟩) 4 4 (ltI [0, 1, 0, 1]) X86 HM.out HZ.out (by omega)
  rw [show intsB 4 (ltI [0, 1, 0, 1]) 4 (ltI [0, 1, 0, 1]) = true from intsB_yes fun _ _ => rfl] at cC88
  have C88 := Lib.hid cC88
  clear cC88 HZ
  go_wp2_with (go_at_call 18; refine (of_c _ _ _ _).mono ?_; rintro e w' ⟨rfl, rfl⟩)
  clear hw85 hX86 hx87
  refine C88.out.mono ?_
  rintro e w89 ⟨rfl, hw90⟩
  clear C88
  replace H3 := Lib.hid (H3.out.below hw90)
  replace H2 := Lib.hid (H2.out.below hw90)
  replace B1 := Lib.hid (RowIs.below B1.out hw90)
  replace B2 := Lib.hid (RowIs.below B2.out hw90)
  replace HD := Lib.hid (ints_below HD.out hw90)
  replace HX := Lib.hid (ints_below HX.out hw90)
  replace HY := Lib.hid (ints_below HY.out hw90)
  replace HL := Lib.hid (ints_below HL.out hw90)
  replace HM := Lib.hid (ints_below HM.out hw90)
  replace HP := Lib.hid (ints_below HP.out hw90)
  replace HS := Lib.hid (ints_below HS.out hw90)
  replace HO := Lib.hid (ints_below HO.out hw90)
  replace HI := Lib.hid (ints_below HI.out hw90)
  replace HJ := Lib.hid (ints_below HJ.out hw90)
  replace HU := Lib.hid (ints_below HU.out hw90)
  replace hB := bup hB hw90
  obtain ⟨X91, hX91⟩ : ∃ X91, w89.alloc (.cells #[.int .i64 1, .int .i64 4] 3) = X91 := ⟨_, rfl⟩
  have hx92 : Below w89.heap.size w89 X91 := by rw [← hX91]; exact Below.alloc1 (Below.refl _ _) _ (Nat.le_refl _)
  have HZ := Lib.hid (show Ints X91 (some ⟨w89.heap.size, 0, none⟩) 2 (ltI [1, 4]) by rw [← hX91]; exact ints_new w89 _ (0, 0) [1, 4])
  replace H3 := Lib.hid (H3.out.below hx92)
  replace H2 := Lib.hid (H2.out.below hx92)
  replace B1 := Lib.hid (RowIs.below B1.out hx92)
  replace B2 := Lib.hid (RowIs.below B2.out hx92)
  replace HD := Lib.hid (ints_below HD.out hx92)
  replace HX := Lib.hid (ints_below HX.out hx92)
  replace HY := Lib.hid (ints_below HY.out hx92)
  replace HL := Lib.hid (ints_below HL.out hx92)
  replace HM := Lib.hid (ints_below HM.out hx92)
  replace HP := Lib.hid (ints_below HP.out hx92)
  replace HS := Lib.hid (ints_below HS.out hx92)
  replace HO := Lib.hid (ints_below HO.out hx92)
  replace HI := Lib.hid (ints_below HI.out hx92)
  replace HJ := Lib.hid (ints_below HJ.out hx92)
  replace HU := Lib.hid (ints_below HU.out hx92)
  replace hB := bup hB hx92
  have cC93 := Ints_c x5 2 k5 (ltI [1, 4]) (some ⟨w89.heap.size, 0, none⟩) 2 2 (ltI [1, 4]) X91 HP.out HZ.out (by omega)
  rw [show intsB 2 (ltI [1, 4]) 2 (ltI [1, 4]) = true from intsB_yes fun _ _ => rfl] at cC93
  have C93 := Lib.hid cC93
  clear cC93 HZ
  go_wp2_with (go_at_call 18; refine (of_c _ _ _ _).mono ?_; rintro e w' ⟨rfl, rfl⟩)
  clear hw90 hX91 hx92
  refine C93.out.mono ?_
  rintro e w94 ⟨rfl, hw95⟩
  clear C93
  replace H3 := Lib.hid (H3.out.below hw95)
  replace H2 := Lib.hid (H2.out.below hw95)
  replace B1 := Lib.hid (RowIs.below B1.out hw95)
  replace B2 := Lib.hid (RowIs.below B2.out hw95)
  replace HD := Lib.hid (ints_below HD.out hw95)
  replace HX := Lib.hid (ints_below HX.out hw95)
  replace HY := Lib.hid (ints_below HY.out hw95)
  replace HL := Lib.hid (ints_below HL.out hw95)
  replace HM := Lib.hid (ints_below HM.out hw95)
  replace HP := Lib.hid (ints_below HP.out hw95)
  replace HS := Lib.hid (ints_below HS.out hw95)
  replace HO := Lib.hid (ints_below HO.out hw95)
  replace HI := Lib.hid (ints_below HI.out hw95)
  replace HJ := Lib.hid (ints_below HJ.out hw95)
  replace HU := Lib.hid (ints_below HU.out hw95)
  replace hB := bup hB hw95
  obtain ⟨X96, hX96⟩ : ∃ X96, w94.alloc (.cells #[.int .i64 0, .int .i64 2, .int .i64 1, .int .i64 0, .int .i64 1] 3) = X96 := ⟨_, rfl⟩
  have hx97 : Below w94.heap.size w94 X96 := by rw [← hX96]; exact Below.alloc1 (Below.refl _ _) _ (Nat.le_refl _)
  have HZ := Lib.hid (show Ints X96 (some ⟨w94.heap.size, 0, none⟩) 5 (ltI [0, 2, 1, 0, 1]) by rw [← hX96]; exact ints_new w94 _ (0, 0) [0, 2, 1, 0, 1])
  replace H3 := Lib.hid (H3.out.below hx97)
  replace H2 := Lib.hid (H2.out.below hx97)
  replace B1 := Lib.hid (RowIs.below B1.out hx97)
  replace B2 := Lib.hid (RowIs.below B2.out hx97)
  replace HD := Lib.hid (ints_below HD.out hx97)
  replace HX := Lib.hid (ints_below HX.out hx97)
  replace HY := Lib.hid (ints_below HY.out hx97)
  replace HL := Lib.hid (ints_below HL.out hx97)
  replace HM := Lib.hid (ints_below HM.out hx97)
  replace HP := Lib.hid (ints_below HP.out hx97)
  replace HS := Lib.hid (ints_below HS.out hx97)
  replace HO := Lib.hid (ints_below HO.out hx97)
  replace HI := Lib.hid (ints_below HI.out hx97)
  replace HJ := Lib.hid (ints_below HJ.out hx97)
  replace HU := Lib.hid (ints_below HU.out hx97)
  replace hB := bup hB hx97
  have cC98 := Ints_c (some ⟨x6, 0, none⟩) 5 5 (ltI [0, 2, 1, 0, 1]) (some ⟨w94.heap.size, 0, none⟩) 5 5 (ltI [0, 2, 1, 0, 1]) X96 HS.out HZ.out (by omega)
  rw [show intsB 5 (ltI [0, 2, 1, 0, 1]) 5 (ltI [0, 2, 1, 0, 1]) = true from intsB_yes fun _ _ => rfl] at cC98
  have C98 := Lib.hid cC98
  clear cC98 HZ
  go_wp2_with (go_at_call 18; refine (of_c _ _ _ _).mono ?_; rintro e w' ⟨rfl, rfl⟩)
  clear hw95 hX96 hx97
  refine C98.out.mono ?_
  rintro e w99 ⟨rfl, hw100⟩
  clear C98
  replace H3 := Lib.hid (H3.out.below hw100)
  replace H2 := Lib.hid (H2.out.below hw100)
  replace B1 := Lib.hid (RowIs.below B1.out hw100)
  replace B2 := Lib.hid (RowIs.below B2.out hw100)
  replace HD := Lib.hid (ints_below HD.out hw100)
  replace HX := Lib.hid (ints_below HX.out hw100)
  replace HY := Lib.hid (ints_below HY.out hw100)
  replace HL := Lib.hid (ints_below HL.out hw100)
  replace HM := Lib.hid (ints_below HM.out hw100)
  replace HP := Lib.hid (ints_below HP.out hw100)
  replace HS := Lib.hid (ints_below HS.out hw100)
  replace HO := Lib.hid (ints_below HO.out hw100)
  replace HI := Lib.hid (ints_below HI.out hw100)
  replace HJ := Lib.hid (ints_below HJ.out hw100)
  replace HU := Lib.hid (ints_below HU.out hw100)
  replace hB := bup hB hw100
  have C101 := Lib.hid (t_rCheckCover p3 k3 w99 x8 k8 x9 k9 H3.out HI.out HJ.out)
  obtain ⟨r0, r1, r2, rz⟩ := bookcells B1.out
  go_wp2_with fail
  clear hw100 r0 r1 r2 rz
  refine C101.out.mono ?_
  rintro e w102 ⟨rfl, hw103⟩
  clear C101
  replace H3 := Lib.hid (H3.out.below hw103)
  replace H2 := Lib.hid (H2.out.below hw103)
  replace B1 := Lib.hid (RowIs.below B1.out hw103)
  replace B2 := Lib.hid (RowIs.below B2.out hw103)
  replace HD := Lib.hid (ints_below HD.out hw103)
  replace HX := Lib.hid (ints_below HX.out hw103)
  replace HY := Lib.hid (ints_below HY.out hw103)
  replace HL := Lib.hid (ints_below HL.out hw103)
  replace HM := Lib.hid (ints_below HM.out hw103)
  replace HP := Lib.hid (ints_below HP.out hw103)
  replace HS := Lib.hid (ints_below HS.out hw103)
  replace HO := Lib.hid (ints_below HO.out hw103)
  replace HI := Lib.hid (ints_below HI.out hw103)
  replace HJ := Lib.hid (ints_below HJ.out hw103)
  replace HU := Lib.hid (ints_below HU.out hw103)
  replace hB := bup hB hw103
  obtain ⟨X104, hX104⟩ : ∃ X104, w102.alloc (.cells #[.int .i64 0, .int .i64 3] 3) = X104 := ⟨_, rfl⟩
  have hx105 : Below w102.heap.size w102 X104 := by rw [← hX104]; exact Below.alloc1 (Below.refl _ _) _ (Nat.le_refl _)
  have HZ := Lib.hid (show Ints X104 (some ⟨w102.heap.size, 0, none⟩) 2 (ltI [0, 3]) by rw [← hX104]; exact ints_new w102 _ (0, 0) [0, 3])
  replace H3 := Lib.hid (H3.out.below hx105)
  replace H2 := Lib.hid (H2.out.below hx105)
  replace B1 := Lib.hid (RowIs.below B1.out hx105)
  replace B2 := Lib.hid (RowIs.below B2.out hx105)
  replace HD := Lib.hid (ints_below HD.out hx105)
  replace HX := Lib.hid (ints_below HX.out hx105)
  replace HY := Lib.hid (ints_below HY.out hx105)
  replace HL := Lib.hid (ints_below HL.out hx105)
  replace HM := Lib.hid (ints_below HM.out hx105)
  replace HP := Lib.hid (ints_below HP.out hx105)
  replace HS := Lib.hid (ints_below HS.out hx105)
  replace HO := Lib.hid (ints_below HO.out hx105)
  replace HI := Lib.hid (ints_below HI.out hx105)
  replace HJ := Lib.hid (ints_below HJ.out hx105)
  replace HU := Lib.hid (ints_below HU.out hx105)
  replace hB := bup hB hx105
  have cC106 := Ints_c x7 2 k7 (ltI [0, 3]) (some ⟨w102.heap.size, 0, none⟩) 2 2 (ltI [0, 3]) X104 HO.out HZ.out (by omega)
  rw [show intsB 2 (ltI [0, 3]) 2 (ltI [0, 3]) = true from intsB_yes fun _ _ => rfl] at cC106
  have C106 := Lib.hid cC106
  clear cC106 HZ
  go_wp2_with (go_at_call 18; refine (of_c _ _ _ _).mono ?_; rintro e w' ⟨rfl, rfl⟩)
  clear hw103 hX104 hx105
  refine C106.out.mono ?_
  rintro e w107 ⟨rfl, hw108⟩
  clear C106
  replace H3 := Lib.hid (H3.out.below hw108)
  replace H2 := Lib.hid (H2.out.below hw108)
  replace B1 := Lib.hid (RowIs.below B1.out hw108)
  replace B2 := Lib.hid (RowIs.below B2.out hw108)
  replace HD := Lib.hid (ints_below HD.out hw108)
  replace HX := Lib.hid (ints_below HX.out hw108)
  replace HY := Lib.hid (ints_below HY.out hw108)
  replace HL := Lib.hid (ints_below HL.out hw108)
  replace HM := Lib.hid (ints_below HM.out hw108)
  replace HP := Lib.hid (ints_below HP.out hw108)
  replace HS := Lib.hid (ints_below HS.out hw108)
  replace HO := Lib.hid (ints_below HO.out hw108)
  replace HI := Lib.hid (ints_below HI.out hw108)
  replace HJ := Lib.hid (ints_below HJ.out hw108)
  replace HU := Lib.hid (ints_below HU.out hw108)
  replace hB := bup hB hw108
  obtain ⟨X109, hX109⟩ : ∃ X109, w107.alloc (.cells #[.int .i64 0, .int .i64 1, .int .i64 2] 3) = X109 := ⟨_, rfl⟩
  have hx110 : Below w107.heap.size w107 X109 := by rw [← hX109]; exact Below.alloc1 (Below.refl _ _) _ (Nat.le_refl _)
  have HZ := Lib.hid (show Ints X109 (some ⟨w107.heap.size, 0, none⟩) 3 (ltI [0, 1, 2]) by rw [← hX109]; exact ints_new w107 _ (0, 0) [0, 1, 2])
  replace H3 := Lib.hid (H3.out.below hx110)
  replace H2 := Lib.hid (H2.out.below hx110)
  replace B1 := Lib.hid (RowIs.below B1.out hx110)
  replace B2 := Lib.hid (RowIs.below B2.out hx110)
  replace HD := Lib.hid (ints_below HD.out hx110)
  replace HX := Lib.hid (ints_below HX.out hx110)
  replace HY := Lib.hid (ints_below HY.out hx110)
  replace HL := Lib.hid (ints_below HL.out hx110)
  replace HM := Lib.hid (ints_below HM.out hx110)
  replace HP := Lib.hid (ints_below HP.out hx110)
  replace HS := Lib.hid (ints_below HS.out hx110)
  replace HO := Lib.hid (ints_below HO.out hx110)
  replace HI := Lib.hid (ints_below HI.out hx110)
  replace HJ := Lib.hid (ints_below HJ.out hx110)
  replace HU := Lib.hid (ints_below HU.out hx110)
  replace hB := bup hB hx110
  have cC111 := Ints_c x10 3 k10 (ltI [0, 1, 2]) (some ⟨w107.heap.size, 0, none⟩) 3 3 (ltI [0, 1, 2]) X109 HU.out HZ.out (by omega)
  rw [show intsB 3 (ltI [0, 1, 2]) 3 (ltI [0, 1, 2]) = true from intsB_yes fun _ _ => rfl] at cC111
  have C111 := Lib.hid cC111
  clear cC111 HZ
  go_wp2_with (go_at_call 18; refine (of_c _ _ _ _).mono ?_; rintro e w' ⟨rfl, rfl⟩)
  clear hw108 hX109 hx110
  refine C111.out.mono ?_
  rintro e w112 ⟨rfl, hw113⟩
  clear C111
  replace H3 := Lib.hid (H3.out.below hw113)
  replace H2 := Lib.hid (H2.out.below hw113)
  replace B1 := Lib.hid (RowIs.below B1.out hw113)
  replace B2 := Lib.hid (RowIs.below B2.out hw113)
  replace HD := Lib.hid (ints_below HD.out hw113)
  replace HX := Lib.hid (ints_below HX.out hw113)
  replace HY := Lib.hid (ints_below HY.out hw113)
  replace HL := Lib.hid (ints_below HL.out hw113)
  replace HM := Lib.hid (ints_below HM.out hw113)
  replace HP := Lib.hid (ints_below HP.out hw113)
  replace HS := Lib.hid (ints_below HS.out hw113)
  replace HO := Lib.hid (ints_below HO.out hw113)
  replace HI := Lib.hid (ints_below HI.out hw113)
  replace HJ := Lib.hid (ints_below HJ.out hw113)
  replace HU := Lib.hid (ints_below HU.out hw113)
  replace hB := bup hB hw113
  go_wp2_with fail
  go_ret
  exact ⟨rfl, hB⟩

end Go.Proofs.YtbjgbgchagfokaaGreat
