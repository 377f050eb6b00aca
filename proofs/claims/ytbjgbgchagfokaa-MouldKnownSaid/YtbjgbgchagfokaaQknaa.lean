/- The law MouldKnown, the chapter's examples, returns true. No condition. -/
import Derived.Test.YtbjgbgchagfokaaProg
import Derived.Test.YtbjgbgchagfokaaBasaa
import Derived.Test.YtbjgbgchagfokaaBasbb
import Derived.Deep.RegionHeld3
import Derived.Deep.CutRange
import Derived.Deep.DeepCutAuto
import Derived.Shelf.Abstract
import Derived.Shelf.RegionOpen
import Derived.Test.YtbjgbgchagfokaaBasaj
import Derived.Test.YtbjgbgchagfokaaBasbc
import Derived.Test.YtbjgbgchagfokaaRows
import Derived.ProofKit
namespace Go.Proofs.Ytbjgbgchagfokaa
open Go Go.RowKit

theorem z_load2 : rowA 3 (bookL twoW 4) = #[.int .i64 1, .int .i64 1, .int .i64 2] := by kernel_rfl
theorem z_load2m : rowA 2 (fun y => bookL twoW 4 (6 + y)) = #[.int .i64 2, .int .i64 2] := by kernel_rfl
theorem z_days1 : daysE 3 3 5 threeW 5 (ltI [0, 1, 1, 0, 2]) = 0 := by kernel_rfl
theorem z_days1n : daysN 0 (ltI [0, 1, 1, 0, 2]) 5 = 3 := by kernel_rfl
theorem z_days2 : daysE 3 3 5 threeW 5 (ltI [0, 1, 1, 0, 14]) = 3 := by kernel_rfl
theorem z_days2n : daysN 3 (ltI [0, 1, 1, 0, 14]) 5 = 0 := by kernel_rfl
theorem z_chain1 : chainE 3 3 5 threeW 5 (ltI [0, 1, 1, 0, 2]) 0 1 = 0 := by kernel_rfl
theorem z_chain1l : chainL threeW 5 (natD (ltI [0, 1, 1, 0, 2])) (natD (ltI [0, 1, 1, 0, 2]) (0 : Int).toNat) (1 : Int).toNat (0 : Int).toNat = [0, 1, 2, 3] := by kernel_rfl
theorem z_chain2 : chainE 3 3 5 threeW 5 (ltI [0, 1, 1, 0, 2]) 4 3 = 0 := by kernel_rfl
theorem z_chain2l : chainL threeW 5 (natD (ltI [0, 1, 1, 0, 2])) (natD (ltI [0, 1, 1, 0, 2]) (4 : Int).toNat) (3 : Int).toNat (4 : Int).toNat = [4] := by kernel_rfl
theorem z_list : (if listB (ltI [0, 3]) 5 2 = true then (if apartAll threeW 5 (ltI [0, 3]) 2 = true then (0 : Int) else 18) else 3) = 0 := by kernel_rfl
theorem z_cov : coverE 3 3 5 threeW 3 (ltI [0, 1, 2]) 0 (fun _ => 0) = 0 := by kernel_rfl
theorem z_short1 : shortE 3 5 threeW 3 (ltI [0, 1, 2]) = 0 := by kernel_rfl
theorem z_short1n : shortN 3 5 threeW 3 (ltI [0, 1, 2]) = 1 := by kernel_rfl
theorem z_short2 : shortE 3 5 threeW 2 (ltI [0, 1]) = 14 := by kernel_rfl
theorem z_short2n : shortN 3 5 threeW 2 (ltI [0, 1]) = 0 := by kernel_rfl
section
variable (p : Option Addr) (cap : Nat) (w : World)
theorem k_Loads (hf : Wants w p 4 twoW) : Calls Try.prog 18 #[bookV 3 2 p 4 cap] w fun e w' => ∃ b1 b2, e = .returned (.tuple #[.slice (some ⟨b1, 0, none⟩) 3 3, .slice (some ⟨b2, 0, none⟩) 2 2, .int .i64 0]) ∧ Ints w' (some ⟨b1, 0, none⟩) 3 (ltI [1, 1, 2]) ∧ Ints w' (some ⟨b2, 0, none⟩) 2 (ltI [2, 2]) ∧ Below w.heap.size w w' := by
  have h := mLoads_yes_c 3 2 p 4 cap twoW w hf (by omega) y_book2
  refine h.mono ?_
  rintro e w' ⟨b1, b2, h1, h2, h3, _, _, _, hb⟩
  rw [z_load2] at h2
  rw [z_load2m] at h3
  exact ⟨b1, b2, h1, ints_lit [1, 1, 2] h2, ints_lit [2, 2] h3, hb⟩
theorem k_Fewest (hf : Wants w p 4 twoW) : Calls Try.prog 47 #[bookV 3 2 p 4 cap] w fun e w' => e = .returned (okV (.int .i64 2)) ∧ Below w.heap.size w w' := by
  have h := Fewest_yes_c 3 2 p 4 cap twoW w hf (by omega) y_book2
  rw [y_few2] at h
  exact h
theorem k_Chain1 (da : Option Addr) (dc : Nat) (hf : Wants w p 5 threeW) (hd : Ints w da 5 (ltI [0, 1, 1, 0, 2])) : Calls Try.prog 40 #[bookV 3 3 p 5 cap, .slice da 5 dc, .int .i64 0, .int .i64 1] w fun e w' => ∃ q c, e = .returned (okV (.slice q 4 c)) ∧ Ints w' q 4 (ltI [0, 1, 2, 3]) ∧ Below w.heap.size w w' := by
  refine (Chain_c 3 3 p 5 cap threeW da 5 dc (ltI [0, 1, 1, 0, 2]) 0 1 w hf (by omega) hd).mono ?_
  rintro e w' ⟨hb, ⟨_, v, h1, h2⟩ | ⟨h1, _⟩⟩
  · rw [z_chain1l] at h2
    obtain ⟨q, c, rfl, h3, _⟩ := h2.lst
    exact ⟨q, c, h1, lst_ints h3, hb⟩
  · exact absurd z_chain1 h1
theorem k_Chain2 (da : Option Addr) (dc : Nat) (hf : Wants w p 5 threeW) (hd : Ints w da 5 (ltI [0, 1, 1, 0, 2])) : Calls Try.prog 40 #[bookV 3 3 p 5 cap, .slice da 5 dc, .int .i64 4, .int .i64 3] w fun e w' => ∃ q c, e = .returned (okV (.slice q 1 c)) ∧ Ints w' q 1 (ltI [4]) ∧ Below w.heap.size w w' := by
  refine (Chain_c 3 3 p 5 cap threeW da 5 dc (ltI [0, 1, 1, 0, 2]) 4 3 w hf (by omega) hd).mono ?_
  rintro e w' ⟨hb, ⟨_, v, h1, h2⟩ | ⟨h1, _⟩⟩
  · rw [z_chain2l] at h2
    obtain ⟨q, c, rfl, h3, _⟩ := h2.lst
    exact ⟨q, c, h1, lst_ints h3, hb⟩
  · exact absurd z_chain2 h1
theorem k_Cover (sa : Option Addr) (hf : Wants w p 5 threeW) (hs : Ints w sa 3 (ltI [0, 1, 2])) : Calls Try.prog 27 #[bookV 3 3 p 5 cap, .slice sa 3 3, .slice none 0 0] w fun e w' => e = .returned (.tuple #[.int .i64 3, .int .i64 0]) ∧ Below w.heap.size w w' := by
  have h := CheckCover_yes_c 3 3 p 5 cap threeW sa 3 3 (ltI [0, 1, 2]) none 0 0 (fun _ => 0) w hf (by omega) hs (by omega) (.inl rfl) (by omega) y_book3
  rw [z_cov] at h
  exact h
theorem k_Book (hf : Wants w p 4 twoW) : Calls Try.prog 22 #[bookV 3 2 p 4 cap] w fun e w' => e = .returned (.int .i64 0) ∧ Below w.heap.size w w' := by
  have h := checkBook_c 3 2 p 4 cap twoW w hf (by omega)
  rw [y_book2] at h
  exact h
theorem k_Short1 (da : Option Addr) (hf : Wants w p 5 threeW) (hd : Ints w da 3 (ltI [0, 1, 2])) : Calls Try.prog 32 #[bookV 3 3 p 5 cap, .slice da 3 3] w fun e w' => e = .returned (.tuple #[.int .i64 1, .int .i64 0]) ∧ Below w.heap.size w w' := by
  have h := CheckShort_yes_c 3 3 p 5 cap threeW da 3 3 (ltI [0, 1, 2]) w hf (by omega) hd (by omega) (by omega) (by omega) y_book3
  rw [z_short1, z_short1n] at h
  exact h
theorem k_Short2 (da : Option Addr) (hf : Wants w p 5 threeW) (hd : Ints w da 2 (ltI [0, 1])) : Calls Try.prog 32 #[bookV 3 3 p 5 cap, .slice da 2 2] w fun e w' => e = .returned (.tuple #[.int .i64 0, .int .i64 14]) ∧ Below w.heap.size w w' := by
  have h := CheckShort_yes_c 3 3 p 5 cap threeW da 2 2 (ltI [0, 1]) w hf (by omega) hd (by omega) (by omega) (by omega) y_book3
  rw [z_short2, z_short2n] at h
  exact h
end

end Go.Proofs.Ytbjgbgchagfokaa

namespace Go.Proofs.Ytbjgbgchagfokaa
open Go Go.RowKit Go.Shelf

set_option maxRecDepth 100000 in
set_option maxHeartbeats 16000000 in
theorem law_known_c (w : World) : Calls Try.prog 14 #[] w fun e w' => e = .returned (.bool true) ∧ Below w.heap.size w w' := by
  go_enter Try.func14, Try.ntmps14
  go_wp2_with fail
  refine (three_c _).mono ?_
  rintro e w1 ⟨p3, k3, rfl, h3, hb1⟩
  go_wp2_with fail
  refine (two_c _).mono ?_
  rintro e w2 ⟨p2, k2, rfl, h2, hb2⟩
  obtain ⟨Y, hY⟩ : ∃ Y, (w2.alloc (.cells #[.int .i64 0, .int .i64 0, .slice none 0 0] 24)).alloc (.cells #[.int .i64 0, .int .i64 0, .slice none 0 0] 24) = Y := ⟨_, rfl⟩
  have hYb : Below w2.heap.size w2 Y := by rw [← hY]; exact Below.alloc1 (Below.alloc1 (Below.refl _ _) _ (Nat.le_refl _)) _ (Nat.le_refl _)
  have hY1 : RowIs Y w2.heap.size #[.int .i64 0, .int .i64 0, .slice none 0 0] 24 := by rw [← hY]; exact RowIs.alloc (heap_new_at _ _ _ rfl) _
  have hY2 : RowIs Y (w2.heap.size + 1) #[.int .i64 0, .int .i64 0, .slice none 0 0] 24 := by rw [← hY]; exact heap_new_at _ _ _ (by simp)
  obtain ⟨Z, hZ⟩ : ∃ Z, ((((((Y.setCell ⟨w2.heap.size, 0, none⟩ (.int .i64 3)).setCell ⟨w2.heap.size, 1, none⟩ (.int .i64 3)).setCell ⟨w2.heap.size, 2, none⟩ (.slice p3 5 k3)).setCell ⟨w2.heap.size + 1, 0, none⟩ (.int .i64 3)).setCell ⟨w2.heap.size + 1, 1, none⟩ (.int .i64 2)).setCell ⟨w2.heap.size + 1, 2, none⟩ (.slice p2 4 k2)) = Z := ⟨_, rfl⟩
  have hZ1 : RowIs Z w2.heap.size #[.int .i64 3, .int .i64 3, .slice p3 5 k3] 24 := by
    rw [← hZ]
    exact (Below.heap_setCell _ _ _ _ (by simp)).trans ((Below.heap_setCell _ _ _ _ (by simp)).trans ((Below.heap_setCell _ _ _ _ (by simp)).trans (RowIs.set (RowIs.set (RowIs.set hY1 0 (.int .i64 3)) 1 (.int .i64 3)) 2 (.slice p3 5 k3))))
  have hZ2 : RowIs Z (w2.heap.size + 1) #[.int .i64 3, .int .i64 2, .slice p2 4 k2] 24 := by
    rw [← hZ]
    have hA : RowIs (((Y.setCell ⟨w2.heap.size, 0, none⟩ (.int .i64 3)).setCell ⟨w2.heap.size, 1, none⟩ (.int .i64 3)).setCell ⟨w2.heap.size, 2, none⟩ (.slice p3 5 k3)) (w2.heap.size + 1) #[.int .i64 0, .int .i64 0, .slice none 0 0] 24 :=
      (Below.heap_setCell _ _ _ _ (by simp)).trans ((Below.heap_setCell _ _ _ _ (by simp)).trans ((Below.heap_setCell _ _ _ _ (by simp)).trans hY2))
    exact RowIs.set (RowIs.set (RowIs.set hA 0 (.int .i64 3)) 1 (.int .i64 2)) 2 (.slice p2 4 k2)
  have hZb : Below w2.heap.size w2 Z := hYb.trans (by
    rw [← hZ]
    exact ((((((Below.refl _ Y).setCell (p := ⟨w2.heap.size, 0, none⟩) (Nat.le_refl _) _).setCell (p := ⟨w2.heap.size, 1, none⟩) (Nat.le_refl _) _).setCell (p := ⟨w2.heap.size, 2, none⟩) (Nat.le_refl _) _).setCell (p := ⟨w2.heap.size + 1, 0, none⟩) (Nat.le_succ _) _).setCell (p := ⟨w2.heap.size + 1, 1, none⟩) (Nat.le_succ _) _).setCell (p := ⟨w2.heap.size + 1, 2, none⟩) (Nat.le_succ _) _)
  have z0 : Y.cell? ⟨w2.heap.size, 0, none⟩ = some (.int .i64 0) := hY1.cell 0
  have z1 : Y.cell? ⟨w2.heap.size, 1, none⟩ = some (.int .i64 0) := hY1.cell 1
  have z2 : Y.cell? ⟨w2.heap.size, 2, none⟩ = some (.slice none 0 0) := hY1.cell 2
  have z3 : Y.cell? ⟨w2.heap.size + 1, 0, none⟩ = some (.int .i64 0) := hY2.cell 0
  have z4 : Y.cell? ⟨w2.heap.size + 1, 1, none⟩ = some (.int .i64 0) := hY2.cell 1
  have z5 : Y.cell? ⟨w2.heap.size + 1, 2, none⟩ = some (.slice none 0 0) := hY2.cell 2
  have f0 := hY1.frozen 0
  have f1 := hY1.frozen 1
  have f2 := hY1.frozen 2
  have f3 := hY2.frozen 0
  have f4 := hY2.frozen 1
  have f5 := hY2.frozen 2
  have H3 := Lib.hid (h3.below (bup hb2 hZb))
  have H2 := Lib.hid (h2.below hZb)
  have B1 := Lib.hid hZ1
  have B2 := Lib.hid hZ2
  have hB := bup hb1 (bup hb2 hZb)
  clear h3 h2 hZ1 hZ2 hb1 hb2 hZb hYb hY1 hY2
  obtain ⟨X1, hX1⟩ : ∃ X1, Z.alloc (.cells #[.int .i64 0, .int .i64 1, .int .i64 1, .int .i64 0, .int .i64 2] 3) = X1 := ⟨_, rfl⟩
  have hx2 : Below Z.heap.size Z X1 := by rw [← hX1]; exact Below.alloc1 (Below.refl _ _) _ (Nat.le_refl _)
  have HD := Lib.hid (show Ints X1 (some ⟨Z.heap.size, 0, none⟩) 5 (ltI [0, 1, 1, 0, 2]) by rw [← hX1]; exact ints_new Z _ (0, 0) [0, 1, 1, 0, 2])
  replace H3 := Lib.hid (H3.out.below hx2)
  replace H2 := Lib.hid (H2.out.below hx2)
  replace B1 := Lib.hid (RowIs.below B1.out hx2)
  replace B2 := Lib.hid (RowIs.below B2.out hx2)
  replace hB := bup hB hx2
  obtain ⟨pd, hpd⟩ : ∃ q, Z.heap.size = q := ⟨_, rfl⟩
  rw [hpd] at HD
  have C3 := Lib.hid (k_Loads p2 k2 X1 H2.out)
  obtain ⟨r0, r1, r2, rz⟩ := bookcells B2.out
  go_wp2_with (go_at_call 46; refine (of_c _ _ _ _).mono ?_; rintro e w' ⟨rfl, rfl⟩)
  clear hY hZ z0 z1 z2 z3 z4 z5 f0 f1 f2 f3 f4 f5 hX1 hx2 r0 r1 r2 rz
  refine C3.out.mono ?_
  rintro e w4 ⟨x1, x2, rfl, hx1, hx2, hw5⟩
  clear C3
  replace H3 := Lib.hid (H3.out.below hw5)
  replace H2 := Lib.hid (H2.out.below hw5)
  replace B1 := Lib.hid (RowIs.below B1.out hw5)
  replace B2 := Lib.hid (RowIs.below B2.out hw5)
  replace HD := Lib.hid (ints_below HD.out hw5)
  replace hB := bup hB hw5
  have HX := Lib.hid hx1
  clear hx1
  have HY := Lib.hid hx2
  clear hx2
  have C6 := Lib.hid (t_Days p3 k3 w4 [0, 1, 1, 0, 2] 3 0 5 (some ⟨pd, 0, none⟩) 5 z_days1 z_days1n H3.out HD.out)
  obtain ⟨r0, r1, r2, rz⟩ := bookcells B1.out
  go_wp2_with fail
  clear hpd hw5 r0 r1 r2 rz
  refine C6.out.mono ?_
  rintro e w7 ⟨rfl, hw8⟩
  clear C6
  replace H3 := Lib.hid (H3.out.below hw8)
  replace H2 := Lib.hid (H2.out.below hw8)
  replace B1 := Lib.hid (RowIs.below B1.out hw8)
  replace B2 := Lib.hid (RowIs.below B2.out hw8)
  replace HD := Lib.hid (ints_below HD.out hw8)
  replace HX := Lib.hid (ints_below HX.out hw8)
  replace HY := Lib.hid (ints_below HY.out hw8)
  replace hB := bup hB hw8
  have K9 := Lib.hid (fun (q : Nat) (V : World) (hV : Below w7.heap.size w7 V) (hI : Ints V (some ⟨q, 0, none⟩) 5 (ltI [0, 1, 1, 0, 14])) => t_Days p3 k3 V [0, 1, 1, 0, 14] 0 3 5 (some ⟨q, 0, none⟩) 5 z_days2 z_days2n (H3.out.below hV) hI)
  go_wp2_with fail
  clear hw8
  apply cut1 (w0 := w7)
  case main =>
    intro fin
    refine wp_region_runF (C := fun x => Below w7.heap.size w7 x) (fun x => Below w7.heap.size w7 x) (by kernel_rfl) (stable_below w7) (Below.refl _ _) ?_
    change Run _ _ _ _ _ 9 _ _ _
    refine run_take (i := 0) (.agg #[.int .i64 3, .int .i64 3, .slice p3 5 k3]) rfl (by kernel_rfl) (by kernel_rfl) (by kernel_rfl) rfl (fun y h => h) (fun y hy => by obtain ⟨r0, r1, r2, rz⟩ := bookcells (RowIs.below B1.out hy); go_simp) ?_
    simp only [Act.put, List.getElem_toArray, List.getElem_cons_zero, List.setIfInBounds_toArray, List.set_cons_zero, List.set_cons_succ]
    refine run_only (i := 1) (by kernel_rfl) (at_make (w0 := w7) (t := 42) (z := .cells #[.int .i64 0, .int .i64 1, .int .i64 1, .int .i64 0, .int .i64 14] 3 (0, 0)) (fun q => .slice (some ⟨q, 0, none⟩) 5 5) (fun _ => False) slice_inj rfl rfl rfl (fun y _ => by go_simp) (fun y h => h.size) (fun _ _ _ h => h.elim) ?_)
    intro bb0 hbb0 _
    simp only [Act.put, List.setIfInBounds_toArray, List.set_cons_zero, List.set_cons_succ]
    refine run_strong (C' := fun x => (Below w7.heap.size w7 x) ∧ x.heap[bb0]? = some (.cells #[.int .i64 0, .int .i64 1, .int .i64 1, .int .i64 0, .int .i64 14] 3 (0, 0))) (fun x h => h.1) _ _ _ _ ?_
    refine run_takeQ (i := 2) (.slice (some ⟨bb0, 0, none⟩) 5 5) rfl (by kernel_rfl) (by kernel_rfl) (by kernel_rfl) (fun y h => h) (quiet_of_walk rfl rfl (by simp) (fun y hy K1 hK1 => ?_)) ?_
    · have g0 : Below w7.heap.size w7 y := hy.1
      have HI0 := Lib.hid (show Ints y (some ⟨bb0, 0, none⟩) 5 (ltI [0, 1, 1, 0, 14]) from ints_lit [0, 1, 1, 0, 14] hy.2)
      simp only [List.getElem_toArray, List.getElem_cons_zero, List.getElem_cons_succ]
      go_big_quiet_step ((with_reducible refine calls_later_same (of_c _ _ _ _)))
      exact wpQuiet_nil hK1
    simp only [Act.put, List.getElem_toArray, List.getElem_cons_zero, List.getElem_cons_succ, List.setIfInBounds_toArray, List.set_cons_zero, List.set_cons_succ]
    refine run_takeQ (i := 3) (.tuple #[.int .i64 0, .int .i64 3]) rfl (by kernel_rfl) (by kernel_rfl) (by kernel_rfl) (fun y h => h) (quiet_of_walk rfl rfl (by simp) (fun y hy K1 hK1 => ?_)) ?_
    · have g0 : Below w7.heap.size w7 y := hy.1
      have HI0 := Lib.hid (show Ints y (some ⟨bb0, 0, none⟩) 5 (ltI [0, 1, 1, 0, 14]) from ints_lit [0, 1, 1, 0, 14] hy.2)
      simp only [List.getElem_toArray, List.getElem_cons_zero, List.getElem_cons_succ]
      go_big_quiet_step ((with_reducible refine calls_later (K9.out bb0 _ (g0.trans ((Later.h _).mono g0.size)) (ints_below HI0.out (Later.h _)))))
      exact wpQuiet_nil hK1
    simp only [Act.put, List.getElem_toArray, List.getElem_cons_zero, List.getElem_cons_succ, List.setIfInBounds_toArray, List.set_cons_zero, List.set_cons_succ]
    refine run_take (i := 4) (.tuple #[.int .i64 0, .int .i64 3]) rfl (by kernel_rfl) (by kernel_rfl) (by kernel_rfl) rfl (fun y h => h) (fun y _ => by go_simp) ?_
    simp only [Act.put, List.getElem_toArray, List.getElem_cons_zero, List.getElem_cons_succ, List.setIfInBounds_toArray, List.set_cons_zero, List.set_cons_succ]
    refine run_take (i := 5) (.int .i64 0) rfl (by kernel_rfl) (by kernel_rfl) (by kernel_rfl) rfl (fun y h => h) (fun y _ => by go_simp) ?_
    simp only [Act.put, List.getElem_toArray, List.getElem_cons_zero, List.getElem_cons_succ, List.setIfInBounds_toArray, List.set_cons_zero, List.set_cons_succ]
    refine run_take (i := 6) (.int .i64 3) rfl (by kernel_rfl) (by kernel_rfl) (by kernel_rfl) rfl (fun y h => h) (fun y _ => by go_simp) ?_
    simp only [Act.put, List.getElem_toArray, List.getElem_cons_zero, List.getElem_cons_succ, List.setIfInBounds_toArray, List.set_cons_zero, List.set_cons_succ]
    refine run_take (i := 7) (.int .i64 0) rfl (by kernel_rfl) (by kernel_rfl) (by kernel_rfl) rfl (fun y h => h) (fun y _ => by go_simp) ?_
    simp only [Act.put, List.getElem_toArray, List.getElem_cons_zero, List.getElem_cons_succ, List.setIfInBounds_toArray, List.set_cons_zero, List.set_cons_succ]
    refine run_take (i := 8) (.int .i64 3) rfl (by kernel_rfl) (by kernel_rfl) (by kernel_rfl) rfl (fun y h => h) (fun y _ => by go_simp) ?_
    simp only [Act.put, List.getElem_toArray, List.getElem_cons_zero, List.getElem_cons_succ, List.setIfInBounds_toArray, List.set_cons_zero, List.set_cons_succ]
    exact ⟨by kernel_rfl, fun y hy => fin bb0 y hy.1⟩
  intro b12 y10 hy11
  clear K9
  replace H3 := Lib.hid (H3.out.below hy11)
  replace H2 := Lib.hid (H2.out.below hy11)
  replace B1 := Lib.hid (RowIs.below B1.out hy11)
  replace B2 := Lib.hid (RowIs.below B2.out hy11)
  replace HD := Lib.hid (ints_below HD.out hy11)
  replace HX := Lib.hid (ints_below HX.out hy11)
  replace HY := Lib.hid (ints_below HY.out hy11)
  replace hB := bup hB hy11
  have C13 := Lib.hid (k_Fewest p2 k2 y10 H2.out)
  obtain ⟨r0, r1, r2, rz⟩ := bookcells B2.out
  go_wp2_with fail
  clear hy11 r0 r1 r2 rz
  refine C13.out.mono ?_
  rintro e w14 ⟨rfl, hw15⟩
  clear C13
  replace H3 := Lib.hid (H3.out.below hw15)
  replace H2 := Lib.hid (H2.out.below hw15)
  replace B1 := Lib.hid (RowIs.below B1.out hw15)
  replace B2 := Lib.hid (RowIs.below B2.out hw15)
  replace HD := Lib.hid (ints_below HD.out hw15)
  replace HX := Lib.hid (ints_below HX.out hw15)
  replace HY := Lib.hid (ints_below HY.out hw15)
  replace hB := bup hB hw15
  have C16 := Lib.hid (k_Chain1 p3 k3 w14 (some ⟨pd, 0, none⟩) 5 H3.out HD.out)
  obtain ⟨r0, r1, r2, rz⟩ := bookcells B1.out
  go_wp2_with fail
  clear hw15 r0 r1 r2 rz
  refine C16.out.mono ?_
  rintro e w17 ⟨x5, k5, rfl, hx5, hw18⟩
  clear C16
  replace H3 := Lib.hid (H3.out.below hw18)
  replace H2 := Lib.hid (H2.out.below hw18)
  replace B1 := Lib.hid (RowIs.below B1.out hw18)
  replace B2 := Lib.hid (RowIs.below B2.out hw18)
  replace HD := Lib.hid (ints_below HD.out hw18)
  replace HX := Lib.hid (ints_below HX.out hw18)
  replace HY := Lib.hid (ints_below HY.out hw18)
  replace hB := bup hB hw18
  have HP := Lib.hid hx5
  clear hx5
  have C19 := Lib.hid (k_Chain2 p3 k3 w17 (some ⟨pd, 0, none⟩) 5 H3.out HD.out)
  obtain ⟨r0, r1, r2, rz⟩ := bookcells B1.out
  go_wp2_with fail
  clear hw18 r0 r1 r2 rz
  refine C19.out.mono ?_
  rintro e w20 ⟨x6, k6, rfl, hx6, hw21⟩
  clear C19
  replace H3 := Lib.hid (H3.out.below hw21)
  replace H2 := Lib.hid (H2.out.below hw21)
  replace B1 := Lib.hid (RowIs.below B1.out hw21)
  replace B2 := Lib.hid (RowIs.below B2.out hw21)
  replace HD := Lib.hid (ints_below HD.out hw21)
  replace HX := Lib.hid (ints_below HX.out hw21)
  replace HY := Lib.hid (ints_below HY.out hw21)
  replace HP := Lib.hid (ints_below HP.out hw21)
  replace hB := bup hB hw21
  have HQ := Lib.hid hx6
  clear hx6
  have K22 := Lib.hid (fun (q : Nat) (V : World) (hV : Below w20.heap.size w20 V) (hI : Ints V (some ⟨q, 0, none⟩) 2 (ltI [0, 3])) => t_CheckList p3 k3 V [0, 3] 0 (some ⟨q, 0, none⟩) z_list (H3.out.below hV) hI)
  go_wp2_with fail
  clear hw21
  apply cut1 (w0 := w20)
  case main =>
    intro fin
    refine wp_region_runF (C := fun x => Below w20.heap.size w20 x) (fun x => Below w20.heap.size w20 x) (by kernel_rfl) (stable_below w20) (Below.refl _ _) ?_
    change Run _ _ _ _ _ 5 _ _ _
    refine run_take (i := 0) (.agg #[.int .i64 3, .int .i64 3, .slice p3 5 k3]) rfl (by kernel_rfl) (by kernel_rfl) (by kernel_rfl) rfl (fun y h => h) (fun y hy => by obtain ⟨r0, r1, r2, rz⟩ := bookcells (RowIs.below B1.out hy); go_simp) ?_
    simp only [Act.put, List.getElem_toArray, List.getElem_cons_zero, List.setIfInBounds_toArray, List.set_cons_zero, List.set_cons_succ]
    refine run_only (i := 1) (by kernel_rfl) (at_make (w0 := w20) (t := 65) (z := .cells #[.int .i64 0, .int .i64 3] 3 (0, 0)) (fun q => .slice (some ⟨q, 0, none⟩) 2 2) (fun _ => False) slice_inj rfl rfl rfl (fun y _ => by go_simp) (fun y h => h.size) (fun _ _ _ h => h.elim) ?_)
    intro bb0 hbb0 _
    simp only [Act.put, List.setIfInBounds_toArray, List.set_cons_zero, List.set_cons_succ]
    refine run_strong (C' := fun x => (Below w20.heap.size w20 x) ∧ x.heap[bb0]? = some (.cells #[.int .i64 0, .int .i64 3] 3 (0, 0))) (fun x h => h.1) _ _ _ _ ?_
    refine run_takeQ (i := 2) (.slice (some ⟨bb0, 0, none⟩) 2 2) rfl (by kernel_rfl) (by kernel_rfl) (by kernel_rfl) (fun y h => h) (quiet_of_walk rfl rfl (by simp) (fun y hy K1 hK1 => ?_)) ?_
    · have g0 : Below w20.heap.size w20 y := hy.1
      have HI0 := Lib.hid (show Ints y (some ⟨bb0, 0, none⟩) 2 (ltI [0, 3]) from ints_lit [0, 3] hy.2)
      simp only [List.getElem_toArray, List.getElem_cons_zero, List.getElem_cons_succ]
      go_big_quiet_step ((with_reducible refine calls_later_same (of_c _ _ _ _)))
      exact wpQuiet_nil hK1
    simp only [Act.put, List.getElem_toArray, List.getElem_cons_zero, List.getElem_cons_succ, List.setIfInBounds_toArray, List.set_cons_zero, List.set_cons_succ]
    refine run_takeQ (i := 3) (.int .i64 0) rfl (by kernel_rfl) (by kernel_rfl) (by kernel_rfl) (fun y h => h) (quiet_of_walk rfl rfl (by simp) (fun y hy K1 hK1 => ?_)) ?_
    · have g0 : Below w20.heap.size w20 y := hy.1
      have HI0 := Lib.hid (show Ints y (some ⟨bb0, 0, none⟩) 2 (ltI [0, 3]) from ints_lit [0, 3] hy.2)
      simp only [List.getElem_toArray, List.getElem_cons_zero, List.getElem_cons_succ]
      go_big_quiet_step ((with_reducible refine calls_later (K22.out bb0 _ (g0.trans ((Later.h _).mono g0.size)) (ints_below HI0.out (Later.h _)))))
      exact wpQuiet_nil hK1
    simp only [Act.put, List.getElem_toArray, List.getElem_cons_zero, List.getElem_cons_succ, List.setIfInBounds_toArray, List.set_cons_zero, List.set_cons_succ]
    refine run_take (i := 4) (.int .i64 0) rfl (by kernel_rfl) (by kernel_rfl) (by kernel_rfl) rfl (fun y h => h) (fun y _ => by go_simp) ?_
    simp only [Act.put, List.getElem_toArray, List.getElem_cons_zero, List.getElem_cons_succ, List.setIfInBounds_toArray, List.set_cons_zero, List.set_cons_succ]
    exact ⟨by kernel_rfl, fun y hy => fin bb0 y hy.1⟩
  intro b25 y23 hy24
  clear K22
  replace H3 := Lib.hid (H3.out.below hy24)
  replace H2 := Lib.hid (H2.out.below hy24)
  replace B1 := Lib.hid (RowIs.below B1.out hy24)
  replace B2 := Lib.hid (RowIs.below B2.out hy24)
  replace HD := Lib.hid (ints_below HD.out hy24)
  replace HX := Lib.hid (ints_below HX.out hy24)
  replace HY := Lib.hid (ints_below HY.out hy24)
  replace HP := Lib.hid (ints_below HP.out hy24)
  replace HQ := Lib.hid (ints_below HQ.out hy24)
  replace hB := bup hB hy24
  have K26 := Lib.hid (fun (q : Nat) (V : World) (hV : Below y23.heap.size y23 V) (hI : Ints V (some ⟨q, 0, none⟩) 3 (ltI [0, 1, 2])) => k_Cover p3 k3 V (some ⟨q, 0, none⟩) (H3.out.below hV) hI)
  go_wp2_with fail
  clear hy24
  apply cut1 (w0 := y23)
  case main =>
    intro fin
    refine wp_region_runF (C := fun x => Below y23.heap.size y23 x) (fun x => Below y23.heap.size y23 x) (by kernel_rfl) (stable_below y23) (Below.refl _ _) ?_
    change Run _ _ _ _ _ 9 _ _ _
    refine run_take (i := 0) (.agg #[.int .i64 3, .int .i64 3, .slice p3 5 k3]) rfl (by kernel_rfl) (by kernel_rfl) (by kernel_rfl) rfl (fun y h => h) (fun y hy => by obtain ⟨r0, r1, r2, rz⟩ := bookcells (RowIs.below B1.out hy); go_simp) ?_
    simp only [Act.put, List.getElem_toArray, List.getElem_cons_zero, List.setIfInBounds_toArray, List.set_cons_zero, List.set_cons_succ]
    refine run_only (i := 1) (by kernel_rfl) (at_make (w0 := y23) (t := 70) (z := .cells #[.int .i64 0, .int .i64 1, .int .i64 2] 3 (0, 0)) (fun q => .slice (some ⟨q, 0, none⟩) 3 3) (fun _ => False) slice_inj rfl rfl rfl (fun y _ => by go_simp) (fun y h => h.size) (fun _ _ _ h => h.elim) ?_)
    intro bb0 hbb0 _
    simp only [Act.put, List.setIfInBounds_toArray, List.set_cons_zero, List.set_cons_succ]
    refine run_strong (C' := fun x => (Below y23.heap.size y23 x) ∧ x.heap[bb0]? = some (.cells #[.int .i64 0, .int .i64 1, .int .i64 2] 3 (0, 0))) (fun x h => h.1) _ _ _ _ ?_
    refine run_takeQ (i := 2) (.slice (some ⟨bb0, 0, none⟩) 3 3) rfl (by kernel_rfl) (by kernel_rfl) (by kernel_rfl) (fun y h => h) (quiet_of_walk rfl rfl (by simp) (fun y hy K1 hK1 => ?_)) ?_
    · have g0 : Below y23.heap.size y23 y := hy.1
      have HI0 := Lib.hid (show Ints y (some ⟨bb0, 0, none⟩) 3 (ltI [0, 1, 2]) from ints_lit [0, 1, 2] hy.2)
      simp only [List.getElem_toArray, List.getElem_cons_zero, List.getElem_cons_succ]
      go_big_quiet_step ((with_reducible refine calls_later_same (of_c _ _ _ _)))
      exact wpQuiet_nil hK1
    simp only [Act.put, List.getElem_toArray, List.getElem_cons_zero, List.getElem_cons_succ, List.setIfInBounds_toArray, List.set_cons_zero, List.set_cons_succ]
    refine run_takeQ (i := 3) (.tuple #[.int .i64 3, .int .i64 0]) rfl (by kernel_rfl) (by kernel_rfl) (by kernel_rfl) (fun y h => h) (quiet_of_walk rfl rfl (by simp) (fun y hy K1 hK1 => ?_)) ?_
    · have g0 : Below y23.heap.size y23 y := hy.1
      have HI0 := Lib.hid (show Ints y (some ⟨bb0, 0, none⟩) 3 (ltI [0, 1, 2]) from ints_lit [0, 1, 2] hy.2)
      simp only [List.getElem_toArray, List.getElem_cons_zero, List.getElem_cons_succ]
      go_big_quiet_step ((with_reducible refine calls_later (K26.out bb0 _ (g0.trans ((Later.h _).mono g0.size)) (ints_below HI0.out (Later.h _)))))
      exact wpQuiet_nil hK1
    simp only [Act.put, List.getElem_toArray, List.getElem_cons_zero, List.getElem_cons_succ, List.setIfInBounds_toArray, List.set_cons_zero, List.set_cons_succ]
    refine run_take (i := 4) (.tuple #[.int .i64 3, .int .i64 0]) rfl (by kernel_rfl) (by kernel_rfl) (by kernel_rfl) rfl (fun y h => h) (fun y _ => by go_simp) ?_
    simp only [Act.put, List.getElem_toArray, List.getElem_cons_zero, List.getElem_cons_succ, List.setIfInBounds_toArray, List.set_cons_zero, List.set_cons_succ]
    refine run_take (i := 5) (.int .i64 3) rfl (by kernel_rfl) (by kernel_rfl) (by kernel_rfl) rfl (fun y h => h) (fun y _ => by go_simp) ?_
    simp only [Act.put, List.getElem_toArray, List.getElem_cons_zero, List.getElem_cons_succ, List.setIfInBounds_toArray, List.set_cons_zero, List.set_cons_succ]
    refine run_take (i := 6) (.int .i64 0) rfl (by kernel_rfl) (by kernel_rfl) (by kernel_rfl) rfl (fun y h => h) (fun y _ => by go_simp) ?_
    simp only [Act.put, List.getElem_toArray, List.getElem_cons_zero, List.getElem_cons_succ, List.setIfInBounds_toArray, List.set_cons_zero, List.set_cons_succ]
    refine run_take (i := 7) (.int .i64 3) rfl (by kernel_rfl) (by kernel_rfl) (by kernel_rfl) rfl (fun y h => h) (fun y _ => by go_simp) ?_
    simp only [Act.put, List.getElem_toArray, List.getElem_cons_zero, List.getElem_cons_succ, List.setIfInBounds_toArray, List.set_cons_zero, List.set_cons_succ]
    refine run_take (i := 8) (.int .i64 0) rfl (by kernel_rfl) (by kernel_rfl) (by kernel_rfl) rfl (fun y h => h) (fun y _ => by go_simp) ?_
    simp only [Act.put, List.getElem_toArray, List.getElem_cons_zero, List.getElem_cons_succ, List.setIfInBounds_toArray, List.set_cons_zero, List.set_cons_succ]
    exact ⟨by kernel_rfl, fun y hy => fin bb0 y hy.1⟩
  intro b29 y27 hy28
  clear K26
  replace H3 := Lib.hid (H3.out.below hy28)
  replace H2 := Lib.hid (H2.out.below hy28)
  replace B1 := Lib.hid (RowIs.below B1.out hy28)
  replace B2 := Lib.hid (RowIs.below B2.out hy28)
  replace HD := Lib.hid (ints_below HD.out hy28)
  replace HX := Lib.hid (ints_below HX.out hy28)
  replace HY := Lib.hid (ints_below HY.out hy28)
  replace HP := Lib.hid (ints_below HP.out hy28)
  replace HQ := Lib.hid (ints_below HQ.out hy28)
  replace hB := bup hB hy28
  have K30 := Lib.hid (fun (q : Nat) (V : World) (hV : Below y27.heap.size y27 V) (hI : Ints V (some ⟨q, 0, none⟩) 3 (ltI [0, 1, 2])) => k_Short1 p3 k3 V (some ⟨q, 0, none⟩) (H3.out.below hV) hI)
  go_wp2_with fail
  clear hy28
  apply cut1 (w0 := y27)
  case main =>
    intro fin
    refine wp_region_runF (C := fun x => Below y27.heap.size y27 x) (fun x => Below y27.heap.size y27 x) (by kernel_rfl) (stable_below y27) (Below.refl _ _) ?_
    change Run _ _ _ _ _ 9 _ _ _
    refine run_take (i := 0) (.agg #[.int .i64 3, .int .i64 3, .slice p3 5 k3]) rfl (by kernel_rfl) (by kernel_rfl) (by kernel_rfl) rfl (fun y h => h) (fun y hy => by obtain ⟨r0, r1, r2, rz⟩ := bookcells (RowIs.below B1.out hy); go_simp) ?_
    simp only [Act.put, List.getElem_toArray, List.getElem_cons_zero, List.setIfInBounds_toArray, List.set_cons_zero, List.set_cons_succ]
    refine run_only (i := 1) (by kernel_rfl) (at_make (w0 := y27) (t := 77) (z := .cells #[.int .i64 0, .int .i64 1, .int .i64 2] 3 (0, 0)) (fun q => .slice (some ⟨q, 0, none⟩) 3 3) (fun _ => False) slice_inj rfl rfl rfl (fun y _ => by go_simp) (fun y h => h.size) (fun _ _ _ h => h.elim) ?_)
    intro bb0 hbb0 _
    simp only [Act.put, List.setIfInBounds_toArray, List.set_cons_zero, List.set_cons_succ]
    refine run_strong (C' := fun x => (Below y27.heap.size y27 x) ∧ x.heap[bb0]? = some (.cells #[.int .i64 0, .int .i64 1, .int .i64 2] 3 (0, 0))) (fun x h => h.1) _ _ _ _ ?_
    refine run_takeQ (i := 2) (.slice (some ⟨bb0, 0, none⟩) 3 3) rfl (by kernel_rfl) (by kernel_rfl) (by kernel_rfl) (fun y h => h) (quiet_of_walk rfl rfl (by simp) (fun y hy K1 hK1 => ?_)) ?_
    · have g0 : Below y27.heap.size y27 y := hy.1
      have HI0 := Lib.hid (show Ints y (some ⟨bb0, 0, none⟩) 3 (ltI [0, 1, 2]) from ints_lit [0, 1, 2] hy.2)
      simp only [List.getElem_toArray, List.getElem_cons_zero, List.getElem_cons_succ]
      go_big_quiet_step ((with_reducible refine calls_later_same (of_c _ _ _ _)))
      exact wpQuiet_nil hK1
    simp only [Act.put, List.getElem_toArray, List.getElem_cons_zero, List.getElem_cons_succ, List.setIfInBounds_toArray, List.set_cons_zero, List.set_cons_succ]
    refine run_takeQ (i := 3) (.tuple #[.int .i64 1, .int .i64 0]) rfl (by kernel_rfl) (by kernel_rfl) (by kernel_rfl) (fun y h => h) (quiet_of_walk rfl rfl (by simp) (fun y hy K1 hK1 => ?_)) ?_
    · have g0 : Below y27.heap.size y27 y := hy.1
      have HI0 := Lib.hid (show Ints y (some ⟨bb0, 0, none⟩) 3 (ltI [0, 1, 2]) from ints_lit [0, 1, 2] hy.2)
      simp only [List.getElem_toArray, List.getElem_cons_zero, List.getElem_cons_succ]
      go_big_quiet_step ((with_reducible refine calls_later (K30.out bb0 _ (g0.trans ((Later.h _).mono g0.size)) (ints_below HI0.out (Later.h _)))))
      exact wpQuiet_nil hK1
    simp only [Act.put, List.getElem_toArray, List.getElem_cons_zero, List.getElem_cons_succ, List.setIfInBounds_toArray, List.set_cons_zero, List.set_cons_succ]
    refine run_take (i := 4) (.tuple #[.int .i64 1, .int .i64 0]) rfl (by kernel_rfl) (by kernel_rfl) (by kernel_rfl) rfl (fun y h => h) (fun y _ => by go_simp) ?_
    simp only [Act.put, List.getElem_toArray, List.getElem_cons_zero, List.getElem_cons_succ, List.setIfInBounds_toArray, List.set_cons_zero, List.set_cons_succ]
    refine run_take (i := 5) (.int .i64 1) rfl (by kernel_rfl) (by kernel_rfl) (by kernel_rfl) rfl (fun y h => h) (fun y _ => by go_simp) ?_
    simp only [Act.put, List.getElem_toArray, List.getElem_cons_zero, List.getElem_cons_succ, List.setIfInBounds_toArray, List.set_cons_zero, List.set_cons_succ]
    refine run_take (i := 6) (.int .i64 0) rfl (by kernel_rfl) (by kernel_rfl) (by kernel_rfl) rfl (fun y h => h) (fun y _ => by go_simp) ?_
    simp only [Act.put, List.getElem_toArray, List.getElem_cons_zero, List.getElem_cons_succ, List.setIfInBounds_toArray, List.set_cons_zero, List.set_cons_succ]
    refine run_take (i := 7) (.int .i64 1) rfl (by kernel_rfl) (by kernel_rfl) (by kernel_rfl) rfl (fun y h => h) (fun y _ => by go_simp) ?_
    simp only [Act.put, List.getElem_toArray, List.getElem_cons_zero, List.getElem_cons_succ, List.setIfInBounds_toArray, List.set_cons_zero, List.set_cons_succ]
    refine run_take (i := 8) (.int .i64 0) rfl (by kernel_rfl) (by kernel_rfl) (by kernel_rfl) rfl (fun y h => h) (fun y _ => by go_simp) ?_
    simp only [Act.put, List.getElem_toArray, List.getElem_cons_zero, List.getElem_cons_succ, List.setIfInBounds_toArray, List.set_cons_zero, List.set_cons_succ]
    exact ⟨by kernel_rfl, fun y hy => fin bb0 y hy.1⟩
  intro b33 y31 hy32
  clear K30
  replace H3 := Lib.hid (H3.out.below hy32)
  replace H2 := Lib.hid (H2.out.below hy32)
  replace B1 := Lib.hid (RowIs.below B1.out hy32)
  replace B2 := Lib.hid (RowIs.below B2.out hy32)
  replace HD := Lib.hid (ints_below HD.out hy32)
  replace HX := Lib.hid (ints_below HX.out hy32)
  replace HY := Lib.hid (ints_below HY.out hy32)
  replace HP := Lib.hid (ints_below HP.out hy32)
  replace HQ := Lib.hid (ints_below HQ.out hy32)
  replace hB := bup hB hy32
  have K34 := Lib.hid (fun (q : Nat) (V : World) (hV : Below y31.heap.size y31 V) (hI : Ints V (some ⟨q, 0, none⟩) 2 (ltI [0, 1])) => k_Short2 p3 k3 V (some ⟨q, 0, none⟩) (H3.out.below hV) hI)
  go_wp2_with fail
  clear hy32
  apply cut1 (w0 := y31)
  case main =>
    intro fin
    refine wp_region_runF (C := fun x => Below y31.heap.size y31 x) (fun x => Below y31.heap.size y31 x) (by kernel_rfl) (stable_below y31) (Below.refl _ _) ?_
    change Run _ _ _ _ _ 9 _ _ _
    refine run_take (i := 0) (.agg #[.int .i64 3, .int .i64 3, .slice p3 5 k3]) rfl (by kernel_rfl) (by kernel_rfl) (by kernel_rfl) rfl (fun y h => h) (fun y hy => by obtain ⟨r0, r1, r2, rz⟩ := bookcells (RowIs.below B1.out hy); go_simp) ?_
    simp only [Act.put, List.getElem_toArray, List.getElem_cons_zero, List.setIfInBounds_toArray, List.set_cons_zero, List.set_cons_succ]
    refine run_only (i := 1) (by kernel_rfl) (at_make (w0 := y31) (t := 84) (z := .cells #[.int .i64 0, .int .i64 1] 3 (0, 0)) (fun q => .slice (some ⟨q, 0, none⟩) 2 2) (fun _ => False) slice_inj rfl rfl rfl (fun y _ => by go_simp) (fun y h => h.size) (fun _ _ _ h => h.elim) ?_)
    intro bb0 hbb0 _
    simp only [Act.put, List.setIfInBounds_toArray, List.set_cons_zero, List.set_cons_succ]
    refine run_strong (C' := fun x => (Below y31.heap.size y31 x) ∧ x.heap[bb0]? = some (.cells #[.int .i64 0, .int .i64 1] 3 (0, 0))) (fun x h => h.1) _ _ _ _ ?_
    refine run_takeQ (i := 2) (.slice (some ⟨bb0, 0, none⟩) 2 2) rfl (by kernel_rfl) (by kernel_rfl) (by kernel_rfl) (fun y h => h) (quiet_of_walk rfl rfl (by simp) (fun y hy K1 hK1 => ?_)) ?_
    · have g0 : Below y31.heap.size y31 y := hy.1
      have HI0 := Lib.hid (show Ints y (some ⟨bb0, 0, none⟩) 2 (ltI [0, 1]) from ints_lit [0, 1] hy.2)
      simp only [List.getElem_toArray, List.getElem_cons_zero, List.getElem_cons_succ]
      go_big_quiet_step ((with_reducible refine calls_later_same (of_c _ _ _ _)))
      exact wpQuiet_nil hK1
    simp only [Act.put, List.getElem_toArray, List.getElem_cons_zero, List.getElem_cons_succ, List.setIfInBounds_toArray, List.set_cons_zero, List.set_cons_succ]
    refine run_takeQ (i := 3) (.tuple #[.int .i64 0, .int .i64 14]) rfl (by kernel_rfl) (by kernel_rfl) (by kernel_rfl) (fun y h => h) (quiet_of_walk rfl rfl (by simp) (fun y hy K1 hK1 => ?_)) ?_
    · have g0 : Below y31.heap.size y31 y := hy.1
      have HI0 := Lib.hid (show Ints y (some ⟨bb0, 0, none⟩) 2 (ltI [0, 1]) from ints_lit [0, 1] hy.2)
      simp only [List.getElem_toArray, List.getElem_cons_zero, List.getElem_cons_succ]
      go_big_quiet_step ((with_reducible refine calls_later (K34.out bb0 _ (g0.trans ((Later.h _).mono g0.size)) (ints_below HI0.out (Later.h _)))))
      exact wpQuiet_nil hK1
    simp only [Act.put, List.getElem_toArray, List.getElem_cons_zero, List.getElem_cons_succ, List.setIfInBounds_toArray, List.set_cons_zero, List.set_cons_succ]
    refine run_take (i := 4) (.tuple #[.int .i64 0, .int .i64 14]) rfl (by kernel_rfl) (by kernel_rfl) (by kernel_rfl) rfl (fun y h => h) (fun y _ => by go_simp) ?_
    simp only [Act.put, List.getElem_toArray, List.getElem_cons_zero, List.getElem_cons_succ, List.setIfInBounds_toArray, List.set_cons_zero, List.set_cons_succ]
    refine run_take (i := 5) (.int .i64 0) rfl (by kernel_rfl) (by kernel_rfl) (by kernel_rfl) rfl (fun y h => h) (fun y _ => by go_simp) ?_
    simp only [Act.put, List.getElem_toArray, List.getElem_cons_zero, List.getElem_cons_succ, List.setIfInBounds_toArray, List.set_cons_zero, List.set_cons_succ]
    refine run_take (i := 6) (.int .i64 14) rfl (by kernel_rfl) (by kernel_rfl) (by kernel_rfl) rfl (fun y h => h) (fun y _ => by go_simp) ?_
    simp only [Act.put, List.getElem_toArray, List.getElem_cons_zero, List.getElem_cons_succ, List.setIfInBounds_toArray, List.set_cons_zero, List.set_cons_succ]
    refine run_take (i := 7) (.int .i64 0) rfl (by kernel_rfl) (by kernel_rfl) (by kernel_rfl) rfl (fun y h => h) (fun y _ => by go_simp) ?_
    simp only [Act.put, List.getElem_toArray, List.getElem_cons_zero, List.getElem_cons_succ, List.setIfInBounds_toArray, List.set_cons_zero, List.set_cons_succ]
    refine run_take (i := 8) (.int .i64 14) rfl (by kernel_rfl) (by kernel_rfl) (by kernel_rfl) rfl (fun y h => h) (fun y _ => by go_simp) ?_
    simp only [Act.put, List.getElem_toArray, List.getElem_cons_zero, List.getElem_cons_succ, List.setIfInBounds_toArray, List.set_cons_zero, List.set_cons_succ]
    exact ⟨by kernel_rfl, fun y hy => fin bb0 y hy.1⟩
  intro b37 y35 hy36
  clear K34
  replace H3 := Lib.hid (H3.out.below hy36)
  replace H2 := Lib.hid (H2.out.below hy36)
  replace B1 := Lib.hid (RowIs.below B1.out hy36)
  replace B2 := Lib.hid (RowIs.below B2.out hy36)
  replace HD := Lib.hid (ints_below HD.out hy36)
  replace HX := Lib.hid (ints_below HX.out hy36)
  replace HY := Lib.hid (ints_below HY.out hy36)
  replace HP := Lib.hid (ints_below HP.out hy36)
  replace HQ := Lib.hid (ints_below HQ.out hy36)
  replace hB := bup hB hy36
  obtain ⟨X38, hX38⟩ : ∃ X38, y35.alloc (.cells #[.int .i64 1, .int .i64 1, .int .i64 2] 3) = X38 := ⟨_, rfl⟩
  have hx39 : Below y35.heap.size y35 X38 := by rw [← hX38]; exact Below.alloc1 (Below.refl _ _) _ (Nat.le_refl _)
  have HZ := Lib.hid (show Ints X38 (some ⟨y35.heap.size, 0, none⟩) 3 (ltI [1, 1, 2]) by rw [← hX38]; exact ints_new y35 _ (0, 0) [1, 1, 2])
  replace H3 := Lib.hid (H3.out.below hx39)
  replace H2 := Lib.hid (H2.out.below hx39)
  replace B1 := Lib.hid (RowIs.below B1.out hx39)
  replace B2 := Lib.hid (RowIs.below B2.out hx39)
  replace HD := Lib.hid (ints_below HD.out hx39)
  replace HX := Lib.hid (ints_below HX.out hx39)
  replace HY := Lib.hid (ints_below HY.out hx39)
  replace HP := Lib.hid (ints_below HP.out hx39)
  replace HQ := Lib.hid (ints_below HQ.out hx39)
  replace hB := bup hB hx39
  have cC40 := Ints_c (some ⟨x1, 0, none⟩) 3 3 (ltI [1, 1, 2]) (some ⟨y35.heap.size, 0, none⟩) 3 3 (ltI [1, 1, 2]) X38 HX.out HZ.out (by omega)
  rw [show intsB 3 (ltI [1, 1, 2]) 3 (ltI [1, 1, 2]) = true from intsB_yes fun _ _ => rfl] at cC40
  have C40 := Lib.hid cC40
  clear cC40 HZ
  go_wp2_with (go_at_call 46; refine (of_c _ _ _ _).mono ?_; rintro e w' ⟨rfl, rfl⟩)
  clear hy36 hX38 hx39
  refine C40.out.mono ?_
  rintro e w41 ⟨rfl, hw42⟩
  clear C40
  replace H3 := Lib.hid (H3.out.below hw42)
  replace H2 := Lib.hid (H2.out.below hw42)
  replace B1 := Lib.hid (RowIs.below B1.out hw42)
  replace B2 := Lib.hid (RowIs.below B2.out hw42)
  replace HD := Lib.hid (ints_below HD.out hw42)
  replace HX := Lib.hid (ints_below HX.out hw42)
  replace HY := Lib.hid (ints_below HY.out hw42)
  replace HP := Lib.hid (ints_below HP.out hw42)
  replace HQ := Lib.hid (ints_below HQ.out hw42)
  replace hB := bup hB hw42
  obtain ⟨X43, hX43⟩ : ∃ X43, w41.alloc (.cells #[.int .i64 2, .int .i64 2] 3) = X43 := ⟨_, rfl⟩
  have hx44 : Below w41.heap.size w41 X43 := by rw [← hX43]; exact Below.alloc1 (Below.refl _ _) _ (Nat.le_refl _)
  have HZ := Lib.hid (show Ints X43 (some ⟨w41.heap.size, 0, none⟩) 2 (ltI [2, 2]) by rw [← hX43]; exact ints_new w41 _ (0, 0) [2, 2])
  replace H3 := Lib.hid (H3.out.below hx44)
  replace H2 := Lib.hid (H2.out.below hx44)
  replace B1 := Lib.hid (RowIs.below B1.out hx44)
  replace B2 := Lib.hid (RowIs.below B2.out hx44)
  replace HD := Lib.hid (ints_below HD.out hx44)
  replace HX := Lib.hid (ints_below HX.out hx44)
  replace HY := Lib.hid (ints_below HY.out hx44)
  replace HP := Lib.hid (ints_below HP.out hx44)
  replace HQ := Lib.hid (ints_below HQ.out hx44)
  replace hB := bup hB hx44
  have cC45 := Ints_c (some ⟨x2, 0, none⟩) 2 2 (ltI [2, 2]) (some ⟨w41.heap.size, 0, none⟩) 2 2 (ltI [2, 2]) X43 HY.out HZ.out (by omega)
  rw [show intsB 2 (ltI [2, 2]) 2 (ltI [2, 2]) = true from intsB_yes fun _ _ => rfl] at cC45
  have C45 := Lib.hid cC45
  clear cC45 HZ
  go_wp2_with (go_at_call 46; refine (of_c _ _ _ _).mono ?_; rintro e w' ⟨rfl, rfl⟩)
  clear hw42 hX43 hx44
  refine C45.out.mono ?_
  rintro e w46 ⟨rfl, hw47⟩
  clear C45
  replace H3 := Lib.hid (H3.out.below hw47)
  replace H2 := Lib.hid (H2.out.below hw47)
  replace B1 := Lib.hid (RowIs.below B1.out hw47)
  replace B2 := Lib.hid (RowIs.below B2.out hw47)
  replace HD := Lib.hid (ints_below HD.out hw47)
  replace HX := Lib.hid (ints_below HX.out hw47)
  replace HY := Lib.hid (ints_below HY.out hw47)
  replace HP := Lib.hid (ints_below HP.out hw47)
  replace HQ := Lib.hid (ints_below HQ.out hw47)
  replace hB := bup hB hw47
  obtain ⟨X48, hX48⟩ : ∃ X48, w46.alloc (.cells #[.int .i64 0, .int .i64 1, .int .i64 2, .int .i64 3] 3) = X48 := ⟨_, rfl⟩
  have hx49 : Below w46.heap.size w46 X48 := by rw [← hX48]; exact Below.alloc1 (Below.refl _ _) _ (Nat.le_refl _)
  have HZ := Lib.hid (show Ints X48 (some ⟨w46.heap.size, 0, none⟩) 4 (ltI [0, 1, 2, 3]) by rw [← hX48]; exact ints_new w46 _ (0, 0) [0, 1, 2, 3])
  replace H3 := Lib.hid (H3.out.below hx49)
  replace H2 := Lib.hid (H2.out.below hx49)
  replace B1 := Lib.hid (RowIs.below B1.out hx49)
  replace B2 := Lib.hid (RowIs.below B2.out hx49)
  replace HD := Lib.hid (ints_below HD.out hx49)
  replace HX := Lib.hid (ints_below HX.out hx49)
  replace HY := Lib.hid (ints_below HY.out hx49)
  replace HP := Lib.hid (ints_below HP.out hx49)
  replace HQ := Lib.hid (ints_below HQ.out hx49)
  replace hB := bup hB hx49
  have cC50 := Ints_c x5 4 k5 (ltI [0, 1, 2, 3]) (some ⟨w46.heap.size, 0, none⟩) 4 4 (ltI [0, 1, 2, 3]) X48 HP.out HZ.out (by omega)
  rw [show intsB 4 (ltI [0, 1, 2, 3]) 4 (ltI [0, 1, 2, 3]) = true from intsB_yes fun _ _ => rfl] at cC50
  have C50 := Lib.hid cC50
  clear cC50 HZ
  go_wp2_with (go_at_call 46; refine (of_c _ _ _ _).mono ?_; rintro e w' ⟨rfl, rfl⟩)
  clear hw47 hX48 hx49
  refine C50.out.mono ?_
  rintro e w51 ⟨rfl, hw52⟩
  clear C50
  replace H3 := Lib.hid (H3.out.below hw52)
  replace H2 := Lib.hid (H2.out.below hw52)
  replace B1 := Lib.hid (RowIs.below B1.out hw52)
  replace B2 := Lib.hid (RowIs.below B2.out hw52)
  replace HD := Lib.hid (ints_below HD.out hw52)
  replace HX := Lib.hid (ints_below HX.out hw52)
  replace HY := Lib.hid (ints_below HY.out hw52)
  replace HP := Lib.hid (ints_below HP.out hw52)
  replace HQ := Lib.hid (ints_below HQ.out hw52)
  replace hB := bup hB hw52
  obtain ⟨X53, hX53⟩ : ∃ X53, w51.alloc (.cells #[.int .i64 4] 3) = X53 := ⟨_, rfl⟩
  have hx54 : Below w51.heap.size w51 X53 := by rw [← hX53]; exact Below.alloc1 (Below.refl _ _) _ (Nat.le_refl _)
  have HZ := Lib.hid (show Ints X53 (some ⟨w51.heap.size, 0, none⟩) 1 (ltI [4]) by rw [← hX53]; exact ints_new w51 _ (0, 0) [4])
  replace H3 := Lib.hid (H3.out.below hx54)
  replace H2 := Lib.hid (H2.out.below hx54)
  replace B1 := Lib.hid (RowIs.below B1.out hx54)
  replace B2 := Lib.hid (RowIs.below B2.out hx54)
  replace HD := Lib.hid (ints_below HD.out hx54)
  replace HX := Lib.hid (ints_below HX.out hx54)
  replace HY := Lib.hid (ints_below HY.out hx54)
  replace HP := Lib.hid (ints_below HP.out hx54)
  replace HQ := Lib.hid (ints_below HQ.out hx54)
  replace hB := bup hB hx54
  have cC55 := Ints_c x6 1 k6 (ltI [4]) (some ⟨w51.heap.size, 0, none⟩) 1 1 (ltI [4]) X53 HQ.out HZ.out (by omega)
  rw [show intsB 1 (ltI [4]) 1 (ltI [4]) = true from intsB_yes fun _ _ => rfl] at cC55
  have C55 := Lib.hid cC55
  clear cC55 HZ
  go_wp2_with (go_at_call 46; refine (of_c _ _ _ _).mono ?_; rintro e w' ⟨rfl, rfl⟩)
  clear hw52 hX53 hx54
  refine C55.out.mono ?_
  rintro e w56 ⟨rfl, hw57⟩
  clear C55
  replace H3 := Lib.hid (H3.out.below hw57)
  replace H2 := Lib.hid (H2.out.below hw57)
  replace B1 := Lib.hid (RowIs.below B1.out hw57)
  replace B2 := Lib.hid (RowIs.below B2.out hw57)
  replace HD := Lib.hid (ints_below HD.out hw57)
  replace HX := Lib.hid (ints_below HX.out hw57)
  replace HY := Lib.hid (ints_below HY.out hw57)
  replace HP := Lib.hid (ints_below HP.out hw57)
  replace HQ := Lib.hid (ints_below HQ.out hw57)
  replace hB := bup hB hw57
  have C58 := Lib.hid (k_Book p2 k2 w56 H2.out)
  obtain ⟨r0, r1, r2, rz⟩ := bookcells B2.out
  go_wp2_with fail
  clear hw57 r0 r1 r2 rz
  refine C58.out.mono ?_
  rintro e w59 ⟨rfl, hw60⟩
  clear C58
  replace H3 := Lib.hid (H3.out.below hw60)
  replace H2 := Lib.hid (H2.out.below hw60)
  replace B1 := Lib.hid (RowIs.below B1.out hw60)
  replace B2 := Lib.hid (RowIs.below B2.out hw60)
  replace HD := Lib.hid (ints_below HD.out hw60)
  replace HX := Lib.hid (ints_below HX.out hw60)
  replace HY := Lib.hid (ints_below HY.out hw60)
  replace HP := Lib.hid (ints_below HP.out hw60)
  replace HQ := Lib.hid (ints_below HQ.out hw60)
  replace hB := bup hB hw60
  go_wp2_with fail
  refine (works_c _).mono ?_
  rintro e wz ⟨rfl, hbz⟩
  go_wp2_with fail
  go_ret
  exact ⟨rfl, bup hB hbz⟩

end Go.Proofs.Ytbjgbgchagfokaa

namespace Go.Proofs.Ytbjgbgchagfokaa
open Go Go.RowKit Go.ChangeShapes Go.WideShapes Go.ChangeAt

theorem own_known : ownKnob Try.prog.godebug = .none := by kernel_rfl

set_option maxRecDepth 100000 in
theorem known_lifted (os : Os) (started : os.Started) (H : Type) (enc : TypeId × Value → H) :
    ReturnsInHanded {} Try.checked os 14 .any (Rows.mouldKnownSpec.pre6 enc Try.prog Try.f14 Rows.mouldKnownRow.domain false) (Rows.mouldKnownSpec.post enc Try.prog Try.f14 false true false false) := by
  refine returnsInHanded_of_change (C := Try.checked) own_known started (by kernel_rfl) Try.func14
    (ChangeSpec.witness6 (enc := enc) (C := Try.checked) false ⟨#[], #[], []⟩ 8 (by kernel_rfl) (by kernel_rfl) (by kernel_rfl) (by kernel_rfl)) ?_
  intro W base args ds gs before hval0 hW hcnd _
  have hW' := hW
  obtain ⟨p, q, hA0, hV, rfl, hfz, hnd⟩ := hW
  have hA : DataW.TrodAll enc Try.prog W 0 (fun _ => true) true Try.f14.params.toList args.toList ds p := hA0
  rw [Try.params14] at hA
  obtain ⟨hargs, rfl, rfl⟩ := trodAll_none hA
  obtain rfl : args = #[] := by cases args; simp_all
  obtain ⟨rfl, rfl⟩ := trodVars_none hV
  refine (law_known_c W).mono fun e W' ⟨he, hb⟩ => ?_
  subst he
  exact ⟨_, rfl, _, _, _, [], [], [], hW', trodAll_mk1 (shut_bool Try.underlying4 true), trodAll_mk0, rfl, hb.frame _, fun h => Bool.noConfusion h⟩

theorem known_holds : Rows.MouldKnownSaid :=
  OpenClaim.holds_of_wide 14 Try.f14 rfl rfl rfl rfl rfl rfl rfl ⟨rfl, rfl, rfl, rfl, rfl⟩ rfl rfl rfl rfl rfl (by kernel_rfl) Try.func14 (by kernel_rfl)
    (of_decide_eq_true (by kernel_rfl)) (by unfold Func.isWrapper; first | (rw [if_pos (by decide +kernel)]; kernel_rfl) | (rw [if_neg (by decide +kernel)]; exact ⟨rfl, rfl⟩))
    (fun os started H enc _ => known_lifted os started H enc)
end Go.Proofs.Ytbjgbgchagfokaa
