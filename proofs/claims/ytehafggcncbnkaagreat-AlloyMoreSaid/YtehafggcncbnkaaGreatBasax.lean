/- The law AlloyKnown answers true. Written by tools/lawknown.py. -/
import Derived.Test.YtehafggcncbnkaaGreatProg
import Derived.Test.YtehafggcncbnkaaGreatBasab
import Derived.Test.YtehafggcncbnkaaGreatBasaq
import Derived.Test.YtehafggcncbnkaaGreatBasaa
import Derived.ProofKit
import Derived.OpenShut
import Derived.Deep.Slices
import Derived.Deep.RegionHeld
import Derived.Lib.SmallJoins
import Derived.Test.YtehafggcncbnkaaGreatBasas
namespace Go.Proofs.YtehafggcncbnkaaGreat
open Go Go.RowKit

set_option maxRecDepth 100000 in
theorem k_cost : costR 4 fourM 4 (lst [1, 1, 0, 0]) = (55, 1, 0) := by kernel_rfl
set_option maxRecDepth 100000 in
theorem k_ends : endsR 4 fourM 4 (lst [0, 0, 0, 1]) true = ((10, 1), (20, 1), 0) := by kernel_rfl
set_option maxRecDepth 100000 in
theorem k_least : leastR 2 twoM 100 10 false = (0, 0, 17) := by kernel_rfl
set_option maxRecDepth 100000 in
theorem k_prf1 : checkProofR 4 fourM 100 10 true ⟨1, 90, 0, 0⟩ = (0, 0, 14) := by kernel_rfl
set_option maxRecDepth 100000 in
theorem k_prf2 : checkProofR 4 fourM 100 10 true ⟨0, 0, 0, 0⟩ = (0, 0, 3) := by kernel_rfl
set_option maxRecDepth 100000 in
theorem k_nev : checkNeverE 2 twoM 100 10 true ⟨1, 220, 1, 0⟩ = 3 := by kernel_rfl
set_option maxRecDepth 100000 in
theorem k_share : shareR 4 fourM 100 10 true 0 = ((0, 1), (99, 100), 0) := by kernel_rfl
set_option maxRecDepth 100000 in
theorem k_metals : metalsE 4 fourM = 0 := by kernel_rfl
theorem k_touch : touchE 100 10 = 0 := by kernel_rfl

set_option maxRecDepth 100000 in
set_option maxHeartbeats 16000000 in
theorem law_known_c (w : World) : Calls Tryz.prog 16 #[] w fun e w' => e = .returned (.bool true) ∧ Below w.heap.size w w' := by
  go_enter Tryz.func16, Tryz.ntmps16
  go_wp2_with fail
  refine (four_c _).mono ?_
  rintro e w1 ⟨gm, rfl, hM, hb1⟩
  go_wp2_with fail
  refine (two_c _).mono ?_
  rintro e w2 ⟨gv, rfl, hV, hb2⟩
  go_wp2_with fail
  refine (touchT_c _).mono ?_
  rintro e w3 ⟨rfl, hb3⟩
  obtain ⟨Y0, hY0⟩ : ∃ Y0, w3.alloc (.cells #[.int .i64 100, .int .i64 10] 24) = Y0 := ⟨_, rfl⟩
  have hb4 : Below w3.heap.size w3 Y0 := by rw [← hY0]; exact Below.alloc1 (Below.refl _ _) _ (Nat.le_refl _)
  have HT := Lib.hid (show RowIs Y0 w3.heap.size #[.int .i64 100, .int .i64 10] 24 by rw [← hY0]; exact heap_new_at _ _ _ rfl)
  obtain ⟨bt, hbt⟩ : ∃ bt, w3.heap.size = bt := ⟨_, rfl⟩
  have HM := Lib.hid (hM.below (bup hb2 (bup hb3 hb4)))
  have HV := Lib.hid (hV.below (bup hb3 hb4))
  have hB := bup hb1 (bup hb2 (bup hb3 hb4))
  rw [hbt] at HT
  clear hM hV hb1 hb2 hb3 hb4
  obtain ⟨X1, hX1⟩ : ∃ X1, Y0.alloc (.cells #[.int .i64 1, .int .i64 1, .int .i64 0, .int .i64 0] 2) = X1 := ⟨_, rfl⟩
  have hx2 : Below Y0.heap.size Y0 X1 := by rw [← hX1]; exact Below.alloc1 (Below.refl _ _) _ (Nat.le_refl _)
  have HI := Lib.hid (show Ints X1 (some ⟨Y0.heap.size, 0, none⟩) 4 (lst [1, 1, 0, 0]) by rw [← hX1]; exact ints_new Y0 _ (0, 0) [1, 1, 0, 0])
  replace HM := Lib.hid (HM.out.below hx2)
  replace HV := Lib.hid (HV.out.below hx2)
  replace HT := Lib.hid (RowIs.below HT.out hx2)
  replace hB := bup hB hx2
  have hC3 := Cost_c (some ⟨gm, 0, none⟩) (some ⟨Y0.heap.size, 0, none⟩) 4 4 4 4 fourM (lst [1, 1, 0, 0]) X1 HM.out HI.out (by decide) (by decide)
  rw [k_cost] at hC3
  try dsimp only [re2, re3, proofV, zeroP] at hC3
  have C3 := Lib.hid hC3
  clear hC3
  go_wp2_with (go_at_call 53; refine (longs_c _ _).mono ?_; rintro e w' ⟨rfl, rfl⟩)
  clear hY0 hX1 hx2
  clear HI
  refine C3.out.mono ?_
  rintro e w4 ⟨rfl, hw5⟩
  clear C3
  replace HM := Lib.hid (HM.out.below hw5)
  replace HV := Lib.hid (HV.out.below hw5)
  replace HT := Lib.hid (RowIs.below HT.out hw5)
  replace hB := bup hB hw5
  obtain ⟨Y6, hY6⟩ : ∃ Y6, w4.alloc (.cells #[.int .i64 55, .int .i64 1] 29) = Y6 := ⟨_, rfl⟩
  have hy7 : Below w4.heap.size w4 Y6 := by rw [← hY6]; exact Below.alloc1 (Below.refl _ _) _ (Nat.le_refl _)
  replace HM := Lib.hid (HM.out.below hy7)
  replace HV := Lib.hid (HV.out.below hy7)
  replace HT := Lib.hid (RowIs.below HT.out hy7)
  replace hB := bup hB hy7
  have RA := Lib.hid (show RowIs Y6 w4.heap.size #[.int .i64 55, .int .i64 1] 29 by rw [← hY6]; exact heap_new_at _ _ _ rfl)
  obtain ⟨bRA, hbRA⟩ : ∃ bRA, w4.heap.size = bRA := ⟨_, rfl⟩
  rw [hbRA] at RA
  obtain ⟨X8, hX8⟩ : ∃ X8, Y6.alloc (.cells #[.int .i64 0, .int .i64 0, .int .i64 0, .int .i64 1] 2) = X8 := ⟨_, rfl⟩
  have hx9 : Below Y6.heap.size Y6 X8 := by rw [← hX8]; exact Below.alloc1 (Below.refl _ _) _ (Nat.le_refl _)
  have HI := Lib.hid (show Ints X8 (some ⟨Y6.heap.size, 0, none⟩) 4 (lst [0, 0, 0, 1]) by rw [← hX8]; exact ints_new Y6 _ (0, 0) [0, 0, 0, 1])
  replace HM := Lib.hid (HM.out.below hx9)
  replace HV := Lib.hid (HV.out.below hx9)
  replace HT := Lib.hid (RowIs.below HT.out hx9)
  replace RA := Lib.hid (RowIs.below RA.out hx9)
  replace hB := bup hB hx9
  have hC10 := Ends_c (some ⟨gm, 0, none⟩) (some ⟨Y6.heap.size, 0, none⟩) 4 4 4 4 fourM (lst [0, 0, 0, 1]) true X8 HM.out HI.out (by decide) (by decide)
  rw [k_ends] at hC10
  try dsimp only [re2, re3, proofV, zeroP] at hC10
  have C10 := Lib.hid hC10
  clear hC10
  go_wp2_with (go_at_call 53; refine (longs_c _ _).mono ?_; rintro e w' ⟨rfl, rfl⟩)
  clear hw5 hbRA hY6 hy7 hX8 hx9
  clear HI
  refine C10.out.mono ?_
  rintro e w11 ⟨rfl, hw12⟩
  clear C10
  replace HM := Lib.hid (HM.out.below hw12)
  replace HV := Lib.hid (HV.out.below hw12)
  replace HT := Lib.hid (RowIs.below HT.out hw12)
  replace RA := Lib.hid (RowIs.below RA.out hw12)
  replace hB := bup hB hw12
  obtain ⟨Y13, hY13⟩ : ∃ Y13, (w11.alloc (.cells #[.int .i64 10, .int .i64 1] 29)).alloc (.cells #[.int .i64 20, .int .i64 1] 29) = Y13 := ⟨_, rfl⟩
  have hy14 : Below w11.heap.size w11 Y13 := by rw [← hY13]; exact Below.alloc1 (Below.alloc1 (Below.refl _ _) _ (Nat.le_refl _)) _ (Nat.le_refl _)
  replace HM := Lib.hid (HM.out.below hy14)
  replace HV := Lib.hid (HV.out.below hy14)
  replace HT := Lib.hid (RowIs.below HT.out hy14)
  replace RA := Lib.hid (RowIs.below RA.out hy14)
  replace hB := bup hB hy14
  have RX := Lib.hid (show RowIs Y13 w11.heap.size #[.int .i64 10, .int .i64 1] 29 by rw [← hY13]; exact RowIs.alloc (heap_new_at _ _ _ rfl) _)
  have RY := Lib.hid (show RowIs Y13 (w11.heap.size + 1) #[.int .i64 20, .int .i64 1] 29 by rw [← hY13]; exact heap_new_at _ _ _ (by simp))
  obtain ⟨bRX, hbRX⟩ : ∃ bRX, w11.heap.size = bRX := ⟨_, rfl⟩
  rw [hbRX] at RX RY
  have hC15 := Least_c (some ⟨gv, 0, none⟩) 2 2 twoM 100 10 false Y13 HV.out (by decide)
  rw [k_least] at hC15
  try dsimp only [re2, re3, proofV, zeroP] at hC15
  have C15 := Lib.hid hC15
  clear hC15
  obtain ⟨tc0, tc1, _, _, tz⟩ := ratrow2 HT.out
  go_wp2_with fail
  clear hw12 hY13 hy14 hbRX tc0 tc1 tz
  refine C15.out.mono ?_
  rintro e w16 ⟨rfl, hw17⟩
  clear C15
  replace HM := Lib.hid (HM.out.below hw17)
  replace HV := Lib.hid (HV.out.below hw17)
  replace HT := Lib.hid (RowIs.below HT.out hw17)
  replace RA := Lib.hid (RowIs.below RA.out hw17)
  replace RX := Lib.hid (RowIs.below RX.out hw17)
  replace RY := Lib.hid (RowIs.below RY.out hw17)
  replace hB := bup hB hw17
  obtain ⟨Y18, hY18⟩ : ∃ Y18, w16.alloc (.cells #[.int .i64 0, .int .i64 0] 29) = Y18 := ⟨_, rfl⟩
  have hy19 : Below w16.heap.size w16 Y18 := by rw [← hY18]; exact Below.alloc1 (Below.refl _ _) _ (Nat.le_refl _)
  have zY18 : RowIs Y18 w16.heap.size #[.int .i64 0, .int .i64 0] 29 := by rw [← hY18]; exact heap_new_at _ _ _ rfl
  obtain ⟨yY180, yY181, yY182, yY183, yY184⟩ := ratrow2 zY18
  obtain ⟨Z20, hZ20⟩ : ∃ Z20, ((Y18.setCell ⟨w16.heap.size, 0, none⟩ (.int .i64 0)).setCell ⟨w16.heap.size, 1, none⟩ (.int .i64 0)) = Z20 := ⟨_, rfl⟩
  have hz21 : Below w16.heap.size w16 Z20 := hy19.trans (by rw [← hZ20]; exact (((Below.refl _ Y18).setCell (p := ⟨w16.heap.size, 0, none⟩) (Nat.le_refl _) _).setCell (p := ⟨w16.heap.size, 1, none⟩) (Nat.le_refl _) _))
  replace HM := Lib.hid (HM.out.below hz21)
  replace HV := Lib.hid (HV.out.below hz21)
  replace HT := Lib.hid (RowIs.below HT.out hz21)
  replace RA := Lib.hid (RowIs.below RA.out hz21)
  replace RX := Lib.hid (RowIs.below RX.out hz21)
  replace RY := Lib.hid (RowIs.below RY.out hz21)
  replace hB := bup hB hz21
  go_wp2_with fail
  clear hw17 hY18 hy19 zY18 yY180 yY181 yY182 yY183 yY184 hZ20 hz21
  have pC := fun (x : World) (hx : Below Z20.heap.size Z20 x) => CheckProof_c (some ⟨gm, 0, none⟩) 4 4 fourM 100 10 true ⟨1, 90, 0, 0⟩ x (HM.out.below hx) (by decide)
  simp only [k_prf1] at pC
  dsimp only [re2] at pC
  have PC := Lib.hid pC
  clear pC
  obtain ⟨tc0, tc1, _, _, tz⟩ := ratrow2 HT.out
  go_cut [11, 12] from 43 to 49 (fun e f wx => f = .int .i64 14 ∧ (∃ b, e = .pointer (some ⟨b, 0, none⟩)) ∧ Below Z20.heap.size Z20 wx)
  case first =>
    clear HV RA RX RY
    go_region_held3 (fun w' => w'.cell? ⟨bt, 0, none⟩ = some (.int .i64 100) ∧ w'.cell? ⟨bt, 1, none⟩ = some (.int .i64 10))
      (first | (go_split_ands; refine ⟨?_, ?_⟩ <;> first | assumption | exact Lib.cell?_alloc_some _ (by assumption) | (rw [World.cell?_setCell_far _ _ _ _ (by simp <;> omega), World.cell?_setCell_far _ _ _ _ (by simp <;> omega)]; assumption) | (go_keep; done)) | go_keep)
      ((first
        | (go_at_call 54; refine (proofT_c _ _ _ _ _).mono ?_; rintro e wp ⟨rfl, hbp⟩; have t0 : wp.cell? ⟨bt, 0, none⟩ = some (.int .i64 100) := (by (try go_split_ands); rw [hbp.cell (by first | assumption | (simp; omega))]; assumption); have t1 : wp.cell? ⟨bt, 1, none⟩ = some (.int .i64 10) := (by (try go_split_ands); rw [hbp.cell (by first | assumption | (simp; omega))]; assumption); have tq : bt < wp.heap.size := Nat.lt_of_lt_of_le (by first | assumption | (simp; omega)) hbp.size; have sswp : Z20.heap.size ≤ wp.heap.size := Nat.le_trans (by first | assumption | (simp <;> omega) | omega) hbp.size; (try (have hr0 : RowIs wp Z20.heap.size #[.int .i64 0, .int .i64 0] 29 := alloc_row hbp; obtain ⟨rhr00, rhr01, zhr00, zhr01, lhr0⟩ := ratrow2 hr0)); (try (have hr0 : RowIs wp Z20.heap.size #[.int .i64 0, .int .i64 0] 29 := alloc_row_drew hbp; obtain ⟨rhr00, rhr01, zhr00, zhr01, lhr0⟩ := ratrow2 hr0)))
        | (go_at_call 33; refine Calls.mono (PC.out _ ?_) ?_; (with_reducible repeat (first | exact Below.refl _ _ | assumption | refine bup ?_ (by assumption) | refine Below.alloc1 ?_ _ (Nat.le_refl _) | refine Below.drew ?_)); rintro e wq ⟨rfl, hbq⟩; have t0 : wq.cell? ⟨bt, 0, none⟩ = some (.int .i64 100) := (by (try go_split_ands); rw [hbq.cell (by first | assumption | (simp; omega))]; assumption); have t1 : wq.cell? ⟨bt, 1, none⟩ = some (.int .i64 10) := (by (try go_split_ands); rw [hbq.cell (by first | assumption | (simp; omega))]; assumption); have tq : bt < wq.heap.size := Nat.lt_of_lt_of_le (by first | assumption | (simp; omega)) hbq.size; have sswq : Z20.heap.size ≤ wq.heap.size := Nat.le_trans (by first | assumption | (simp <;> omega) | omega) hbq.size; (try (have hr1 : RowIs wq Z20.heap.size #[.int .i64 0, .int .i64 0] 29 := RowIs.below hr0 hbq; obtain ⟨rhr10, rhr11, zhr10, zhr11, lhr1⟩ := ratrow2 hr1)); (try (have hr2 : RowIs wq wp.heap.size #[.int .i64 0, .int .i64 0] 29 := alloc_row hbq; obtain ⟨rhr20, rhr21, zhr20, zhr21, lhr2⟩ := ratrow2 hr2)))
        | fail))
    all_goals (go_wp2_with fail; go_meet; refine ⟨rfl, ⟨_, rfl⟩, ?_⟩; (with_reducible repeat (first | exact Below.refl _ _ | assumption | refine bup ?_ (by assumption) | refine Below.alloc1 ?_ _ (Nat.le_refl _) | refine Below.drew ?_ | refine set2_below ?_ (by omega))))
  case rest =>
  obtain ⟨rfl, ⟨b22, rfl⟩, hcb⟩ := hcut
  clear PC tc0 tc1 tz
  obtain ⟨w23, hww⟩ : ∃ x, x = wc := ⟨_, rfl⟩
  subst hww
  replace HM := Lib.hid (HM.out.below hcb)
  replace HV := Lib.hid (HV.out.below hcb)
  replace HT := Lib.hid (RowIs.below HT.out hcb)
  replace RA := Lib.hid (RowIs.below RA.out hcb)
  replace RX := Lib.hid (RowIs.below RX.out hcb)
  replace RY := Lib.hid (RowIs.below RY.out hcb)
  replace hB := bup hB hcb
  go_wp2_with fail
  clear hcb
  have pC := fun (x : World) (hx : Below w23.heap.size w23 x) => CheckProof_c (some ⟨gm, 0, none⟩) 4 4 fourM 100 10 true ⟨0, 0, 0, 0⟩ x (HM.out.below hx) (by decide)
  simp only [k_prf2] at pC
  dsimp only [re2] at pC
  have PC := Lib.hid pC
  clear pC
  obtain ⟨tc0, tc1, _, _, tz⟩ := ratrow2 HT.out
  go_cut [13, 14] from 50 to 56 (fun e f wx => f = .int .i64 3 ∧ (∃ b, e = .pointer (some ⟨b, 0, none⟩)) ∧ Below w23.heap.size w23 wx)
  case first =>
    clear HV RA RX RY
    go_region_held3 (fun w' => w'.cell? ⟨bt, 0, none⟩ = some (.int .i64 100) ∧ w'.cell? ⟨bt, 1, none⟩ = some (.int .i64 10))
      (first | (go_split_ands; refine ⟨?_, ?_⟩ <;> first | assumption | exact Lib.cell?_alloc_some _ (by assumption) | (rw [World.cell?_setCell_far _ _ _ _ (by simp <;> omega), World.cell?_setCell_far _ _ _ _ (by simp <;> omega)]; assumption) | (go_keep; done)) | go_keep)
      ((first
        | (go_at_call 54; refine (proofT_c _ _ _ _ _).mono ?_; rintro e wp ⟨rfl, hbp⟩; have t0 : wp.cell? ⟨bt, 0, none⟩ = some (.int .i64 100) := (by (try go_split_ands); rw [hbp.cell (by first | assumption | (simp; omega))]; assumption); have t1 : wp.cell? ⟨bt, 1, none⟩ = some (.int .i64 10) := (by (try go_split_ands); rw [hbp.cell (by first | assumption | (simp; omega))]; assumption); have tq : bt < wp.heap.size := Nat.lt_of_lt_of_le (by first | assumption | (simp; omega)) hbp.size; have sswp : w23.heap.size ≤ wp.heap.size := Nat.le_trans (by first | assumption | (simp <;> omega) | omega) hbp.size; (try (have hr0 : RowIs wp w23.heap.size #[.int .i64 0, .int .i64 0] 29 := alloc_row hbp; obtain ⟨rhr00, rhr01, zhr00, zhr01, lhr0⟩ := ratrow2 hr0)); (try (have hr0 : RowIs wp w23.heap.size #[.int .i64 0, .int .i64 0] 29 := alloc_row_drew hbp; obtain ⟨rhr00, rhr01, zhr00, zhr01, lhr0⟩ := ratrow2 hr0)))
        | (go_at_call 33; refine Calls.mono (PC.out _ ?_) ?_; (with_reducible repeat (first | exact Below.refl _ _ | assumption | refine bup ?_ (by assumption) | refine Below.alloc1 ?_ _ (Nat.le_refl _) | refine Below.drew ?_)); rintro e wq ⟨rfl, hbq⟩; have t0 : wq.cell? ⟨bt, 0, none⟩ = some (.int .i64 100) := (by (try go_split_ands); rw [hbq.cell (by first | assumption | (simp; omega))]; assumption); have t1 : wq.cell? ⟨bt, 1, none⟩ = some (.int .i64 10) := (by (try go_split_ands); rw [hbq.cell (by first | assumption | (simp; omega))]; assumption); have tq : bt < wq.heap.size := Nat.lt_of_lt_of_le (by first | assumption | (simp; omega)) hbq.size; have sswq : w23.heap.size ≤ wq.heap.size := Nat.le_trans (by first | assumption | (simp <;> omega) | omega) hbq.size; (try (have hr1 : RowIs wq w23.heap.size #[.int .i64 0, .int .i64 0] 29 := RowIs.below hr0 hbq; obtain ⟨rhr10, rhr11, zhr10, zhr11, lhr1⟩ := ratrow2 hr1)); (try (have hr2 : RowIs wq wp.heap.size #[.int .i64 0, .int .i64 0] 29 := alloc_row hbq; obtain ⟨rhr20, rhr21, zhr20, zhr21, lhr2⟩ := ratrow2 hr2)))
        | fail))
    all_goals (go_wp2_with fail; go_meet; refine ⟨rfl, ⟨_, rfl⟩, ?_⟩; (with_reducible repeat (first | exact Below.refl _ _ | assumption | refine bup ?_ (by assumption) | refine Below.alloc1 ?_ _ (Nat.le_refl _) | refine Below.drew ?_ | refine set2_below ?_ (by omega))))
  case rest =>
  obtain ⟨rfl, ⟨b24, rfl⟩, hcb⟩ := hcut
  clear PC tc0 tc1 tz
  obtain ⟨w25, hww⟩ : ∃ x, x = wc := ⟨_, rfl⟩
  subst hww
  replace HM := Lib.hid (HM.out.below hcb)
  replace HV := Lib.hid (HV.out.below hcb)
  replace HT := Lib.hid (RowIs.below HT.out hcb)
  replace RA := Lib.hid (RowIs.below RA.out hcb)
  replace RX := Lib.hid (RowIs.below RX.out hcb)
  replace RY := Lib.hid (RowIs.below RY.out hcb)
  replace hB := bup hB hcb
  go_wp2_with fail
  clear hcb
  have n0 := fun (x : World) (hx : Below w25.heap.size w25 x) => CheckNever_c (some ⟨gv, 0, none⟩) 2 2 twoM 100 10 true ⟨1, 220, 1, 0⟩ x (HV.out.below hx) (by decide)
  simp only [k_nev] at n0
  have N0 := Lib.hid n0
  have T0 := Lib.hid (fun (x : World) => proofT_c 1 220 1 0 x)
  clear n0
  have BY := Lib.hid (fun (a b : Int) (x : World) => byT_c a b x)
  obtain ⟨v260, v261, _, _, v26z⟩ := ratrow2 HT.out
  have hlc := fun (x : Later w25) => later_cell x
  refine wp_region_later (by kernel_rfl) (by kernel_rfl) ?_
  repeat (go_big_quiet_step ((first | (with_reducible refine calls_later (BY.out _ _ _)) | (with_reducible refine calls_later (T0.out _)) | (with_reducible refine calls_later (N0.out _ (Later.h _))))))
  refine wpQuiet_nil ?_
  clear BY hlc T0 N0 v260 v261 v26z
  rintro ⟨w27, hw28⟩
  replace HM := Lib.hid (HM.out.below hw28)
  replace HV := Lib.hid (HV.out.below hw28)
  replace HT := Lib.hid (RowIs.below HT.out hw28)
  replace RA := Lib.hid (RowIs.below RA.out hw28)
  replace RX := Lib.hid (RowIs.below RX.out hw28)
  replace RY := Lib.hid (RowIs.below RY.out hw28)
  replace hB := bup hB hw28
  have hC29 := Share_c (some ⟨gm, 0, none⟩) 4 4 fourM 100 10 true 0 w27 HM.out (by decide) (by decide)
  rw [k_share] at hC29
  try dsimp only [re2, re3, proofV, zeroP] at hC29
  have C29 := Lib.hid hC29
  clear hC29
  obtain ⟨tc0, tc1, _, _, tz⟩ := ratrow2 HT.out
  go_wp2_with fail
  clear hw28 tc0 tc1 tz
  refine C29.out.mono ?_
  rintro e w30 ⟨rfl, hw31⟩
  clear C29
  replace HM := Lib.hid (HM.out.below hw31)
  replace HV := Lib.hid (HV.out.below hw31)
  replace HT := Lib.hid (RowIs.below HT.out hw31)
  replace RA := Lib.hid (RowIs.below RA.out hw31)
  replace RX := Lib.hid (RowIs.below RX.out hw31)
  replace RY := Lib.hid (RowIs.below RY.out hw31)
  replace hB := bup hB hw31
  obtain ⟨Y32, hY32⟩ : ∃ Y32, (w30.alloc (.cells #[.int .i64 0, .int .i64 1] 29)).alloc (.cells #[.int .i64 99, .int .i64 100] 29) = Y32 := ⟨_, rfl⟩
  have hy33 : Below w30.heap.size w30 Y32 := by rw [← hY32]; exact Below.alloc1 (Below.alloc1 (Below.refl _ _) _ (Nat.le_refl _)) _ (Nat.le_refl _)
  replace HM := Lib.hid (HM.out.below hy33)
  replace HV := Lib.hid (HV.out.below hy33)
  replace HT := Lib.hid (RowIs.below HT.out hy33)
  replace RA := Lib.hid (RowIs.below RA.out hy33)
  replace RX := Lib.hid (RowIs.below RX.out hy33)
  replace RY := Lib.hid (RowIs.below RY.out hy33)
  replace hB := bup hB hy33
  have R16 := Lib.hid (show RowIs Y32 w30.heap.size #[.int .i64 0, .int .i64 1] 29 by rw [← hY32]; exact RowIs.alloc (heap_new_at _ _ _ rfl) _)
  have R17 := Lib.hid (show RowIs Y32 (w30.heap.size + 1) #[.int .i64 99, .int .i64 100] 29 by rw [← hY32]; exact heap_new_at _ _ _ (by simp))
  obtain ⟨bR16, hbR16⟩ : ∃ bR16, w30.heap.size = bR16 := ⟨_, rfl⟩
  rw [hbR16] at R16 R17
  go_wp2_with fail
  clear hw31 hY32 hy33 hbR16
  have m0 := fun (x : World) (hx : Below Y32.heap.size Y32 x) => checkMetals_c (some ⟨gm, 0, none⟩) 4 4 fourM x (HM.out.below hx) (by decide)
  simp only [k_metals] at m0
  have M0 := Lib.hid m0
  have t0 := fun (x : World) => checkTouch_c 100 10 x
  simp only [k_touch] at t0
  have T0 := Lib.hid t0
  have W0 := Lib.hid works_c
  clear m0 t0
  have BY := Lib.hid (fun (a b : Int) (x : World) => byT_c a b x)
  have heq0 := fun (w : World) => eqRat 55 1 w
  have heq1 := fun (w : World) => eqRat 10 1 w
  have heq2 := fun (w : World) => eqRat 20 1 w
  have heq3 := fun (w : World) => eqRat 0 1 w
  have heq4 := fun (w : World) => eqRat 99 100 w
  obtain ⟨v340, v341, _, _, v34z⟩ := ratrow2 HT.out
  obtain ⟨v350, v351, _, _, v35z⟩ := ratrow2 RA.out
  obtain ⟨v360, v361, _, _, v36z⟩ := ratrow2 RX.out
  obtain ⟨v370, v371, _, _, v37z⟩ := ratrow2 RY.out
  obtain ⟨v380, v381, _, _, v38z⟩ := ratrow2 R16.out
  obtain ⟨v390, v391, _, _, v39z⟩ := ratrow2 R17.out
  have hlc := fun (x : Later Y32) => later_cell x
  refine wp_region_later (by kernel_rfl) (by kernel_rfl) ?_
  simp only [List.append_eq, List.cons_append, List.nil_append]
  repeat (go_big_quiet_step ((first | (with_reducible refine calls_later (BY.out _ _ _)) | (with_reducible refine calls_later (M0.out _ (Later.h _))) | (with_reducible refine calls_later (T0.out _)) | (with_reducible refine calls_later (W0.out _)))))
  refine wpQuiet_nil ?_
  clear BY hlc M0 T0 W0 heq0 heq1 heq2 heq3 heq4 v340 v341 v34z v350 v351 v35z v360 v361 v36z v370 v371 v37z v380 v381 v38z v390 v391 v39z
  rintro ⟨w40, hw41⟩
  replace HM := Lib.hid (HM.out.below hw41)
  replace HV := Lib.hid (HV.out.below hw41)
  replace HT := Lib.hid (RowIs.below HT.out hw41)
  replace RA := Lib.hid (RowIs.below RA.out hw41)
  replace RX := Lib.hid (RowIs.below RX.out hw41)
  replace RY := Lib.hid (RowIs.below RY.out hw41)
  replace R16 := Lib.hid (RowIs.below R16.out hw41)
  replace R17 := Lib.hid (RowIs.below R17.out hw41)
  replace hB := bup hB hw41
  go_wp2
  go_ret
  exact ⟨rfl, hB⟩

end Go.Proofs.YtehafggcncbnkaaGreat

namespace Go.Proofs.YtehafggcncbnkaaGreat
open Go Go.RowKit Go.ChangeShapes Go.WideShapes Go.Deep Go.Joins

theorem cellsM : Tryz.prog.cellsOf 68 = 5 := by kernel_rfl
theorem cellsR : Tryz.prog.cellsOf 66 = 2 := by kernel_rfl
theorem cellsT : Tryz.prog.cellsOf 24 = 2 := by kernel_rfl
theorem cells64 : Tryz.prog.cellsOf 2 = 1 := by kernel_rfl

instance : Inhabited M5 := ⟨⟨0, 0, 0, 0, 0⟩⟩

theorem add_none (b off n : Nat) : (⟨b, off, none⟩ : Addr).add n = ⟨b, off + n, none⟩ := by
  unfold Addr.add
  split
  · rename_i h
    rw [h]
    rfl
  · rfl

section
variable {H : Type} {enc : TypeId × Value → H} {W : World} {sp : Nat → Bool}

set_option maxRecDepth 100000 in
theorem content_cells {n : Nat} {c0 c1 : Value} {y : DataW H × List MemPlace} (ht : DataW.trod enc Tryz.prog W 0 sp true n 66 [c0, c1] = some y) : ∃ a b : Int, c0 = .int .i64 a ∧ c1 = .int .i64 b := by
  obtain ⟨ys, n', _, _, _, hyl, hf⟩ := DataW.trod_struct Tryz.underlying66 ht
  have f0 := hf 0 _ rfl
  have f1 := hf 1 _ rfl
  match ys, hyl with
  | [y0, y1], _ =>
    simp [cells64] at f0 f1
    obtain ⟨a, ha, _, _⟩ := DataW.trod_int Tryz.underlying2 f0
    obtain ⟨b, hb, _, _⟩ := DataW.trod_int Tryz.underlying2 f1
    simp at ha hb
    exact ⟨a, b, ha, hb⟩

set_option maxRecDepth 100000 in
theorem metal_cells {a : Addr} {n : Nat} {cs : List Value} {y : DataW H × List MemPlace} (hc : W.cells? 0 a 5 = some cs) (ht : DataW.trod enc Tryz.prog W 0 sp true n 68 cs = some y) :
    ∃ q : M5, W.cell? (a.add 0) = some (.int .i64 q.p) ∧ W.cell? (a.add 1) = some (.int .i64 q.l0) ∧ W.cell? (a.add 2) = some (.int .i64 q.l1) ∧ W.cell? (a.add 3) = some (.int .i64 q.c0) ∧ W.cell? (a.add 4) = some (.int .i64 q.c1) := by
  obtain ⟨_, hlen, hat⟩ := World.cells?_some hc
  obtain ⟨ys, n', _, _, _, hyl, hf⟩ := DataW.trod_struct Tryz.underlying68 ht
  have f0 := hf 0 _ rfl
  have f1 := hf 1 _ rfl
  have f2 := hf 2 _ rfl
  match cs, hlen, ys, hyl with
  | [c0, c1, c2, c3, c4], _, [y0, y1, y2], _ =>
    simp [cells64, cellsR] at f0 f1 f2
    obtain ⟨p, hp, _, _⟩ := DataW.trod_int Tryz.underlying2 f0
    obtain ⟨l0, l1, h1, h2⟩ := content_cells f1
    obtain ⟨c0', c1', h3, h4⟩ := content_cells f2
    simp at hp
    subst hp h1 h2 h3 h4
    exact ⟨⟨p, l0, l1, c0', c1'⟩, hat 0 (by omega), hat 1 (by omega), hat 2 (by omega), hat 3 (by omega), hat 4 (by omega)⟩

set_option maxRecDepth 100000 in
theorem open_metals {base : Nat} {v : Value} {d : DataW H} {p : List MemPlace} (hok : Value.okWide Tryz.prog W .any base 22 v) (h : DataW.Trod enc Tryz.prog W 0 sp true 22 v d p) :
    ∃ a n cap m, v = .slice a n cap ∧ Metals W a n m := by
  obtain ⟨a, n, cap, rfl⟩ := okWide_slice Tryz.underlying22 hok
  obtain ⟨fuel, hf⟩ := h
  rcases open_slice Tryz.underlying22 hf with ⟨hcs, _⟩ | ⟨a', len, cap', k, n', D, Pl, hcs, _, hl, _, hk, _, hi⟩
  · simp [Value.cells] at hcs
    obtain ⟨rfl, rfl, rfl⟩ := hcs
    exact ⟨none, 0, 0, fun _ => default, rfl, .inl rfl⟩
  · simp [Value.cells] at hcs
    obtain ⟨rfl, rfl, rfl⟩ := hcs
    rw [cellsM] at hi
    have hlk : n ≤ k := by rw [hk]; split <;> omega
    obtain ⟨m, hm⟩ := choose_lt (n := k) (fun i hik => by
      obtain ⟨cs, h1, h2⟩ := hi i hik
      exact metal_cells h1 h2)
    refine ⟨some a', n, cap, m, rfl, ?_⟩
    by_cases h0 : n = 0
    · exact .inl h0
    obtain ⟨b, off, spot⟩ := a'
    have hspot : spot = none := by simpa [Addr.add] using World.cell?_spot (hm 0 (by omega)).1
    subst hspot
    have hm' : ∀ i, i < n → W.cell? ⟨b, off + i * 5, none⟩ = some (.int .i64 (m i).p) ∧ W.cell? ⟨b, off + i * 5 + 1, none⟩ = some (.int .i64 (m i).l0) ∧ W.cell? ⟨b, off + i * 5 + 2, none⟩ = some (.int .i64 (m i).l1) ∧
        W.cell? ⟨b, off + i * 5 + 3, none⟩ = some (.int .i64 (m i).c0) ∧ W.cell? ⟨b, off + i * 5 + 4, none⟩ = some (.int .i64 (m i).c1) := fun i hin => by
      have := hm i (by omega)
      simpa [add_none] using this
    exact .inr ⟨b, off, rfl, World.block_lt_of_cell? W _ (hm' 0 (by omega)).1, hm'⟩

set_option maxRecDepth 100000 in
theorem open_ints64 {base : Nat} {v : Value} {d : DataW H} {p : List MemPlace} (hok : Value.okWide Tryz.prog W .any base 25 v) (h : DataW.Trod enc Tryz.prog W 0 sp true 25 v d p) :
    ∃ a n cap f, v = .slice a n cap ∧ Ints W a n f := by
  obtain ⟨a, n, cap, rfl⟩ := okWide_slice Tryz.underlying25 hok
  obtain ⟨fuel, hf⟩ := h
  rcases open_ints Tryz.underlying25 Tryz.underlying2 cells64 hf with ⟨hcs, _⟩ | ⟨a', len, cap', zs, hcs, _, hl, _, hk, _, hi, _⟩
  · simp [Value.cells] at hcs
    obtain ⟨rfl, rfl, rfl⟩ := hcs
    exact ⟨none, 0, 0, fun _ => 0, rfl, .inl rfl⟩
  · simp [Value.cells] at hcs
    obtain ⟨rfl, rfl, rfl⟩ := hcs
    have hlk : n ≤ zs.length := by rw [hk]; split <;> omega
    refine ⟨some a', n, cap, fun i => zs.getD i 0, rfl, ?_⟩
    by_cases h0 : n = 0
    · exact .inl h0
    obtain ⟨b, off, rfl, hc⟩ := ints_at hi (by omega)
    exact .inr ⟨b, off, rfl, World.block_lt_of_cell? W _ (hc 0 (by omega)), fun i hin => hc i (by omega)⟩

set_option maxRecDepth 100000 in
theorem open_touch {r : Reach} {base : Nat} {v : Value} {d : DataW H} {p : List MemPlace} (hok : Value.okWide Tryz.prog W r base 24 v) (h : DataW.Trod enc Tryz.prog W 0 sp true 24 v d p) :
    ∃ l c : Int, v = .agg #[.int .i64 l, .int .i64 c] := by
  obtain ⟨v0, v1, y0, y1, n, rfl, _, _, h0, h1⟩ := open_agg2 Tryz.underlying24 (by kernel_rfl) cellsT hok h
  obtain ⟨l, hl, _, _⟩ := DataW.trod_int Tryz.underlying2 h0
  obtain ⟨c, hc, _, _⟩ := DataW.trod_int Tryz.underlying2 h1
  simp at hl hc
  subst hl hc
  exact ⟨l, c, rfl⟩
end

end Go.Proofs.YtehafggcncbnkaaGreat

namespace Go.Proofs.YtehafggcncbnkaaGreat
open Go Go.RowKit Go.ChangeShapes Go.WideShapes Go.Deep Go.Joins

theorem cells16 : Tryz.prog.cellsOf 64 = 1 := by kernel_rfl
theorem cellsPr : Tryz.prog.cellsOf 45 = 4 := by kernel_rfl

theorem wfu16 {n : Int} (h : (Lit.int .u16 n).wf = true) : 0 ≤ n ∧ n ≤ 65535 := by
  simp [Lit.wf] at h
  have h1 : IntKind.u16.min = 0 := by decide
  have h2 : IntKind.u16.max = 65535 := by decide
  omega
theorem wfu8 {n : Int} (h : (Lit.int .u8 n).wf = true) : 0 ≤ n ∧ n ≤ 255 := by
  simp [Lit.wf] at h
  have h1 : IntKind.u8.min = 0 := by decide
  have h2 : IntKind.u8.max = 255 := by decide
  omega
theorem wfi64 {n : Int} (h : (Lit.int .i64 n).wf = true) : -9223372036854775808 ≤ n ∧ n ≤ 9223372036854775807 := by
  simp [Lit.wf] at h
  have h1 : IntKind.i64.min = -9223372036854775808 := by decide
  have h2 : IntKind.i64.max = 9223372036854775807 := by decide
  omega

section
variable {H : Type} {enc : TypeId × Value → H} {W : World} {sp : Nat → Bool}

set_option maxRecDepth 100000 in
theorem open_shorts {base : Nat} {v : Value} {d : DataW H} {p : List MemPlace} (hok : Value.okWide Tryz.prog W .any base 54 v) (h : DataW.Trod enc Tryz.prog W 0 sp true 54 v d p) :
    ∃ a n cap f, v = .slice a n cap ∧ Shorts W a n f ∧ ∀ i, i < n → 0 ≤ f i ∧ f i ≤ 65535 := by
  obtain ⟨a, n, cap, rfl⟩ := okWide_slice Tryz.underlying54 hok
  obtain ⟨fuel, hf⟩ := h
  rcases open_ints Tryz.underlying54 Tryz.underlying64 cells16 hf with ⟨hcs, _⟩ | ⟨a', len, cap', zs, hcs, _, hl, _, hk, _, hi, hw⟩
  · simp [Value.cells] at hcs
    obtain ⟨rfl, rfl, rfl⟩ := hcs
    exact ⟨none, 0, 0, fun _ => 0, rfl, .inl rfl, fun i hi => absurd hi (Nat.not_lt_zero i)⟩
  · simp [Value.cells] at hcs
    obtain ⟨rfl, rfl, rfl⟩ := hcs
    have hlk : n ≤ zs.length := by rw [hk]; split <;> omega
    have hb : ∀ i, i < n → 0 ≤ zs.getD i 0 ∧ zs.getD i 0 ≤ 65535 := fun i hin => by
      have hz : i < zs.length := by omega
      have e : zs.getD i 0 = zs[i] := by simp [List.getD, hz]
      rw [e]
      exact wfu16 (hw _ (List.getElem_mem hz))
    refine ⟨some a', n, cap, fun i => zs.getD i 0, rfl, ?_, hb⟩
    by_cases h0 : n = 0
    · exact .inl h0
    obtain ⟨b, off, rfl, hc⟩ := ints_at hi (by omega)
    exact .inr ⟨b, off, rfl, World.block_lt_of_cell? W _ (hc 0 (by omega)), fun i hin => hc i (by omega)⟩

end

end Go.Proofs.YtehafggcncbnkaaGreat

namespace Go.Proofs.YtehafggcncbnkaaGreat
open Go Go.RowKit Go.ChangeShapes Go.WideShapes Go.Deep Go.Joins

section
variable {H : Type} {enc : TypeId × Value → H} {W : World} {sp : Nat → Bool}

set_option maxRecDepth 100000 in
theorem open_proof {r : Reach} {base : Nat} {v : Value} {d : DataW H} {p : List MemPlace} (hok : Value.okWide Tryz.prog W r base 45 v) (h : DataW.Trod enc Tryz.prog W 0 sp true 45 v d p) :
    ∃ q : P4, v = proofV q := by
  obtain ⟨v0, v1, v2, v3, y0, y1, y2, y3, n, rfl, _, _, h0, h1, h2, h3⟩ := open_agg4 Tryz.underlying45 (by kernel_rfl) cellsPr hok h
  obtain ⟨a, ha, _, _⟩ := DataW.trod_int Tryz.underlying2 h0
  obtain ⟨b, hb, _, _⟩ := DataW.trod_int Tryz.underlying2 h1
  obtain ⟨l, hl, _, _⟩ := DataW.trod_int Tryz.underlying2 h2
  obtain ⟨c, hc, _, _⟩ := DataW.trod_int Tryz.underlying2 h3
  simp at ha hb hl hc
  subst ha hb hl hc
  exact ⟨⟨a, b, l, c⟩, rfl⟩
end

end Go.Proofs.YtehafggcncbnkaaGreat
