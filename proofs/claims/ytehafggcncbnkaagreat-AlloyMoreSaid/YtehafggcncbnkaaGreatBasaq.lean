/- The works function of the law: the chapter's examples. Written by tools/works.py. -/
import Derived.Deep.CutRange
import Derived.Deep.DeepCutAuto
import Derived.Deep.RegionHeld3
import Derived.Test.YtehafggcncbnkaaGreatProg
import Derived.Test.YtehafggcncbnkaaGreatBasaa
import Derived.Test.YtehafggcncbnkaaGreatBasaf
import Derived.Test.YtehafggcncbnkaaGreatBasad
import Derived.Test.YtehafggcncbnkaaGreatBasae
import Derived.Test.YtehafggcncbnkaaGreatBasag
import Derived.Test.YtehafggcncbnkaaGreatBasah
import Derived.Test.YtehafggcncbnkaaGreatBasak
import Derived.Test.YtehafggcncbnkaaGreatBasao
import Derived.Test.YtehafggcncbnkaaGreatBasap
namespace Go.Proofs.YtehafggcncbnkaaGreat
open Go Go.RowKit

theorem x_bestS : bestS (cheapB 4 fourM true) (potL 4 fourM 100 10 true) = some (bestMix (cheapB 4 fourM true) (potL 4 fourM 100 10 true)) := by
  unfold bestMix
  have h := x_best4
  cases e : bestS (cheapB 4 fourM true) (potL 4 fourM 100 10 true) with
  | none => rw [e] at h; cases h
  | some f => rfl

theorem alloc_row {w w' : World} {o : Obj} (hb : Below (w.alloc o).heap.size (w.alloc o) w') : w'.heap[w.heap.size]? = some o :=
  (hb.block _ (by simp)).trans (heap_new_at _ _ _ rfl)

theorem alloc_row_drew {w w' : World} {o : Obj} (hb : Below (w.alloc o).drew.heap.size (w.alloc o).drew w') : w'.heap[w.heap.size]? = some o :=
  (hb.block _ (show _ < (w.alloc o).heap.size by simp)).trans (heap_new_at _ _ _ rfl)

theorem set2_row {w : World} {b : Nat} {x y : Int} {T : TypeId} (h : RowIs w b #[.int .i64 0, .int .i64 0] T) : RowIs ((w.setCell ⟨b, 0, none⟩ (.int .i64 x)).setCell ⟨b, 1, none⟩ (.int .i64 y)) b #[.int .i64 x, .int .i64 y] T := put2_row h x y

theorem set2_below {a w : World} {B b : Nat} {x y : Value} (h : Below B a w) (hb : B ≤ b) : Below B a ((w.setCell ⟨b, 0, none⟩ x).setCell ⟨b, 1, none⟩ y) :=
  (h.setCell (p := ⟨b, 0, none⟩) hb _).setCell (p := ⟨b, 1, none⟩) hb _

set_option maxRecDepth 100000 in
theorem eqRat (x y : Int) (w : World) : (Op.equalIn 10000 29 (.agg #[.int .i64 x, .int .i64 y]) (.agg #[.int .i64 x, .int .i64 y])).run Tryz.prog w = .ok true w := by
  rw [show (10000 : Nat) = 9999 + 1 from rfl]
  unfold Op.equalIn
  have e9 : ∀ (x y : Int) (w : World), (Op.equalIn 9999 2 (.int .i64 x) (.int .i64 y)).run Tryz.prog w = .ok (x == y) w := fun x y w => eq64 9998 x y w
  have p0 : ∀ (a b : Value) (w : World), (part 2 #[a, b] 0).run Tryz.prog w = .ok a w := fun _ _ _ => by kernel_rfl
  have p1 : ∀ (a b : Value) (w : World), (part 2 #[a, b] 1).run Tryz.prog w = .ok b w := fun _ _ _ => by kernel_rfl
  simp [run_underlying Tryz.underlying29]
  simp [p0, p1, e9]

theorem ints_row {w : World} {b : Nat} {T : TypeId} {l : List Int} (h : RowIs w b (l.map (Value.int .i64)).toArray T) : Ints w (some ⟨b, 0, none⟩) l.length (lst l) := by
  refine .inr ⟨b, 0, rfl, (Array.getElem?_eq_some_iff.1 h).1, fun i hi => ?_⟩
  rw [RowIs.cell h]
  simp [lst, List.getD, List.getElem?_eq_getElem hi]

set_option maxRecDepth 100000 in
set_option maxHeartbeats 16000000 in
theorem works_c (w : World) : Calls Tryz.prog 18 #[] w fun e w' => e = .returned (.bool true) ∧ Below w.heap.size w w' := by
  go_enter Tryz.func18, Tryz.ntmps18
  go_wp2_with fail
  refine (four_c _).mono ?_
  rintro e w1 ⟨gm, rfl, hM, hb1⟩
  go_wp2_with fail
  refine (two_c _).mono ?_
  rintro e w2 ⟨gv, rfl, hV, hb2⟩
  go_wp2_with fail
  refine (touchT_c _).mono ?_
  rintro e w3 ⟨rfl, hb3⟩
  obtain ⟨Y0, hY0⟩ : ∃ Y0, w3.alloc (.cells #[.int .i64 100, .int .i64 10] 24) = Y0 := ⟨_, rfl⟩
  have hb4 : Below w3.heap.size w3 Y0 := by rw [← hY0]; exact Below.alloc1 (Below.refl _ _) _ (Nat.le_refl _)
  have HT := Lib.hid (show RowIs Y0 w3.heap.size #[.int .i64 100, .int .i64 10] 24 by rw [← hY0]; exact heap_new_at _ _ _ rfl)
  obtain ⟨bt, hbt⟩ : ∃ bt, w3.heap.size = bt := ⟨_, rfl⟩
  have HM := Lib.hid (hM.below (bup hb2 (bup hb3 hb4)))
  have HV := Lib.hid (hV.below (bup hb3 hb4))
  have hB := bup hb1 (bup hb2 (bup hb3 hb4))
  rw [hbt] at HT
  clear hM hV hb1 hb2 hb3 hb4
  obtain ⟨X1, hX1⟩ : ∃ X1, Y0.alloc (.cells #[.int .i64 297, .int .i64 0, .int .i64 3, .int .i64 250] 2) = X1 := ⟨_, rfl⟩
  have hx2 : Below Y0.heap.size Y0 X1 := by rw [← hX1]; exact Below.alloc1 (Below.refl _ _) _ (Nat.le_refl _)
  have HI := Lib.hid (show Ints X1 (some ⟨Y0.heap.size, 0, none⟩) 4 (lst [297, 0, 3, 250]) by rw [← hX1]; exact ints_new Y0 _ (0, 0) [297, 0, 3, 250])
  replace HM := Lib.hid (HM.out.below hx2)
  replace HV := Lib.hid (HV.out.below hx2)
  replace HT := Lib.hid (RowIs.below HT.out hx2)
  replace hB := bup hB hx2
  have hC3 := Cost_c (some ⟨gm, 0, none⟩) (some ⟨Y0.heap.size, 0, none⟩) 4 4 4 4 fourM (lst [297, 0, 3, 250]) X1 HM.out HI.out (by decide) (by decide)
  rw [x_cost1] at hC3
  try dsimp only [re2, re3, proofV, zeroP] at hC3
  have C3 := Lib.hid hC3
  clear hC3
  go_wp2_with (go_at_call 53; refine (longs_c _ _).mono ?_; rintro e w' ⟨rfl, rfl⟩)
  clear hY0 hX1 hx2
  clear HI
  refine C3.out.mono ?_
  rintro e w4 ⟨rfl, hw5⟩
  clear C3
  replace HM := Lib.hid (HM.out.below hw5)
  replace HV := Lib.hid (HV.out.below hw5)
  replace HT := Lib.hid (RowIs.below HT.out hw5)
  replace hB := bup hB hw5
  obtain ⟨Y6, hY6⟩ : ∃ Y6, w4.alloc (.cells #[.int .i64 3959, .int .i64 55] 29) = Y6 := ⟨_, rfl⟩
  have hy7 : Below w4.heap.size w4 Y6 := by rw [← hY6]; exact Below.alloc1 (Below.refl _ _) _ (Nat.le_refl _)
  replace HM := Lib.hid (HM.out.below hy7)
  replace HV := Lib.hid (HV.out.below hy7)
  replace HT := Lib.hid (RowIs.below HT.out hy7)
  replace hB := bup hB hy7
  have RA := Lib.hid (show RowIs Y6 w4.heap.size #[.int .i64 3959, .int .i64 55] 29 by rw [← hY6]; exact heap_new_at _ _ _ rfl)
  obtain ⟨bRA, hbRA⟩ : ∃ bRA, w4.heap.size = bRA := ⟨_, rfl⟩
  rw [hbRA] at RA
  obtain ⟨X8, hX8⟩ : ∃ X8, Y6.alloc (.cells #[.int .i64 0, .int .i64 0, .int .i64 0, .int .i64 0] 2) = X8 := ⟨_, rfl⟩
  have hx9 : Below Y6.heap.size Y6 X8 := by rw [← hX8]; exact Below.alloc1 (Below.refl _ _) _ (Nat.le_refl _)
  have HI := Lib.hid (show Ints X8 (some ⟨Y6.heap.size, 0, none⟩) 4 (lst [0, 0, 0, 0]) by rw [← hX8]; exact ints_new Y6 _ (0, 0) [0, 0, 0, 0])
  replace HM := Lib.hid (HM.out.below hx9)
  replace HV := Lib.hid (HV.out.below hx9)
  replace HT := Lib.hid (RowIs.below HT.out hx9)
  replace RA := Lib.hid (RowIs.below RA.out hx9)
  replace hB := bup hB hx9
  have hC10 := Cost_c (some ⟨gm, 0, none⟩) (some ⟨Y6.heap.size, 0, none⟩) 4 4 4 4 fourM (lst [0, 0, 0, 0]) X8 HM.out HI.out (by decide) (by decide)
  rw [x_cost2] at hC10
  try dsimp only [re2, re3, proofV, zeroP] at hC10
  have C10 := Lib.hid hC10
  clear hC10
  go_wp2_with (go_at_call 53; refine (longs_c _ _).mono ?_; rintro e w' ⟨rfl, rfl⟩)
  clear hw5 hbRA hY6 hy7 hX8 hx9
  clear HI
  refine C10.out.mono ?_
  rintro e w11 ⟨rfl, hw12⟩
  clear C10
  replace HM := Lib.hid (HM.out.below hw12)
  replace HV := Lib.hid (HV.out.below hw12)
  replace HT := Lib.hid (RowIs.below HT.out hw12)
  replace RA := Lib.hid (RowIs.below RA.out hw12)
  replace hB := bup hB hw12
  obtain ⟨Y13, hY13⟩ : ∃ Y13, w11.alloc (.cells #[.int .i64 0, .int .i64 0] 29) = Y13 := ⟨_, rfl⟩
  have hy14 : Below w11.heap.size w11 Y13 := by rw [← hY13]; exact Below.alloc1 (Below.refl _ _) _ (Nat.le_refl _)
  have zY13 : RowIs Y13 w11.heap.size #[.int .i64 0, .int .i64 0] 29 := by rw [← hY13]; exact heap_new_at _ _ _ rfl
  obtain ⟨yY130, yY131, yY132, yY133, yY134⟩ := ratrow2 zY13
  obtain ⟨Z15, hZ15⟩ : ∃ Z15, ((Y13.setCell ⟨w11.heap.size, 0, none⟩ (.int .i64 0)).setCell ⟨w11.heap.size, 1, none⟩ (.int .i64 0)) = Z15 := ⟨_, rfl⟩
  have hz16 : Below w11.heap.size w11 Z15 := hy14.trans (by rw [← hZ15]; exact (((Below.refl _ Y13).setCell (p := ⟨w11.heap.size, 0, none⟩) (Nat.le_refl _) _).setCell (p := ⟨w11.heap.size, 1, none⟩) (Nat.le_refl _) _))
  replace HM := Lib.hid (HM.out.below hz16)
  replace HV := Lib.hid (HV.out.below hz16)
  replace HT := Lib.hid (RowIs.below HT.out hz16)
  replace RA := Lib.hid (RowIs.below RA.out hz16)
  replace hB := bup hB hz16
  obtain ⟨X17, hX17⟩ : ∃ X17, Z15.alloc (.cells #[.int .i64 1, .int .i64 1] 2) = X17 := ⟨_, rfl⟩
  have hx18 : Below Z15.heap.size Z15 X17 := by rw [← hX17]; exact Below.alloc1 (Below.refl _ _) _ (Nat.le_refl _)
  have HI := Lib.hid (show Ints X17 (some ⟨Z15.heap.size, 0, none⟩) 2 (lst [1, 1]) by rw [← hX17]; exact ints_new Z15 _ (0, 0) [1, 1])
  replace HM := Lib.hid (HM.out.below hx18)
  replace HV := Lib.hid (HV.out.below hx18)
  replace HT := Lib.hid (RowIs.below HT.out hx18)
  replace RA := Lib.hid (RowIs.below RA.out hx18)
  replace hB := bup hB hx18
  have hC19 := Cost_c (some ⟨gm, 0, none⟩) (some ⟨Z15.heap.size, 0, none⟩) 4 4 2 2 fourM (lst [1, 1]) X17 HM.out HI.out (by decide) (by decide)
  rw [x_cost3] at hC19
  try dsimp only [re2, re3, proofV, zeroP] at hC19
  have C19 := Lib.hid hC19
  clear hC19
  go_wp2_with (go_at_call 53; refine (longs_c _ _).mono ?_; rintro e w' ⟨rfl, rfl⟩)
  clear hw12 hY13 hy14 zY13 yY130 yY131 yY132 yY133 yY134 hZ15 hz16 hX17 hx18
  clear HI
  refine C19.out.mono ?_
  rintro e w20 ⟨rfl, hw21⟩
  clear C19
  replace HM := Lib.hid (HM.out.below hw21)
  replace HV := Lib.hid (HV.out.below hw21)
  replace HT := Lib.hid (RowIs.below HT.out hw21)
  replace RA := Lib.hid (RowIs.below RA.out hw21)
  replace hB := bup hB hw21
  obtain ⟨Y22, hY22⟩ : ∃ Y22, w20.alloc (.cells #[.int .i64 0, .int .i64 0] 29) = Y22 := ⟨_, rfl⟩
  have hy23 : Below w20.heap.size w20 Y22 := by rw [← hY22]; exact Below.alloc1 (Below.refl _ _) _ (Nat.le_refl _)
  have zY22 : RowIs Y22 w20.heap.size #[.int .i64 0, .int .i64 0] 29 := by rw [← hY22]; exact heap_new_at _ _ _ rfl
  obtain ⟨yY220, yY221, yY222, yY223, yY224⟩ := ratrow2 zY22
  obtain ⟨Z24, hZ24⟩ : ∃ Z24, ((Y22.setCell ⟨w20.heap.size, 0, none⟩ (.int .i64 0)).setCell ⟨w20.heap.size, 1, none⟩ (.int .i64 0)) = Z24 := ⟨_, rfl⟩
  have hz25 : Below w20.heap.size w20 Z24 := hy23.trans (by rw [← hZ24]; exact (((Below.refl _ Y22).setCell (p := ⟨w20.heap.size, 0, none⟩) (Nat.le_refl _) _).setCell (p := ⟨w20.heap.size, 1, none⟩) (Nat.le_refl _) _))
  replace HM := Lib.hid (HM.out.below hz25)
  replace HV := Lib.hid (HV.out.below hz25)
  replace HT := Lib.hid (RowIs.below HT.out hz25)
  replace RA := Lib.hid (RowIs.below RA.out hz25)
  replace hB := bup hB hz25
  obtain ⟨X26, hX26⟩ : ∃ X26, Z24.alloc (.cells #[.int .i64 0, .int .i64 0, .int .i64 0, .int .i64 1] 2) = X26 := ⟨_, rfl⟩
  have hx27 : Below Z24.heap.size Z24 X26 := by rw [← hX26]; exact Below.alloc1 (Below.refl _ _) _ (Nat.le_refl _)
  have HI := Lib.hid (show Ints X26 (some ⟨Z24.heap.size, 0, none⟩) 4 (lst [0, 0, 0, 1]) by rw [← hX26]; exact ints_new Z24 _ (0, 0) [0, 0, 0, 1])
  replace HM := Lib.hid (HM.out.below hx27)
  replace HV := Lib.hid (HV.out.below hx27)
  replace HT := Lib.hid (RowIs.below HT.out hx27)
  replace RA := Lib.hid (RowIs.below RA.out hx27)
  replace hB := bup hB hx27
  have hC28 := Ends_c (some ⟨gm, 0, none⟩) (some ⟨Z24.heap.size, 0, none⟩) 4 4 4 4 fourM (lst [0, 0, 0, 1]) false X26 HM.out HI.out (by decide) (by decide)
  rw [x_ends] at hC28
  try dsimp only [re2, re3, proofV, zeroP] at hC28
  have C28 := Lib.hid hC28
  clear hC28
  go_wp2_with (go_at_call 53; refine (longs_c _ _).mono ?_; rintro e w' ⟨rfl, rfl⟩)
  clear hw21 hY22 hy23 zY22 yY220 yY221 yY222 yY223 yY224 hZ24 hz25 hX26 hx27
  clear HI
  refine C28.out.mono ?_
  rintro e w29 ⟨rfl, hw30⟩
  clear C28
  replace HM := Lib.hid (HM.out.below hw30)
  replace HV := Lib.hid (HV.out.below hw30)
  replace HT := Lib.hid (RowIs.below HT.out hw30)
  replace RA := Lib.hid (RowIs.below RA.out hw30)
  replace hB := bup hB hw30
  obtain ⟨tc0, tc1, _, _, tz⟩ := ratrow2 HT.out
  go_wp2_with fail
  clear hw30 tc0 tc1 tz
  obtain ⟨Y31, hY31⟩ : ∃ Y31, w29.alloc (.cells #[.int .i64 180, .int .i64 1] 29) = Y31 := ⟨_, rfl⟩
  have hy32 : Below w29.heap.size w29 Y31 := by rw [← hY31]; exact Below.alloc1 (Below.refl _ _) _ (Nat.le_refl _)
  rw [hY31]
  replace HM := Lib.hid (HM.out.below hy32)
  replace HV := Lib.hid (HV.out.below hy32)
  replace HT := Lib.hid (RowIs.below HT.out hy32)
  replace RA := Lib.hid (RowIs.below RA.out hy32)
  replace hB := bup hB hy32
  have RX := Lib.hid (show RowIs Y31 w29.heap.size #[.int .i64 180, .int .i64 1] 29 by rw [← hY31]; exact heap_new_at _ _ _ rfl)
  obtain ⟨bRX, hbRX⟩ : ∃ bRX, w29.heap.size = bRX := ⟨_, rfl⟩
  rw [hbRX] at RX ⊢
  obtain ⟨Y33, hY33⟩ : ∃ Y33, Y31.alloc (.cells #[.int .i64 220, .int .i64 1] 29) = Y33 := ⟨_, rfl⟩
  have hy34 : Below Y31.heap.size Y31 Y33 := by rw [← hY33]; exact Below.alloc1 (Below.refl _ _) _ (Nat.le_refl _)
  rw [hY33]
  replace HM := Lib.hid (HM.out.below hy34)
  replace HV := Lib.hid (HV.out.below hy34)
  replace HT := Lib.hid (RowIs.below HT.out hy34)
  replace RA := Lib.hid (RowIs.below RA.out hy34)
  replace RX := Lib.hid (RowIs.below RX.out hy34)
  replace hB := bup hB hy34
  have RY := Lib.hid (show RowIs Y33 Y31.heap.size #[.int .i64 220, .int .i64 1] 29 by rw [← hY33]; exact heap_new_at _ _ _ rfl)
  have hbRY : Y31.heap.size = bRX + 1 := by rw [← hY31]; simp [← hbRX]
  rw [hbRY] at RY
  clear hbRX hY31 hy32 hbRY hY33 hy34
  have hC35 := fun (X : Nat) (V : World) (hV : Below Y33.heap.size Y33 V) (hI : RowIs V X #[.int .i64 297, .int .i64 0, .int .i64 3, .int .i64 250] 2) => Deserves_c (some ⟨gm, 0, none⟩) (some ⟨X, 0, none⟩) 4 4 4 4 fourM (lst [297, 0, 3, 250]) 100 10 true V (HM.out.below hV) (ints_row (l := [297, 0, 3, 250]) hI) (by decide) (by decide)
  try dsimp only [re2, re3, proofV, zeroP] at hC35
  have C35 := Lib.hid hC35
  clear hC35
  have hC36 := fun (X : Nat) (V : World) (hV : Below Y33.heap.size Y33 V) (hI : RowIs V X #[.int .i64 4, .int .i64 0, .int .i64 0, .int .i64 5] 2) => Deserves_c (some ⟨gm, 0, none⟩) (some ⟨X, 0, none⟩) 4 4 4 4 fourM (lst [4, 0, 0, 5]) 100 10 true V (HM.out.below hV) (ints_row (l := [4, 0, 0, 5]) hI) (by decide) (by decide)
  try dsimp only [re2, re3, proofV, zeroP] at hC36
  have C36 := Lib.hid hC36
  clear hC36
  obtain ⟨tc0, tc1, _, _, tz⟩ := ratrow2 HT.out
  go_cut [13, 14] from 77 to 86 (fun e f wx => e = .int .i64 0 ∧ f = .int .i64 17 ∧ Below Y33.heap.size Y33 wx)
  case first =>
    clear HV RA RX RY
    go_region_held3 (fun w' => w'.cell? ⟨bt, 0, none⟩ = some (.int .i64 100) ∧ w'.cell? ⟨bt, 1, none⟩ = some (.int .i64 10))
      (first | (go_split_ands; refine ⟨?_, ?_⟩ <;> first | (rw [hbq.cell (by first | assumption | (simp; omega))]; assumption) | (go_keep; done)) | go_keep)
      ((first
        | (go_at_call 53; refine (longs_c _ _).mono ?_; rintro e w' ⟨rfl, rfl⟩)
        | (go_at_call 27; refine Calls.mono (C35.out _ _ ?_ ?_) ?_; (with_reducible repeat (first | exact Below.refl _ _ | assumption | refine bup ?_ (by assumption) | refine Below.alloc1 ?_ _ (Nat.le_refl _) | refine Below.drew ?_)); (with_reducible repeat (first | (focus (refine heap_new_at _ _ _ ?_; simp; done)) | refine RowIs.alloc ?_ _ | refine RowIs.below ?_ (by assumption) | refine RowIs.drew ?_)); rintro e wq ⟨rfl, hbq⟩; have tq : bt < wq.heap.size := Nat.lt_of_lt_of_le (by first | assumption | (simp; omega)) hbq.size; rw [x_des1])
        | (go_at_call 27; refine Calls.mono (C36.out _ _ ?_ ?_) ?_; (with_reducible repeat (first | exact Below.refl _ _ | assumption | refine bup ?_ (by assumption) | refine Below.alloc1 ?_ _ (Nat.le_refl _) | refine Below.drew ?_)); (with_reducible repeat (first | (focus (refine heap_new_at _ _ _ ?_; simp; done)) | refine RowIs.alloc ?_ _ | refine RowIs.below ?_ (by assumption) | refine RowIs.drew ?_)); rintro e wq ⟨rfl, hbq⟩; have tq : bt < wq.heap.size := Nat.lt_of_lt_of_le (by first | assumption | (simp; omega)) hbq.size; rw [x_des2])
        | fail))
    all_goals (go_wp2_with fail; go_meet; refine ⟨rfl, rfl, ?_⟩; (with_reducible repeat (first | exact Below.refl _ _ | assumption | refine bup ?_ (by assumption) | refine Below.alloc1 ?_ _ (Nat.le_refl _) | refine Below.drew ?_)))
  case rest =>
  obtain ⟨rfl, rfl, hcb⟩ := hcut
  clear C35 C36 tc0 tc1 tz
  obtain ⟨w37, hww⟩ : ∃ x, x = wc := ⟨_, rfl⟩
  subst hww
  replace HM := Lib.hid (HM.out.below hcb)
  replace HV := Lib.hid (HV.out.below hcb)
  replace HT := Lib.hid (RowIs.below HT.out hcb)
  replace RA := Lib.hid (RowIs.below RA.out hcb)
  replace RX := Lib.hid (RowIs.below RX.out hcb)
  replace RY := Lib.hid (RowIs.below RY.out hcb)
  replace hB := bup hB hcb
  go_wp2_with fail
  clear hcb
  have hC38 := fun (X : Nat) (V : World) (hV : Below w37.heap.size w37 V) (hI : RowIs V X #[.int .i64 4, .int .i64 0, .int .i64 0, .int .i64 5] 2) => Deserves_c (some ⟨gm, 0, none⟩) (some ⟨X, 0, none⟩) 4 4 4 4 fourM (lst [4, 0, 0, 5]) 100 10 false V (HM.out.below hV) (ints_row (l := [4, 0, 0, 5]) hI) (by decide) (by decide)
  try dsimp only [re2, re3, proofV, zeroP] at hC38
  have C38 := Lib.hid hC38
  clear hC38
  have hC39 := fun (X : Nat) (V : World) (hV : Below w37.heap.size w37 V) (hI : RowIs V X #[.int .i64 1, .int .i64 0, .int .i64 0, .int .i64 0] 2) => Deserves_c (some ⟨gm, 0, none⟩) (some ⟨X, 0, none⟩) 4 4 4 4 fourM (lst [1, 0, 0, 0]) 100 10 false V (HM.out.below hV) (ints_row (l := [1, 0, 0, 0]) hI) (by decide) (by decide)
  try dsimp only [re2, re3, proofV, zeroP] at hC39
  have C39 := Lib.hid hC39
  clear hC39
  obtain ⟨tc0, tc1, _, _, tz⟩ := ratrow2 HT.out
  go_cut [15, 16] from 87 to 96 (fun e f wx => e = .int .i64 0 ∧ f = .int .i64 17 ∧ Below w37.heap.size w37 wx)
  case first =>
    clear HV RA RX RY
    go_region_held3 (fun w' => w'.cell? ⟨bt, 0, none⟩ = some (.int .i64 100) ∧ w'.cell? ⟨bt, 1, none⟩ = some (.int .i64 10))
      (first | (go_split_ands; refine ⟨?_, ?_⟩ <;> first | (rw [hbq.cell (by first | assumption | (simp; omega))]; assumption) | (go_keep; done)) | go_keep)
      ((first
        | (go_at_call 53; refine (longs_c _ _).mono ?_; rintro e w' ⟨rfl, rfl⟩)
        | (go_at_call 27; refine Calls.mono (C38.out _ _ ?_ ?_) ?_; (with_reducible repeat (first | exact Below.refl _ _ | assumption | refine bup ?_ (by assumption) | refine Below.alloc1 ?_ _ (Nat.le_refl _) | refine Below.drew ?_)); (with_reducible repeat (first | (focus (refine heap_new_at _ _ _ ?_; simp; done)) | refine RowIs.alloc ?_ _ | refine RowIs.below ?_ (by assumption) | refine RowIs.drew ?_)); rintro e wq ⟨rfl, hbq⟩; have tq : bt < wq.heap.size := Nat.lt_of_lt_of_le (by first | assumption | (simp; omega)) hbq.size; rw [x_des3])
        | (go_at_call 27; refine Calls.mono (C39.out _ _ ?_ ?_) ?_; (with_reducible repeat (first | exact Below.refl _ _ | assumption | refine bup ?_ (by assumption) | refine Below.alloc1 ?_ _ (Nat.le_refl _) | refine Below.drew ?_)); (with_reducible repeat (first | (focus (refine heap_new_at _ _ _ ?_; simp; done)) | refine RowIs.alloc ?_ _ | refine RowIs.below ?_ (by assumption) | refine RowIs.drew ?_)); rintro e wq ⟨rfl, hbq⟩; have tq : bt < wq.heap.size := Nat.lt_of_lt_of_le (by first | assumption | (simp; omega)) hbq.size; rw [x_des4])
        | fail))
    all_goals (go_wp2_with fail; go_meet; refine ⟨rfl, rfl, ?_⟩; (with_reducible repeat (first | exact Below.refl _ _ | assumption | refine bup ?_ (by assumption) | refine Below.alloc1 ?_ _ (Nat.le_refl _) | refine Below.drew ?_)))
  case rest =>
  obtain ⟨rfl, rfl, hcb⟩ := hcut
  clear C38 C39 tc0 tc1 tz
  obtain ⟨w40, hww⟩ : ∃ x, x = wc := ⟨_, rfl⟩
  subst hww
  replace HM := Lib.hid (HM.out.below hcb)
  replace HV := Lib.hid (HV.out.below hcb)
  replace HT := Lib.hid (RowIs.below HT.out hcb)
  replace RA := Lib.hid (RowIs.below RA.out hcb)
  replace RX := Lib.hid (RowIs.below RX.out hcb)
  replace RY := Lib.hid (RowIs.below RY.out hcb)
  replace hB := bup hB hcb
  have hC41 := Least_c (some ⟨gm, 0, none⟩) 4 4 fourM 100 10 true w40 HM.out (by decide)
  rw [x_least1] at hC41
  try dsimp only [re2, re3, proofV, zeroP] at hC41
  have C41 := Lib.hid hC41
  clear hC41
  obtain ⟨tc0, tc1, _, _, tz⟩ := ratrow2 HT.out
  go_wp2_with fail
  clear hcb tc0 tc1 tz
  refine C41.out.mono ?_
  rintro e w42 ⟨rfl, hw43⟩
  clear C41
  replace HM := Lib.hid (HM.out.below hw43)
  replace HV := Lib.hid (HV.out.below hw43)
  replace HT := Lib.hid (RowIs.below HT.out hw43)
  replace RA := Lib.hid (RowIs.below RA.out hw43)
  replace RX := Lib.hid (RowIs.below RX.out hw43)
  replace RY := Lib.hid (RowIs.below RY.out hw43)
  replace hB := bup hB hw43
  obtain ⟨Y44, hY44⟩ : ∃ Y44, w42.alloc (.cells #[.int .i64 3959, .int .i64 55] 29) = Y44 := ⟨_, rfl⟩
  have hy45 : Below w42.heap.size w42 Y44 := by rw [← hY44]; exact Below.alloc1 (Below.refl _ _) _ (Nat.le_refl _)
  replace HM := Lib.hid (HM.out.below hy45)
  replace HV := Lib.hid (HV.out.below hy45)
  replace HT := Lib.hid (RowIs.below HT.out hy45)
  replace RA := Lib.hid (RowIs.below RA.out hy45)
  replace RX := Lib.hid (RowIs.below RX.out hy45)
  replace RY := Lib.hid (RowIs.below RY.out hy45)
  replace hB := bup hB hy45
  have R17 := Lib.hid (show RowIs Y44 w42.heap.size #[.int .i64 3959, .int .i64 55] 29 by rw [← hY44]; exact heap_new_at _ _ _ rfl)
  obtain ⟨bR17, hbR17⟩ : ∃ bR17, w42.heap.size = bR17 := ⟨_, rfl⟩
  rw [hbR17] at R17
  have hC46 := Least_c (some ⟨gm, 0, none⟩) 4 4 fourM 100 10 false Y44 HM.out (by decide)
  rw [x_least2] at hC46
  try dsimp only [re2, re3, proofV, zeroP] at hC46
  have C46 := Lib.hid hC46
  clear hC46
  obtain ⟨tc0, tc1, _, _, tz⟩ := ratrow2 HT.out
  go_wp2_with fail
  clear hw43 hbR17 hY44 hy45 tc0 tc1 tz
  refine C46.out.mono ?_
  rintro e w47 ⟨rfl, hw48⟩
  clear C46
  replace HM := Lib.hid (HM.out.below hw48)
  replace HV := Lib.hid (HV.out.below hw48)
  replace HT := Lib.hid (RowIs.below HT.out hw48)
  replace RA := Lib.hid (RowIs.below RA.out hw48)
  replace RX := Lib.hid (RowIs.below RX.out hw48)
  replace RY := Lib.hid (RowIs.below RY.out hw48)
  replace R17 := Lib.hid (RowIs.below R17.out hw48)
  replace hB := bup hB hw48
  obtain ⟨Y49, hY49⟩ : ∃ Y49, w47.alloc (.cells #[.int .i64 610, .int .i64 9] 29) = Y49 := ⟨_, rfl⟩
  have hy50 : Below w47.heap.size w47 Y49 := by rw [← hY49]; exact Below.alloc1 (Below.refl _ _) _ (Nat.le_refl _)
  replace HM := Lib.hid (HM.out.below hy50)
  replace HV := Lib.hid (HV.out.below hy50)
  replace HT := Lib.hid (RowIs.below HT.out hy50)
  replace RA := Lib.hid (RowIs.below RA.out hy50)
  replace RX := Lib.hid (RowIs.below RX.out hy50)
  replace RY := Lib.hid (RowIs.below RY.out hy50)
  replace R17 := Lib.hid (RowIs.below R17.out hy50)
  replace hB := bup hB hy50
  have R19 := Lib.hid (show RowIs Y49 w47.heap.size #[.int .i64 610, .int .i64 9] 29 by rw [← hY49]; exact heap_new_at _ _ _ rfl)
  obtain ⟨bR19, hbR19⟩ : ∃ bR19, w47.heap.size = bR19 := ⟨_, rfl⟩
  rw [hbR19] at R19
  have hC51 := Least_c (some ⟨gv, 0, none⟩) 2 2 twoM 100 10 true Y49 HV.out (by decide)
  rw [x_least3] at hC51
  try dsimp only [re2, re3, proofV, zeroP] at hC51
  have C51 := Lib.hid hC51
  clear hC51
  obtain ⟨tc0, tc1, _, _, tz⟩ := ratrow2 HT.out
  go_wp2_with fail
  clear hw48 hbR19 hY49 hy50 tc0 tc1 tz
  refine C51.out.mono ?_
  rintro e w52 ⟨rfl, hw53⟩
  clear C51
  replace HM := Lib.hid (HM.out.below hw53)
  replace HV := Lib.hid (HV.out.below hw53)
  replace HT := Lib.hid (RowIs.below HT.out hw53)
  replace RA := Lib.hid (RowIs.below RA.out hw53)
  replace RX := Lib.hid (RowIs.below RX.out hw53)
  replace RY := Lib.hid (RowIs.below RY.out hw53)
  replace R17 := Lib.hid (RowIs.below R17.out hw53)
  replace R19 := Lib.hid (RowIs.below R19.out hw53)
  replace hB := bup hB hw53
  obtain ⟨Y54, hY54⟩ : ∃ Y54, w52.alloc (.cells #[.int .i64 0, .int .i64 0] 29) = Y54 := ⟨_, rfl⟩
  have hy55 : Below w52.heap.size w52 Y54 := by rw [← hY54]; exact Below.alloc1 (Below.refl _ _) _ (Nat.le_refl _)
  have zY54 : RowIs Y54 w52.heap.size #[.int .i64 0, .int .i64 0] 29 := by rw [← hY54]; exact heap_new_at _ _ _ rfl
  obtain ⟨yY540, yY541, yY542, yY543, yY544⟩ := ratrow2 zY54
  obtain ⟨Z56, hZ56⟩ : ∃ Z56, ((Y54.setCell ⟨w52.heap.size, 0, none⟩ (.int .i64 0)).setCell ⟨w52.heap.size, 1, none⟩ (.int .i64 0)) = Z56 := ⟨_, rfl⟩
  have hz57 : Below w52.heap.size w52 Z56 := hy55.trans (by rw [← hZ56]; exact (((Below.refl _ Y54).setCell (p := ⟨w52.heap.size, 0, none⟩) (Nat.le_refl _) _).setCell (p := ⟨w52.heap.size, 1, none⟩) (Nat.le_refl _) _))
  replace HM := Lib.hid (HM.out.below hz57)
  replace HV := Lib.hid (HV.out.below hz57)
  replace HT := Lib.hid (RowIs.below HT.out hz57)
  replace RA := Lib.hid (RowIs.below RA.out hz57)
  replace RX := Lib.hid (RowIs.below RX.out hz57)
  replace RY := Lib.hid (RowIs.below RY.out hz57)
  replace R17 := Lib.hid (RowIs.below R17.out hz57)
  replace R19 := Lib.hid (RowIs.below R19.out hz57)
  replace hB := bup hB hz57
  have hC58 := Cheapest_yes_c (some ⟨gm, 0, none⟩) 4 4 fourM 100 10 true _ Z56 HM.out (by decide) x_both4 x_bestS
  try dsimp only [re2, re3, proofV, zeroP] at hC58
  have C58 := Lib.hid hC58
  clear hC58
  obtain ⟨tc0, tc1, _, _, tz⟩ := ratrow2 HT.out
  go_wp2_with fail
  clear hw53 hY54 hy55 zY54 yY540 yY541 yY542 yY543 yY544 hZ56 hz57 tc0 tc1 tz
  refine C58.out.mono ?_
  rintro e w59 ⟨gq, hgq, hgz, rfl, HQ0, hw60⟩
  clear C58
  replace HM := Lib.hid (HM.out.below hw60)
  replace HV := Lib.hid (HV.out.below hw60)
  replace HT := Lib.hid (RowIs.below HT.out hw60)
  replace RA := Lib.hid (RowIs.below RA.out hw60)
  replace RX := Lib.hid (RowIs.below RX.out hw60)
  replace RY := Lib.hid (RowIs.below RY.out hw60)
  replace R17 := Lib.hid (RowIs.below R17.out hw60)
  replace R19 := Lib.hid (RowIs.below R19.out hw60)
  replace hB := bup hB hw60
  have HQ := Lib.hid HQ0
  clear HQ0 hgq hgz
  go_wp2_with fail
  clear hw60
  have pC := fun (x : World) (hx : Below w59.heap.size w59 x) => CheckProof_c (some ⟨gm, 0, none⟩) 4 4 fourM 100 10 true ⟨2200, 198000, 403, 66⟩ x (HM.out.below hx) (by decide)
  simp only [x_prf1] at pC
  dsimp only [re2] at pC
  have PC := Lib.hid pC
  clear pC
  obtain ⟨tc0, tc1, _, _, tz⟩ := ratrow2 HT.out
  go_cut [25, 26] from 121 to 127 (fun e f wx => f = .int .i64 0 ∧ (∃ b, e = .pointer (some ⟨b, 0, none⟩) ∧ RowIs wx b #[.int .i64 3959, .int .i64 55] 29) ∧ Below w59.heap.size w59 wx)
  case first =>
    clear HV RA RX RY R17 R19 HQ
    go_region_held3 (fun w' => w'.cell? ⟨bt, 0, none⟩ = some (.int .i64 100) ∧ w'.cell? ⟨bt, 1, none⟩ = some (.int .i64 10))
      (first | (go_split_ands; refine ⟨?_, ?_⟩ <;> first | assumption | exact Lib.cell?_alloc_some _ (by assumption) | (rw [World.cell?_setCell_far _ _ _ _ (by simp <;> omega), World.cell?_setCell_far _ _ _ _ (by simp <;> omega)]; assumption) | (go_keep; done)) | go_keep)
      ((first
        | (go_at_call 54; refine (proofT_c _ _ _ _ _).mono ?_; rintro e wp ⟨rfl, hbp⟩; have t0 : wp.cell? ⟨bt, 0, none⟩ = some (.int .i64 100) := (by (try go_split_ands); rw [hbp.cell (by first | assumption | (simp; omega))]; assumption); have t1 : wp.cell? ⟨bt, 1, none⟩ = some (.int .i64 10) := (by (try go_split_ands); rw [hbp.cell (by first | assumption | (simp; omega))]; assumption); have tq : bt < wp.heap.size := Nat.lt_of_lt_of_le (by first | assumption | (simp; omega)) hbp.size; have sswp : w59.heap.size ≤ wp.heap.size := Nat.le_trans (by first | assumption | (simp <;> omega) | omega) hbp.size; (try (have hr0 : RowIs wp w59.heap.size #[.int .i64 0, .int .i64 0] 29 := alloc_row hbp; obtain ⟨rhr00, rhr01, zhr00, zhr01, lhr0⟩ := ratrow2 hr0)); (try (have hr0 : RowIs wp w59.heap.size #[.int .i64 0, .int .i64 0] 29 := alloc_row_drew hbp; obtain ⟨rhr00, rhr01, zhr00, zhr01, lhr0⟩ := ratrow2 hr0)))
        | (go_at_call 33; refine Calls.mono (PC.out _ ?_) ?_; (with_reducible repeat (first | exact Below.refl _ _ | assumption | refine bup ?_ (by assumption) | refine Below.alloc1 ?_ _ (Nat.le_refl _) | refine Below.drew ?_)); rintro e wq ⟨rfl, hbq⟩; have t0 : wq.cell? ⟨bt, 0, none⟩ = some (.int .i64 100) := (by (try go_split_ands); rw [hbq.cell (by first | assumption | (simp; omega))]; assumption); have t1 : wq.cell? ⟨bt, 1, none⟩ = some (.int .i64 10) := (by (try go_split_ands); rw [hbq.cell (by first | assumption | (simp; omega))]; assumption); have tq : bt < wq.heap.size := Nat.lt_of_lt_of_le (by first | assumption | (simp; omega)) hbq.size; have sswq : w59.heap.size ≤ wq.heap.size := Nat.le_trans (by first | assumption | (simp <;> omega) | omega) hbq.size; (try (have hr1 : RowIs wq w59.heap.size #[.int .i64 0, .int .i64 0] 29 := RowIs.below hr0 hbq; obtain ⟨rhr10, rhr11, zhr10, zhr11, lhr1⟩ := ratrow2 hr1)); (try (have hr2 : RowIs wq wp.heap.size #[.int .i64 0, .int .i64 0] 29 := alloc_row hbq; obtain ⟨rhr20, rhr21, zhr20, zhr21, lhr2⟩ := ratrow2 hr2)))
        | fail))
    all_goals (go_wp2_with fail; go_meet; refine ⟨rfl, ⟨_, rfl, ?_⟩, ?_⟩; (with_reducible repeat (first | assumption | exact heap_new_at _ _ _ (by simp <;> omega) | refine set2_row ?_ | refine RowIs.alloc ?_ _ | refine RowIs.drew ?_)); (with_reducible repeat (first | exact Below.refl _ _ | assumption | refine bup ?_ (by assumption) | refine Below.alloc1 ?_ _ (Nat.le_refl _) | refine Below.drew ?_ | refine set2_below ?_ (by omega))))
  case rest =>
  obtain ⟨rfl, ⟨b61, rfl, hrow⟩, hcb⟩ := hcut
  clear PC tc0 tc1 tz
  obtain ⟨w62, hww⟩ : ∃ x, x = wc := ⟨_, rfl⟩
  subst hww
  replace HM := Lib.hid (HM.out.below hcb)
  replace HV := Lib.hid (HV.out.below hcb)
  replace HT := Lib.hid (RowIs.below HT.out hcb)
  replace RA := Lib.hid (RowIs.below RA.out hcb)
  replace RX := Lib.hid (RowIs.below RX.out hcb)
  replace RY := Lib.hid (RowIs.below RY.out hcb)
  replace R17 := Lib.hid (RowIs.below R17.out hcb)
  replace R19 := Lib.hid (RowIs.below R19.out hcb)
  replace HQ := Lib.hid (HQ.out.below hcb)
  replace hB := bup hB hcb
  have R25 := Lib.hid hrow
  clear hrow
  go_wp2_with fail
  clear hcb
  have pC := fun (x : World) (hx : Below w62.heap.size w62 x) => CheckProof_c (some ⟨gm, 0, none⟩) 4 4 fourM 100 10 true ⟨1, 50, 0, 0⟩ x (HM.out.below hx) (by decide)
  simp only [x_prf2] at pC
  dsimp only [re2] at pC
  have PC := Lib.hid pC
  clear pC
  obtain ⟨tc0, tc1, _, _, tz⟩ := ratrow2 HT.out
  go_cut [27, 28] from 128 to 134 (fun e f wx => f = .int .i64 14 ∧ (∃ b, e = .pointer (some ⟨b, 0, none⟩)) ∧ Below w62.heap.size w62 wx)
  case first =>
    clear HV RA RX RY R17 R19 HQ R25
    go_region_held3 (fun w' => w'.cell? ⟨bt, 0, none⟩ = some (.int .i64 100) ∧ w'.cell? ⟨bt, 1, none⟩ = some (.int .i64 10))
      (first | (go_split_ands; refine ⟨?_, ?_⟩ <;> first | assumption | exact Lib.cell?_alloc_some _ (by assumption) | (rw [World.cell?_setCell_far _ _ _ _ (by simp <;> omega), World.cell?_setCell_far _ _ _ _ (by simp <;> omega)]; assumption) | (go_keep; done)) | go_keep)
      ((first
        | (go_at_call 54; refine (proofT_c _ _ _ _ _).mono ?_; rintro e wp ⟨rfl, hbp⟩; have t0 : wp.cell? ⟨bt, 0, none⟩ = some (.int .i64 100) := (by (try go_split_ands); rw [hbp.cell (by first | assumption | (simp; omega))]; assumption); have t1 : wp.cell? ⟨bt, 1, none⟩ = some (.int .i64 10) := (by (try go_split_ands); rw [hbp.cell (by first | assumption | (simp; omega))]; assumption); have tq : bt < wp.heap.size := Nat.lt_of_lt_of_le (by first | assumption | (simp; omega)) hbp.size; have sswp : w62.heap.size ≤ wp.heap.size := Nat.le_trans (by first | assumption | (simp <;> omega) | omega) hbp.size; (try (have hr0 : RowIs wp w62.heap.size #[.int .i64 0, .int .i64 0] 29 := alloc_row hbp; obtain ⟨rhr00, rhr01, zhr00, zhr01, lhr0⟩ := ratrow2 hr0)); (try (have hr0 : RowIs wp w62.heap.size #[.int .i64 0, .int .i64 0] 29 := alloc_row_drew hbp; obtain ⟨rhr00, rhr01, zhr00, zhr01, lhr0⟩ := ratrow2 hr0)))
        | (go_at_call 33; refine Calls.mono (PC.out _ ?_) ?_; (with_reducible repeat (first | exact Below.refl _ _ | assumption | refine bup ?_ (by assumption) | refine Below.alloc1 ?_ _ (Nat.le_refl _) | refine Below.drew ?_)); rintro e wq ⟨rfl, hbq⟩; have t0 : wq.cell? ⟨bt, 0, none⟩ = some (.int .i64 100) := (by (try go_split_ands); rw [hbq.cell (by first | assumption | (simp; omega))]; assumption); have t1 : wq.cell? ⟨bt, 1, none⟩ = some (.int .i64 10) := (by (try go_split_ands); rw [hbq.cell (by first | assumption | (simp; omega))]; assumption); have tq : bt < wq.heap.size := Nat.lt_of_lt_of_le (by first | assumption | (simp; omega)) hbq.size; have sswq : w62.heap.size ≤ wq.heap.size := Nat.le_trans (by first | assumption | (simp <;> omega) | omega) hbq.size; (try (have hr1 : RowIs wq w62.heap.size #[.int .i64 0, .int .i64 0] 29 := RowIs.below hr0 hbq; obtain ⟨rhr10, rhr11, zhr10, zhr11, lhr1⟩ := ratrow2 hr1)); (try (have hr2 : RowIs wq wp.heap.size #[.int .i64 0, .int .i64 0] 29 := alloc_row hbq; obtain ⟨rhr20, rhr21, zhr20, zhr21, lhr2⟩ := ratrow2 hr2)))
        | fail))
    all_goals (go_wp2_with fail; go_meet; refine ⟨rfl, ⟨_, rfl⟩, ?_⟩; (with_reducible repeat (first | exact Below.refl _ _ | assumption | refine bup ?_ (by assumption) | refine Below.alloc1 ?_ _ (Nat.le_refl _) | refine Below.drew ?_ | refine set2_below ?_ (by omega))))
  case rest =>
  obtain ⟨rfl, ⟨b63, rfl⟩, hcb⟩ := hcut
  clear PC tc0 tc1 tz
  obtain ⟨w64, hww⟩ : ∃ x, x = wc := ⟨_, rfl⟩
  subst hww
  replace HM := Lib.hid (HM.out.below hcb)
  replace HV := Lib.hid (HV.out.below hcb)
  replace HT := Lib.hid (RowIs.below HT.out hcb)
  replace RA := Lib.hid (RowIs.below RA.out hcb)
  replace RX := Lib.hid (RowIs.below RX.out hcb)
  replace RY := Lib.hid (RowIs.below RY.out hcb)
  replace R17 := Lib.hid (RowIs.below R17.out hcb)
  replace R19 := Lib.hid (RowIs.below R19.out hcb)
  replace HQ := Lib.hid (HQ.out.below hcb)
  replace R25 := Lib.hid (RowIs.below R25.out hcb)
  replace hB := bup hB hcb
  have hC65 := Proof_yes_c (some ⟨gm, 0, none⟩) 4 4 fourM 100 10 true w64 HM.out (by decide) x_both4 x_emp4 x_cost_ne
  try dsimp only [re2, re3, proofV, zeroP] at hC65
  have C65 := Lib.hid hC65
  clear hC65
  obtain ⟨tc0, tc1, _, _, tz⟩ := ratrow2 HT.out
  go_wp2_with fail
  clear hcb tc0 tc1 tz
  refine C65.out.mono ?_
  rintro e w66 ⟨LP, hLP, rfl, hw67⟩
  clear C65
  replace HM := Lib.hid (HM.out.below hw67)
  replace HV := Lib.hid (HV.out.below hw67)
  replace HT := Lib.hid (RowIs.below HT.out hw67)
  replace RA := Lib.hid (RowIs.below RA.out hw67)
  replace RX := Lib.hid (RowIs.below RX.out hw67)
  replace RY := Lib.hid (RowIs.below RY.out hw67)
  replace R17 := Lib.hid (RowIs.below R17.out hw67)
  replace R19 := Lib.hid (RowIs.below R19.out hw67)
  replace HQ := Lib.hid (HQ.out.below hw67)
  replace R25 := Lib.hid (RowIs.below R25.out hw67)
  replace hB := bup hB hw67
  have hq1 := x_proof hLP
  obtain ⟨q1, hqq⟩ : ∃ q1, bestP (costLt 100 10) LP = q1 := ⟨_, rfl⟩
  rw [hqq] at hq1
  rw [hqq]
  have HQ1 := Lib.hid hq1
  clear hq1 hqq hLP
  obtain ⟨Y68, hY68⟩ : ∃ Y68, w66.alloc (.cells #[.int .i64 q1.d, .int .i64 q1.b, .int .i64 q1.l, .int .i64 q1.c] 45) = Y68 := ⟨_, rfl⟩
  have hy69 : Below w66.heap.size w66 Y68 := by rw [← hY68]; exact Below.alloc1 (Below.refl _ _) _ (Nat.le_refl _)
  replace HM := Lib.hid (HM.out.below hy69)
  replace HV := Lib.hid (HV.out.below hy69)
  replace HT := Lib.hid (RowIs.below HT.out hy69)
  replace RA := Lib.hid (RowIs.below RA.out hy69)
  replace RX := Lib.hid (RowIs.below RX.out hy69)
  replace RY := Lib.hid (RowIs.below RY.out hy69)
  replace R17 := Lib.hid (RowIs.below R17.out hy69)
  replace R19 := Lib.hid (RowIs.below R19.out hy69)
  replace HQ := Lib.hid (HQ.out.below hy69)
  replace R25 := Lib.hid (RowIs.below R25.out hy69)
  replace hB := bup hB hy69
  have R29 := Lib.hid (show RowIs Y68 w66.heap.size #[.int .i64 q1.d, .int .i64 q1.b, .int .i64 q1.l, .int .i64 q1.c] 45 by rw [← hY68]; exact heap_new_at _ _ _ rfl)
  obtain ⟨bR29, hbR29⟩ : ∃ bR29, w66.heap.size = bR29 := ⟨_, rfl⟩
  rw [hbR29] at R29
  go_wp2_with fail
  clear hw67 hbR29 hY68 hy69
  have n0 := fun (x : World) (hx : Below Y68.heap.size Y68 x) => CheckNever_c (some ⟨gv, 0, none⟩) 2 2 twoM 100 10 true ⟨0, 220, 1, 0⟩ x (HV.out.below hx) (by decide)
  simp only [x_nev1] at n0
  have N0 := Lib.hid n0
  have T0 := Lib.hid (fun (x : World) => proofT_c 0 220 1 0 x)
  clear n0
  have n1 := fun (x : World) (hx : Below Y68.heap.size Y68 x) => CheckNever_c (some ⟨gv, 0, none⟩) 2 2 twoM 100 10 true ⟨0, 1, 0, 0⟩ x (HV.out.below hx) (by decide)
  simp only [x_nev2] at n1
  have N1 := Lib.hid n1
  have T1 := Lib.hid (fun (x : World) => proofT_c 0 1 0 0 x)
  clear n1
  obtain ⟨tc0, tc1, _, _, tz⟩ := ratrow2 HT.out
  have hlc := fun (x : Later Y68) => later_cell x
  refine wp_region_later (by kernel_rfl) (by kernel_rfl) ?_
  repeat (go_big_quiet_step ((first | (with_reducible refine calls_later (T0.out _)) | (with_reducible refine calls_later (T1.out _)) | (with_reducible refine calls_later (N0.out _ (Later.h _))) | (with_reducible refine calls_later (N1.out _ (Later.h _))))))
  refine wpQuiet_nil ?_
  clear hlc tc0 tc1 tz N0 N1 T0 T1
  rintro ⟨w70, hw71⟩
  replace HM := Lib.hid (HM.out.below hw71)
  replace HV := Lib.hid (HV.out.below hw71)
  replace HT := Lib.hid (RowIs.below HT.out hw71)
  replace RA := Lib.hid (RowIs.below RA.out hw71)
  replace RX := Lib.hid (RowIs.below RX.out hw71)
  replace RY := Lib.hid (RowIs.below RY.out hw71)
  replace R17 := Lib.hid (RowIs.below R17.out hw71)
  replace R19 := Lib.hid (RowIs.below R19.out hw71)
  replace HQ := Lib.hid (HQ.out.below hw71)
  replace R25 := Lib.hid (RowIs.below R25.out hw71)
  replace R29 := Lib.hid (RowIs.below R29.out hw71)
  replace hB := bup hB hw71
  have hC72 := Never_yes_c (some ⟨gv, 0, none⟩) 2 2 twoM 100 10 true w70 HV.out (by decide) x_both2 x_emp2 x_never_ne
  try dsimp only [re2, re3, proofV, zeroP] at hC72
  have C72 := Lib.hid hC72
  clear hC72
  obtain ⟨tc0, tc1, _, _, tz⟩ := ratrow2 HT.out
  go_wp2_with fail
  clear hw71 tc0 tc1 tz
  refine C72.out.mono ?_
  rintro e w73 ⟨LN, hLN, rfl, hw74⟩
  clear C72
  replace HM := Lib.hid (HM.out.below hw74)
  replace HV := Lib.hid (HV.out.below hw74)
  replace HT := Lib.hid (RowIs.below HT.out hw74)
  replace RA := Lib.hid (RowIs.below RA.out hw74)
  replace RX := Lib.hid (RowIs.below RX.out hw74)
  replace RY := Lib.hid (RowIs.below RY.out hw74)
  replace R17 := Lib.hid (RowIs.below R17.out hw74)
  replace R19 := Lib.hid (RowIs.below R19.out hw74)
  replace HQ := Lib.hid (HQ.out.below hw74)
  replace R25 := Lib.hid (RowIs.below R25.out hw74)
  replace R29 := Lib.hid (RowIs.below R29.out hw74)
  replace hB := bup hB hw74
  have hq2 := x_never hLN
  obtain ⟨q2, hqq⟩ : ∃ q2, bestP (neverLt 100 10) LN = q2 := ⟨_, rfl⟩
  rw [hqq] at hq2
  rw [hqq]
  have HQ2 := Lib.hid hq2
  clear hq2 hqq hLN
  obtain ⟨Y75, hY75⟩ : ∃ Y75, w73.alloc (.cells #[.int .i64 q2.d, .int .i64 q2.b, .int .i64 q2.l, .int .i64 q2.c] 45) = Y75 := ⟨_, rfl⟩
  have hy76 : Below w73.heap.size w73 Y75 := by rw [← hY75]; exact Below.alloc1 (Below.refl _ _) _ (Nat.le_refl _)
  replace HM := Lib.hid (HM.out.below hy76)
  replace HV := Lib.hid (HV.out.below hy76)
  replace HT := Lib.hid (RowIs.below HT.out hy76)
  replace RA := Lib.hid (RowIs.below RA.out hy76)
  replace RX := Lib.hid (RowIs.below RX.out hy76)
  replace RY := Lib.hid (RowIs.below RY.out hy76)
  replace R17 := Lib.hid (RowIs.below R17.out hy76)
  replace R19 := Lib.hid (RowIs.below R19.out hy76)
  replace HQ := Lib.hid (HQ.out.below hy76)
  replace R25 := Lib.hid (RowIs.below R25.out hy76)
  replace R29 := Lib.hid (RowIs.below R29.out hy76)
  replace hB := bup hB hy76
  have R33 := Lib.hid (show RowIs Y75 w73.heap.size #[.int .i64 q2.d, .int .i64 q2.b, .int .i64 q2.l, .int .i64 q2.c] 45 by rw [← hY75]; exact heap_new_at _ _ _ rfl)
  obtain ⟨bR33, hbR33⟩ : ∃ bR33, w73.heap.size = bR33 := ⟨_, rfl⟩
  rw [hbR33] at R33
  have hC77 := Never_no_c (some ⟨gm, 0, none⟩) 4 4 fourM 100 10 true Y75 HM.out (by decide) (by rw [x_nev3]; decide)
  rw [x_nev3] at hC77
  try dsimp only [re2, re3, proofV, zeroP] at hC77
  have C77 := Lib.hid hC77
  clear hC77
  obtain ⟨tc0, tc1, _, _, tz⟩ := ratrow2 HT.out
  go_wp2_with fail
  clear hw74 hbR33 hY75 hy76 tc0 tc1 tz
  refine C77.out.mono ?_
  rintro e w78 ⟨rfl, hw79⟩
  clear C77
  replace HM := Lib.hid (HM.out.below hw79)
  replace HV := Lib.hid (HV.out.below hw79)
  replace HT := Lib.hid (RowIs.below HT.out hw79)
  replace RA := Lib.hid (RowIs.below RA.out hw79)
  replace RX := Lib.hid (RowIs.below RX.out hw79)
  replace RY := Lib.hid (RowIs.below RY.out hw79)
  replace R17 := Lib.hid (RowIs.below R17.out hw79)
  replace R19 := Lib.hid (RowIs.below R19.out hw79)
  replace HQ := Lib.hid (HQ.out.below hw79)
  replace R25 := Lib.hid (RowIs.below R25.out hw79)
  replace R29 := Lib.hid (RowIs.below R29.out hw79)
  replace R33 := Lib.hid (RowIs.below R33.out hw79)
  replace hB := bup hB hw79
  obtain ⟨Y80, hY80⟩ : ∃ Y80, w78.alloc (.cells #[.int .i64 0, .int .i64 0, .int .i64 0, .int .i64 0] 45) = Y80 := ⟨_, rfl⟩
  have hy81 : Below w78.heap.size w78 Y80 := by rw [← hY80]; exact Below.alloc1 (Below.refl _ _) _ (Nat.le_refl _)
  have zY80 : RowIs Y80 w78.heap.size #[.int .i64 0, .int .i64 0, .int .i64 0, .int .i64 0] 45 := by rw [← hY80]; exact heap_new_at _ _ _ rfl
  obtain ⟨⟨yY800, yY801, yY802, yY803, yY808⟩, yY804, yY805, yY806, yY807⟩ := qrow (p := zeroP) zY80
  obtain ⟨Z82, hZ82⟩ : ∃ Z82, ((((Y80.setCell ⟨w78.heap.size, 0, none⟩ (.int .i64 0)).setCell ⟨w78.heap.size, 1, none⟩ (.int .i64 0)).setCell ⟨w78.heap.size, 2, none⟩ (.int .i64 0)).setCell ⟨w78.heap.size, 3, none⟩ (.int .i64 0)) = Z82 := ⟨_, rfl⟩
  have hz83 : Below w78.heap.size w78 Z82 := hy81.trans (by rw [← hZ82]; exact (((((Below.refl _ Y80).setCell (p := ⟨w78.heap.size, 0, none⟩) (Nat.le_refl _) _).setCell (p := ⟨w78.heap.size, 1, none⟩) (Nat.le_refl _) _).setCell (p := ⟨w78.heap.size, 2, none⟩) (Nat.le_refl _) _).setCell (p := ⟨w78.heap.size, 3, none⟩) (Nat.le_refl _) _))
  replace HM := Lib.hid (HM.out.below hz83)
  replace HV := Lib.hid (HV.out.below hz83)
  replace HT := Lib.hid (RowIs.below HT.out hz83)
  replace RA := Lib.hid (RowIs.below RA.out hz83)
  replace RX := Lib.hid (RowIs.below RX.out hz83)
  replace RY := Lib.hid (RowIs.below RY.out hz83)
  replace R17 := Lib.hid (RowIs.below R17.out hz83)
  replace R19 := Lib.hid (RowIs.below R19.out hz83)
  replace HQ := Lib.hid (HQ.out.below hz83)
  replace R25 := Lib.hid (RowIs.below R25.out hz83)
  replace R29 := Lib.hid (RowIs.below R29.out hz83)
  replace R33 := Lib.hid (RowIs.below R33.out hz83)
  replace hB := bup hB hz83
  have hC84 := Share_c (some ⟨gm, 0, none⟩) 4 4 fourM 100 10 true 3 Z82 HM.out (by decide) (by decide)
  rw [x_share1] at hC84
  try dsimp only [re2, re3, proofV, zeroP] at hC84
  have C84 := Lib.hid hC84
  clear hC84
  obtain ⟨tc0, tc1, _, _, tz⟩ := ratrow2 HT.out
  go_wp2_with fail
  clear hw79 hY80 hy81 zY80 yY800 yY801 yY802 yY803 yY804 yY805 yY806 yY807 yY808 hZ82 hz83 tc0 tc1 tz
  refine C84.out.mono ?_
  rintro e w85 ⟨rfl, hw86⟩
  clear C84
  replace HM := Lib.hid (HM.out.below hw86)
  replace HV := Lib.hid (HV.out.below hw86)
  replace HT := Lib.hid (RowIs.below HT.out hw86)
  replace RA := Lib.hid (RowIs.below RA.out hw86)
  replace RX := Lib.hid (RowIs.below RX.out hw86)
  replace RY := Lib.hid (RowIs.below RY.out hw86)
  replace R17 := Lib.hid (RowIs.below R17.out hw86)
  replace R19 := Lib.hid (RowIs.below R19.out hw86)
  replace HQ := Lib.hid (HQ.out.below hw86)
  replace R25 := Lib.hid (RowIs.below R25.out hw86)
  replace R29 := Lib.hid (RowIs.below R29.out hw86)
  replace R33 := Lib.hid (RowIs.below R33.out hw86)
  replace hB := bup hB hw86
  obtain ⟨Y87, hY87⟩ : ∃ Y87, (w85.alloc (.cells #[.int .i64 0, .int .i64 1] 29)).alloc (.cells #[.int .i64 5, .int .i64 11] 29) = Y87 := ⟨_, rfl⟩
  have hy88 : Below w85.heap.size w85 Y87 := by rw [← hY87]; exact Below.alloc1 (Below.alloc1 (Below.refl _ _) _ (Nat.le_refl _)) _ (Nat.le_refl _)
  replace HM := Lib.hid (HM.out.below hy88)
  replace HV := Lib.hid (HV.out.below hy88)
  replace HT := Lib.hid (RowIs.below HT.out hy88)
  replace RA := Lib.hid (RowIs.below RA.out hy88)
  replace RX := Lib.hid (RowIs.below RX.out hy88)
  replace RY := Lib.hid (RowIs.below RY.out hy88)
  replace R17 := Lib.hid (RowIs.below R17.out hy88)
  replace R19 := Lib.hid (RowIs.below R19.out hy88)
  replace HQ := Lib.hid (HQ.out.below hy88)
  replace R25 := Lib.hid (RowIs.below R25.out hy88)
  replace R29 := Lib.hid (RowIs.below R29.out hy88)
  replace R33 := Lib.hid (RowIs.below R33.out hy88)
  replace hB := bup hB hy88
  have R37 := Lib.hid (show RowIs Y87 w85.heap.size #[.int .i64 0, .int .i64 1] 29 by rw [← hY87]; exact RowIs.alloc (heap_new_at _ _ _ rfl) _)
  have R38 := Lib.hid (show RowIs Y87 (w85.heap.size + 1) #[.int .i64 5, .int .i64 11] 29 by rw [← hY87]; exact heap_new_at _ _ _ (by simp))
  obtain ⟨bR37, hbR37⟩ : ∃ bR37, w85.heap.size = bR37 := ⟨_, rfl⟩
  rw [hbR37] at R37 R38
  have hC89 := Share_c (some ⟨gm, 0, none⟩) 4 4 fourM 100 10 true 4 Y87 HM.out (by decide) (by decide)
  rw [x_share2] at hC89
  try dsimp only [re2, re3, proofV, zeroP] at hC89
  have C89 := Lib.hid hC89
  clear hC89
  obtain ⟨tc0, tc1, _, _, tz⟩ := ratrow2 HT.out
  go_wp2_with fail
  clear hw86 hY87 hy88 hbR37 tc0 tc1 tz
  refine C89.out.mono ?_
  rintro e w90 ⟨rfl, hw91⟩
  clear C89
  replace HM := Lib.hid (HM.out.below hw91)
  replace HV := Lib.hid (HV.out.below hw91)
  replace HT := Lib.hid (RowIs.below HT.out hw91)
  replace RA := Lib.hid (RowIs.below RA.out hw91)
  replace RX := Lib.hid (RowIs.below RX.out hw91)
  replace RY := Lib.hid (RowIs.below RY.out hw91)
  replace R17 := Lib.hid (RowIs.below R17.out hw91)
  replace R19 := Lib.hid (RowIs.below R19.out hw91)
  replace HQ := Lib.hid (HQ.out.below hw91)
  replace R25 := Lib.hid (RowIs.below R25.out hw91)
  replace R29 := Lib.hid (RowIs.below R29.out hw91)
  replace R33 := Lib.hid (RowIs.below R33.out hw91)
  replace R37 := Lib.hid (RowIs.below R37.out hw91)
  replace R38 := Lib.hid (RowIs.below R38.out hw91)
  replace hB := bup hB hw91
  obtain ⟨Y92, hY92⟩ : ∃ Y92, (w90.alloc (.cells #[.int .i64 0, .int .i64 0] 29)).alloc (.cells #[.int .i64 0, .int .i64 0] 29) = Y92 := ⟨_, rfl⟩
  have hy93 : Below w90.heap.size w90 Y92 := by rw [← hY92]; exact Below.alloc1 (Below.alloc1 (Below.refl _ _) _ (Nat.le_refl _)) _ (Nat.le_refl _)
  have ya : RowIs Y92 w90.heap.size #[.int .i64 0, .int .i64 0] 29 := by rw [← hY92]; exact RowIs.alloc (heap_new_at _ _ _ rfl) _
  have yb : RowIs Y92 (w90.heap.size + 1) #[.int .i64 0, .int .i64 0] 29 := by rw [← hY92]; exact heap_new_at _ _ _ (by simp)
  obtain ⟨ya0, ya1, ya2, ya3, ya4⟩ := ratrow2 ya
  obtain ⟨yb0, yb1, yb2, yb3, yb4⟩ := ratrow2 yb
  obtain ⟨Z94, hZ94⟩ : ∃ Z94, (((Y92.setCell ⟨w90.heap.size, 0, none⟩ (.int .i64 0)).setCell ⟨w90.heap.size, 1, none⟩ (.int .i64 0)).setCell ⟨w90.heap.size + 1, 0, none⟩ (.int .i64 0)).setCell ⟨w90.heap.size + 1, 1, none⟩ (.int .i64 0) = Z94 := ⟨_, rfl⟩
  have hz95 : Below w90.heap.size w90 Z94 := by rw [← hZ94]; exact set2_below (set2_below hy93 (Nat.le_refl _)) (Nat.le_succ _)
  replace HM := Lib.hid (HM.out.below hz95)
  replace HV := Lib.hid (HV.out.below hz95)
  replace HT := Lib.hid (RowIs.below HT.out hz95)
  replace RA := Lib.hid (RowIs.below RA.out hz95)
  replace RX := Lib.hid (RowIs.below RX.out hz95)
  replace RY := Lib.hid (RowIs.below RY.out hz95)
  replace R17 := Lib.hid (RowIs.below R17.out hz95)
  replace R19 := Lib.hid (RowIs.below R19.out hz95)
  replace HQ := Lib.hid (HQ.out.below hz95)
  replace R25 := Lib.hid (RowIs.below R25.out hz95)
  replace R29 := Lib.hid (RowIs.below R29.out hz95)
  replace R33 := Lib.hid (RowIs.below R33.out hz95)
  replace R37 := Lib.hid (RowIs.below R37.out hz95)
  replace R38 := Lib.hid (RowIs.below R38.out hz95)
  replace hB := bup hB hz95
  have hC96 := rcheckProof_c (some ⟨gm, 0, none⟩) 4 4 fourM 100 10 true q1 Z94 HM.out (by decide)
  rw [HQ1.out] at hC96
  try dsimp only [re2, re3, proofV, zeroP] at hC96
  have C96 := Lib.hid hC96
  clear hC96
  obtain ⟨tc0, tc1, _, _, tz⟩ := ratrow2 HT.out
  obtain ⟨pq0, pq1, pq2, pq3, pqz⟩ := prow R29.out
  go_wp2_with fail
  clear hw91 hY92 hy93 ya yb ya0 ya1 ya2 ya3 ya4 yb0 yb1 yb2 yb3 yb4 hZ94 hz95 tc0 tc1 tz pq0 pq1 pq2 pq3 pqz
  refine C96.out.mono ?_
  rintro e w97 ⟨rfl, hw98⟩
  clear C96
  replace HM := Lib.hid (HM.out.below hw98)
  replace HV := Lib.hid (HV.out.below hw98)
  replace HT := Lib.hid (RowIs.below HT.out hw98)
  replace RA := Lib.hid (RowIs.below RA.out hw98)
  replace RX := Lib.hid (RowIs.below RX.out hw98)
  replace RY := Lib.hid (RowIs.below RY.out hw98)
  replace R17 := Lib.hid (RowIs.below R17.out hw98)
  replace R19 := Lib.hid (RowIs.below R19.out hw98)
  replace HQ := Lib.hid (HQ.out.below hw98)
  replace R25 := Lib.hid (RowIs.below R25.out hw98)
  replace R29 := Lib.hid (RowIs.below R29.out hw98)
  replace R33 := Lib.hid (RowIs.below R33.out hw98)
  replace R37 := Lib.hid (RowIs.below R37.out hw98)
  replace R38 := Lib.hid (RowIs.below R38.out hw98)
  replace hB := bup hB hw98
  obtain ⟨Y99, hY99⟩ : ∃ Y99, w97.alloc (.cells #[.int .i64 3959, .int .i64 55] 29) = Y99 := ⟨_, rfl⟩
  have hy100 : Below w97.heap.size w97 Y99 := by rw [← hY99]; exact Below.alloc1 (Below.refl _ _) _ (Nat.le_refl _)
  replace HM := Lib.hid (HM.out.below hy100)
  replace HV := Lib.hid (HV.out.below hy100)
  replace HT := Lib.hid (RowIs.below HT.out hy100)
  replace RA := Lib.hid (RowIs.below RA.out hy100)
  replace RX := Lib.hid (RowIs.below RX.out hy100)
  replace RY := Lib.hid (RowIs.below RY.out hy100)
  replace R17 := Lib.hid (RowIs.below R17.out hy100)
  replace R19 := Lib.hid (RowIs.below R19.out hy100)
  replace HQ := Lib.hid (HQ.out.below hy100)
  replace R25 := Lib.hid (RowIs.below R25.out hy100)
  replace R29 := Lib.hid (RowIs.below R29.out hy100)
  replace R33 := Lib.hid (RowIs.below R33.out hy100)
  replace R37 := Lib.hid (RowIs.below R37.out hy100)
  replace R38 := Lib.hid (RowIs.below R38.out hy100)
  replace hB := bup hB hy100
  have R43 := Lib.hid (show RowIs Y99 w97.heap.size #[.int .i64 3959, .int .i64 55] 29 by rw [← hY99]; exact heap_new_at _ _ _ rfl)
  obtain ⟨bR43, hbR43⟩ : ∃ bR43, w97.heap.size = bR43 := ⟨_, rfl⟩
  rw [hbR43] at R43
  go_wp2_with fail
  clear hw98 hbR43 hY99 hy100
  have d0 := fun (x : World) (hx : Below Y99.heap.size Y99 x) => rdeserves_c (some ⟨gm, 0, none⟩) (some ⟨gq, 0, none⟩) 4 4 4 4 fourM _ 100 10 true x (HM.out.below hx) (HQ.out.below hx) (by decide) (by decide)
  simp only [x_cheap] at d0
  have D0 := Lib.hid d0
  have n0 := fun (x : World) (hx : Below Y99.heap.size Y99 x) => rcheckNever_c (some ⟨gv, 0, none⟩) 2 2 twoM 100 10 true q2 x (HV.out.below hx) (by decide)
  simp only [HQ2.out] at n0
  dsimp only [proofV] at n0
  have N0 := Lib.hid n0
  clear d0 n0
  obtain ⟨pq0, pq1, pq2, pq3, pqz⟩ := prow R33.out
  have BY := Lib.hid (fun (a b : Int) (x : World) => byT_c a b x)
  have heq0 := fun (w : World) => eqRat 3959 55 w
  obtain ⟨v1010, v1011, _, _, v101z⟩ := ratrow2 HT.out
  obtain ⟨v1020, v1021, _, _, v102z⟩ := ratrow2 R43.out
  have hlc := fun (x : Later Y99) => later_cell x
  refine wp_region_later (by kernel_rfl) (by kernel_rfl) ?_
  repeat (go_big_quiet_step ((first | (with_reducible refine calls_later (BY.out _ _ _)) | (with_reducible refine calls_later (D0.out _ (Later.h _))) | (with_reducible refine calls_later (N0.out _ (Later.h _))))))
  refine wpQuiet_nil ?_
  clear BY hlc D0 N0 pq0 pq1 pq2 pq3 pqz heq0 v1010 v1011 v101z v1020 v1021 v102z
  rintro ⟨w103, hw104⟩
  replace HM := Lib.hid (HM.out.below hw104)
  replace HV := Lib.hid (HV.out.below hw104)
  replace HT := Lib.hid (RowIs.below HT.out hw104)
  replace RA := Lib.hid (RowIs.below RA.out hw104)
  replace RX := Lib.hid (RowIs.below RX.out hw104)
  replace RY := Lib.hid (RowIs.below RY.out hw104)
  replace R17 := Lib.hid (RowIs.below R17.out hw104)
  replace R19 := Lib.hid (RowIs.below R19.out hw104)
  replace HQ := Lib.hid (HQ.out.below hw104)
  replace R25 := Lib.hid (RowIs.below R25.out hw104)
  replace R29 := Lib.hid (RowIs.below R29.out hw104)
  replace R33 := Lib.hid (RowIs.below R33.out hw104)
  replace R37 := Lib.hid (RowIs.below R37.out hw104)
  replace R38 := Lib.hid (RowIs.below R38.out hw104)
  replace R43 := Lib.hid (RowIs.below R43.out hw104)
  replace hB := bup hB hw104
  go_wp2_with fail
  clear hw104
  have BY := Lib.hid (fun (a b : Int) (x : World) => byT_c a b x)
  have heq0 := fun (w : World) => eqRat 3959 55 w
  have heq1 := fun (w : World) => eqRat 180 1 w
  have heq2 := fun (w : World) => eqRat 220 1 w
  have heq3 := fun (w : World) => eqRat 610 9 w
  have heq4 := fun (w : World) => eqRat 0 1 w
  have heq5 := fun (w : World) => eqRat 5 11 w
  obtain ⟨v1050, v1051, _, _, v105z⟩ := ratrow2 RA.out
  obtain ⟨v1060, v1061, _, _, v106z⟩ := ratrow2 RX.out
  obtain ⟨v1070, v1071, _, _, v107z⟩ := ratrow2 RY.out
  obtain ⟨v1080, v1081, _, _, v108z⟩ := ratrow2 R17.out
  obtain ⟨v1090, v1091, _, _, v109z⟩ := ratrow2 R19.out
  obtain ⟨v1100, v1101, _, _, v110z⟩ := ratrow2 R25.out
  obtain ⟨v1110, v1111, _, _, v111z⟩ := ratrow2 R37.out
  obtain ⟨v1120, v1121, _, _, v112z⟩ := ratrow2 R38.out
  obtain ⟨v1130, v1131, _, _, v113z⟩ := ratrow2 R43.out
  have hlc := fun (x : Later w103) => later_cell x
  refine wp_region_later (by kernel_rfl) (by kernel_rfl) ?_
  repeat (go_big_quiet_step ((first | (with_reducible refine calls_later (BY.out _ _ _)))))
  refine wpQuiet_nil ?_
  clear BY hlc heq0 heq1 heq2 heq3 heq4 heq5 v1050 v1051 v105z v1060 v1061 v106z v1070 v1071 v107z v1080 v1081 v108z v1090 v1091 v109z v1100 v1101 v110z v1110 v1111 v111z v1120 v1121 v112z v1130 v1131 v113z
  rintro ⟨w114, hw115⟩
  replace HM := Lib.hid (HM.out.below hw115)
  replace HV := Lib.hid (HV.out.below hw115)
  replace HT := Lib.hid (RowIs.below HT.out hw115)
  replace RA := Lib.hid (RowIs.below RA.out hw115)
  replace RX := Lib.hid (RowIs.below RX.out hw115)
  replace RY := Lib.hid (RowIs.below RY.out hw115)
  replace R17 := Lib.hid (RowIs.below R17.out hw115)
  replace R19 := Lib.hid (RowIs.below R19.out hw115)
  replace HQ := Lib.hid (HQ.out.below hw115)
  replace R25 := Lib.hid (RowIs.below R25.out hw115)
  replace R29 := Lib.hid (RowIs.below R29.out hw115)
  replace R33 := Lib.hid (RowIs.below R33.out hw115)
  replace R37 := Lib.hid (RowIs.below R37.out hw115)
  replace R38 := Lib.hid (RowIs.below R38.out hw115)
  replace R43 := Lib.hid (RowIs.below R43.out hw115)
  replace hB := bup hB hw115
  go_wp2
  go_ret
  exact ⟨rfl, hB⟩

end Go.Proofs.YtehafggcncbnkaaGreat
