/- For whatever metals, touch, flags and mixture, the law AlloyMetals returns true, and each argument reads behind the call as it read before. No condition. -/
import Derived.Test.YtfjepnpnphoobaaGreatProg
import Derived.Test.YtfjepnpnphoobaaGreatMetaa
import Derived.Test.YtfjepnpnphoobaaGreatMetac
import Derived.Test.YtfjepnpnphoobaaGreatMetab
import Derived.Test.YtfjepnpnphoobaaGreatMetae
import Derived.Test.YtfjepnpnphoobaaGreatMetaf
import Derived.Test.YtfjepnpnphoobaaGreatMetag
import Derived.Test.YtfjepnpnphoobaaGreatMetav
import Derived.Test.YtfjepnpnphoobaaGreatRows
import Derived.ProofKit
namespace Go.Proofs.YtfjepnpnphoobaaGreat
open Go Go.RowKit

theorem great_c (a b : Option Addr) (n cap len cap2 : Nat) (w : World) : Calls Tryz.prog 17 #[.slice a n cap, .slice b len cap2] w fun e w' => e = .returned (.bool (decide (12 < n) || decide (12 < len))) ∧ w = w' := by
  by_cases h : 12 < n
  · have h' : ((12 : Int) < n) := by omega
    go_enter Tryz.func17, Tryz.ntmps17
    go_wp2
    go_ret
    exact ⟨by simp [h], rfl⟩
  · have h' : ¬ ((12 : Int) < n) := by omega
    by_cases h2 : 12 < len
    · have h2' : ((12 : Int) < len) := by omega
      go_enter Tryz.func17, Tryz.ntmps17
      go_wp2
      go_ret
      exact ⟨by simp, rfl⟩
    · have h2' : ¬ ((12 : Int) < len) := by omega
      go_enter Tryz.func17, Tryz.ntmps17
      go_wp2
      go_ret
      exact ⟨by simp, rfl⟩

set_option maxRecDepth 100000 in
set_option maxHeartbeats 16000000 in
theorem law_metals_c (a b : Option Addr) (n cap len cap2 : Nat) (m : Nat → M5) (f : Nat → Int) (l c : Int) (sure copper : Bool) (w : World) (hm : Metals w a n m) (hf : Ints w b len f) :
    Calls Tryz.prog 3 #[.slice a n cap, .agg #[.int .i64 l, .int .i64 c], .bool sure, .bool copper, .slice b len cap2] w fun e w' => e = .returned (.bool true) ∧ Below w.heap.size w w' := by
  obtain ⟨W, hW⟩ : ∃ W, w.alloc (.cells #[.int .i64 l, .int .i64 c] 24) = W := ⟨_, rfl⟩
  have hB : Below w.heap.size w W := by rw [← hW]; exact Below.alloc1 (Below.refl _ _) _ (Nat.le_refl _)
  have HT := Lib.hid (show RowIs W w.heap.size #[.int .i64 l, .int .i64 c] 24 by rw [← hW]; exact heap_new_at _ _ _ rfl)
  have HG := Lib.hid (fun (x : World) => great_c a b n cap len cap2 x)
  have HM := Lib.hid (hm.below hB)
  have HF := Lib.hid (hf.below hB)
  obtain ⟨bt, hbt⟩ : ∃ bt, w.heap.size = bt := ⟨_, rfl⟩
  rw [hbt] at HT
  clear hm hf
  cases hg : (decide (12 < n) || decide (12 < len)) with
  | true =>
    go_enter Tryz.func3, Tryz.ntmps3
    go_wp2_with fail
    refine (HG.out _).mono ?_
    rintro e w1 ⟨rfl, rfl⟩
    rw [hg]
    go_wp2_with fail
    refine (works_c _).mono ?_
    rintro e w2 ⟨rfl, hb2⟩
    go_wp2
    go_ret
    exact ⟨rfl, bup hB hb2⟩
  | false =>
  have hn : n ≤ 1048576 := by simp at hg; omega
  have hl : len ≤ 1048576 := by simp at hg; omega
  have hN : n ≤ 9223372036854775807 := by omega
  rcases hC : costR n m len f with ⟨x1, x2, x3⟩
  rcases hE : endsR n m len f copper with ⟨⟨y1, y2⟩, ⟨z1, z2⟩, y3⟩
  go_enter Tryz.func3, Tryz.ntmps3
  go_wp2_with fail
  refine (HG.out _).mono ?_
  rintro e w1 ⟨rfl, rfl⟩
  rw [hg]
  have hC1 := Cost_c a b n cap len cap2 m f W HM.out HF.out hn hl
  rw [hC] at hC1
  try dsimp only [re2, re3, proofV, zeroP] at hC1
  have C1 := Lib.hid hC1
  clear hC1
  go_wp2_with fail
  clear hW hbt HG
  refine C1.out.mono ?_
  rintro e w2 ⟨rfl, hw3⟩
  clear C1
  replace HM := Lib.hid (HM.out.below hw3)
  replace HF := Lib.hid (HF.out.below hw3)
  replace HT := Lib.hid (RowIs.below HT.out hw3)
  replace hB := bup hB hw3
  obtain ⟨Y4, hY4⟩ : ∃ Y4, w2.alloc (.cells #[.int .i64 x1, .int .i64 x2] 29) = Y4 := ⟨_, rfl⟩
  have hy5 : Below w2.heap.size w2 Y4 := by rw [← hY4]; exact Below.alloc1 (Below.refl _ _) _ (Nat.le_refl _)
  replace HM := Lib.hid (HM.out.below hy5)
  replace HF := Lib.hid (HF.out.below hy5)
  replace HT := Lib.hid (RowIs.below HT.out hy5)
  replace hB := bup hB hy5
  have RA := Lib.hid (show RowIs Y4 w2.heap.size #[.int .i64 x1, .int .i64 x2] 29 by rw [← hY4]; exact heap_new_at _ _ _ rfl)
  obtain ⟨bRA, hbRA⟩ : ∃ bRA, w2.heap.size = bRA := ⟨_, rfl⟩
  rw [hbRA] at RA
  have hC6 := rcost_c a b n cap len cap2 m f Y4 HM.out HF.out hn hl
  rw [hC] at hC6
  try dsimp only [re2, re3, proofV, zeroP] at hC6
  have C6 := Lib.hid hC6
  clear hC6
  go_wp2_with fail
  clear hw3 hbRA hY4 hy5
  refine C6.out.mono ?_
  rintro e w7 ⟨rfl, hw8⟩
  clear C6
  replace HM := Lib.hid (HM.out.below hw8)
  replace HF := Lib.hid (HF.out.below hw8)
  replace HT := Lib.hid (RowIs.below HT.out hw8)
  replace RA := Lib.hid (RowIs.below RA.out hw8)
  replace hB := bup hB hw8
  obtain ⟨Y9, hY9⟩ : ∃ Y9, w7.alloc (.cells #[.int .i64 x1, .int .i64 x2] 29) = Y9 := ⟨_, rfl⟩
  have hy10 : Below w7.heap.size w7 Y9 := by rw [← hY9]; exact Below.alloc1 (Below.refl _ _) _ (Nat.le_refl _)
  replace HM := Lib.hid (HM.out.below hy10)
  replace HF := Lib.hid (HF.out.below hy10)
  replace HT := Lib.hid (RowIs.below HT.out hy10)
  replace RA := Lib.hid (RowIs.below RA.out hy10)
  replace hB := bup hB hy10
  have RB := Lib.hid (show RowIs Y9 w7.heap.size #[.int .i64 x1, .int .i64 x2] 29 by rw [← hY9]; exact heap_new_at _ _ _ rfl)
  obtain ⟨bRB, hbRB⟩ : ∃ bRB, w7.heap.size = bRB := ⟨_, rfl⟩
  rw [hbRB] at RB
  have hC11 := Ends_c a b n cap len cap2 m f copper Y9 HM.out HF.out hn hl
  rw [hE] at hC11
  try dsimp only [re2, re3, proofV, zeroP] at hC11
  have C11 := Lib.hid hC11
  clear hC11
  go_wp2_with fail
  clear hw8 hbRB hY9 hy10
  refine C11.out.mono ?_
  rintro e w12 ⟨rfl, hw13⟩
  clear C11
  replace HM := Lib.hid (HM.out.below hw13)
  replace HF := Lib.hid (HF.out.below hw13)
  replace HT := Lib.hid (RowIs.below HT.out hw13)
  replace RA := Lib.hid (RowIs.below RA.out hw13)
  replace RB := Lib.hid (RowIs.below RB.out hw13)
  replace hB := bup hB hw13
  obtain ⟨Y14, hY14⟩ : ∃ Y14, (w12.alloc (.cells #[.int .i64 y1, .int .i64 y2] 29)).alloc (.cells #[.int .i64 z1, .int .i64 z2] 29) = Y14 := ⟨_, rfl⟩
  have hy15 : Below w12.heap.size w12 Y14 := by rw [← hY14]; exact Below.alloc1 (Below.alloc1 (Below.refl _ _) _ (Nat.le_refl _)) _ (Nat.le_refl _)
  replace HM := Lib.hid (HM.out.below hy15)
  replace HF := Lib.hid (HF.out.below hy15)
  replace HT := Lib.hid (RowIs.below HT.out hy15)
  replace RA := Lib.hid (RowIs.below RA.out hy15)
  replace RB := Lib.hid (RowIs.below RB.out hy15)
  replace hB := bup hB hy15
  have RX := Lib.hid (show RowIs Y14 w12.heap.size #[.int .i64 y1, .int .i64 y2] 29 by rw [← hY14]; exact RowIs.alloc (heap_new_at _ _ _ rfl) _)
  have RY := Lib.hid (show RowIs Y14 (w12.heap.size + 1) #[.int .i64 z1, .int .i64 z2] 29 by rw [← hY14]; exact heap_new_at _ _ _ (by simp))
  obtain ⟨bRX, hbRX⟩ : ∃ bRX, w12.heap.size = bRX := ⟨_, rfl⟩
  rw [hbRX] at RX RY
  have hC16 := rEnds_c a b n cap len cap2 m f copper Y14 HM.out HF.out hn hl
  rw [hE] at hC16
  try dsimp only [re2, re3, proofV, zeroP] at hC16
  have C16 := Lib.hid hC16
  clear hC16
  go_wp2_with fail
  clear hw13 hY14 hy15 hbRX
  refine C16.out.mono ?_
  rintro e w17 ⟨rfl, hw18⟩
  clear C16
  replace HM := Lib.hid (HM.out.below hw18)
  replace HF := Lib.hid (HF.out.below hw18)
  replace HT := Lib.hid (RowIs.below HT.out hw18)
  replace RA := Lib.hid (RowIs.below RA.out hw18)
  replace RB := Lib.hid (RowIs.below RB.out hw18)
  replace RX := Lib.hid (RowIs.below RX.out hw18)
  replace RY := Lib.hid (RowIs.below RY.out hw18)
  replace hB := bup hB hw18
  obtain ⟨Y19, hY19⟩ : ∃ Y19, (w17.alloc (.cells #[.int .i64 y1, .int .i64 y2] 29)).alloc (.cells #[.int .i64 z1, .int .i64 z2] 29) = Y19 := ⟨_, rfl⟩
  have hy20 : Below w17.heap.size w17 Y19 := by rw [← hY19]; exact Below.alloc1 (Below.alloc1 (Below.refl _ _) _ (Nat.le_refl _)) _ (Nat.le_refl _)
  replace HM := Lib.hid (HM.out.below hy20)
  replace HF := Lib.hid (HF.out.below hy20)
  replace HT := Lib.hid (RowIs.below HT.out hy20)
  replace RA := Lib.hid (RowIs.below RA.out hy20)
  replace RB := Lib.hid (RowIs.below RB.out hy20)
  replace RX := Lib.hid (RowIs.below RX.out hy20)
  replace RY := Lib.hid (RowIs.below RY.out hy20)
  replace hB := bup hB hy20
  have RV := Lib.hid (show RowIs Y19 w17.heap.size #[.int .i64 y1, .int .i64 y2] 29 by rw [← hY19]; exact RowIs.alloc (heap_new_at _ _ _ rfl) _)
  have RW := Lib.hid (show RowIs Y19 (w17.heap.size + 1) #[.int .i64 z1, .int .i64 z2] 29 by rw [← hY19]; exact heap_new_at _ _ _ (by simp))
  obtain ⟨bRV, hbRV⟩ : ∃ bRV, w17.heap.size = bRV := ⟨_, rfl⟩
  rw [hbRV] at RV RW
  go_wp2_with fail
  clear hw18 hY19 hy20 hbRV
  have A0 := Lib.hid (fun (x : World) (hx : Below Y19.heap.size Y19 x) => checkMetals_c a n cap m x (HM.out.below hx) hN)
  have A1 := Lib.hid (fun (x : World) (hx : Below Y19.heap.size Y19 x) => rcheckMetals_c a n cap m x (HM.out.below hx) hN)
  have A2 := Lib.hid (fun (x : World) => checkTouch_c l c x)
  have A3 := Lib.hid (fun (x : World) => rcheckTouch_c l c x)
  have heq0 := fun (w : World) => eqRat x1 x2 w
  have heq1 := fun (w : World) => eqRat y1 y2 w
  have heq2 := fun (w : World) => eqRat z1 z2 w
  obtain ⟨v210, v211, _, _, v21z⟩ := ratrow2 HT.out
  obtain ⟨v220, v221, _, _, v22z⟩ := ratrow2 RA.out
  obtain ⟨v230, v231, _, _, v23z⟩ := ratrow2 RB.out
  obtain ⟨v240, v241, _, _, v24z⟩ := ratrow2 RX.out
  obtain ⟨v250, v251, _, _, v25z⟩ := ratrow2 RY.out
  obtain ⟨v260, v261, _, _, v26z⟩ := ratrow2 RV.out
  obtain ⟨v270, v271, _, _, v27z⟩ := ratrow2 RW.out
  have hlc := fun (x : Later Y19) => later_cell x
  refine wp_region_later (by kernel_rfl) (by kernel_rfl) ?_
  repeat (go_big_quiet_step ((first | (with_reducible refine calls_later (A0.out _ (Later.h _))) | (with_reducible refine calls_later (A1.out _ (Later.h _))) | (with_reducible refine calls_later (A2.out _)) | (with_reducible refine calls_later (A3.out _)))))
  refine wpQuiet_nil ?_
  clear hlc A0 A1 A2 A3 heq0 heq1 heq2 v210 v211 v21z v220 v221 v22z v230 v231 v23z v240 v241 v24z v250 v251 v25z v260 v261 v26z v270 v271 v27z
  rintro ⟨w28, hw29⟩
  replace HM := Lib.hid (HM.out.below hw29)
  replace HF := Lib.hid (HF.out.below hw29)
  replace HT := Lib.hid (RowIs.below HT.out hw29)
  replace RA := Lib.hid (RowIs.below RA.out hw29)
  replace RB := Lib.hid (RowIs.below RB.out hw29)
  replace RX := Lib.hid (RowIs.below RX.out hw29)
  replace RY := Lib.hid (RowIs.below RY.out hw29)
  replace RV := Lib.hid (RowIs.below RV.out hw29)
  replace RW := Lib.hid (RowIs.below RW.out hw29)
  replace hB := bup hB hw29
  go_wp2_with fail
  clear hw29
  have A0 := Lib.hid (fun (x : World) (hx : Below w28.heap.size w28 x) => Deserves_c a b n cap len cap2 m f l c sure x (HM.out.below hx) (HF.out.below hx) hn hl)
  have A1 := Lib.hid (fun (x : World) (hx : Below w28.heap.size w28 x) => rdeserves_c a b n cap len cap2 m f l c sure x (HM.out.below hx) (HF.out.below hx) hn hl)
  have A2 := Lib.hid works_c
  obtain ⟨v300, v301, _, _, v30z⟩ := ratrow2 HT.out
  have hlc := fun (x : Later w28) => later_cell x
  refine wp_region_later (by kernel_rfl) (by kernel_rfl) ?_
  repeat (go_big_quiet_step ((first | (with_reducible refine calls_later (A0.out _ (Later.h _))) | (with_reducible refine calls_later (A1.out _ (Later.h _))) | (with_reducible refine calls_later (A2.out _)))))
  refine wpQuiet_nil ?_
  clear hlc A0 A1 A2 v300 v301 v30z
  rintro ⟨w31, hw32⟩
  replace HM := Lib.hid (HM.out.below hw32)
  replace HF := Lib.hid (HF.out.below hw32)
  replace HT := Lib.hid (RowIs.below HT.out hw32)
  replace RA := Lib.hid (RowIs.below RA.out hw32)
  replace RB := Lib.hid (RowIs.below RB.out hw32)
  replace RX := Lib.hid (RowIs.below RX.out hw32)
  replace RY := Lib.hid (RowIs.below RY.out hw32)
  replace RV := Lib.hid (RowIs.below RV.out hw32)
  replace RW := Lib.hid (RowIs.below RW.out hw32)
  replace hB := bup hB hw32
  go_wp2
  go_ret
  exact ⟨rfl, hB⟩

end Go.Proofs.YtfjepnpnphoobaaGreat

namespace Go.Proofs.YtfjepnpnphoobaaGreat
open Go Go.RowKit Go.ChangeShapes Go.WideShapes Go.ChangeAt

theorem own : ownKnob Tryz.prog.godebug = .none := by kernel_rfl
theorem laidOut : laidOutB Tryz.prog = true := by kernel_rfl

set_option maxRecDepth 100000 in
theorem metals_lifted (os : Os) (started : os.Started) (H : Type) (enc : TypeId × Value → H) :
    ReturnsInHanded {} Tryz.checked os 3 .any (Rows.alloyMetalsSpec.pre6 enc Tryz.prog Tryz.f3 Rows.alloyMetalsRow.domain false) (Rows.alloyMetalsSpec.post enc Tryz.prog Tryz.f3 false true false false) := by
  refine returnsInHanded_of_change (C := Tryz.checked) own started (by kernel_rfl) Tryz.func3
    (ChangeSpec.witness6 (enc := enc) (C := Tryz.checked) false ⟨#[], #[.slice .none 0 0, .agg #[.int .i64 0, .int .i64 0], .bool false, .bool false, .slice .none 0 0], []⟩ 8 (by kernel_rfl) (by kernel_rfl) (by kernel_rfl) (by kernel_rfl)) ?_
  intro W base args ds gs before hval0 hW hcnd _
  have hval : ∀ (j : Nat) t v, Tryz.f3.params[j]? = some t → args[j]? = some v → Value.okWide Tryz.prog W .any base t v := hval0
  have hW' := hW
  obtain ⟨p, q, hA0, hV, rfl, hfz, hnd⟩ := hW
  have hA : DataW.TrodAll enc Tryz.prog W 0 (fun _ => true) true Tryz.f3.params.toList args.toList ds p := hA0
  rw [Tryz.params3] at hA hval
  obtain ⟨v0, vs0, d0, ds0, p0, q0, hargs, rfl, rfl, h0, r0⟩ := trodAll_cons hA
  obtain ⟨v1, vs1, d1, ds1, p1, q1, rfl, rfl, rfl, h1, r1⟩ := trodAll_cons r0
  obtain ⟨v2, vs2, d2, ds2, p2, q2, rfl, rfl, rfl, h2, r2⟩ := trodAll_cons r1
  obtain ⟨v3, vs3, d3, ds3, p3, q3, rfl, rfl, rfl, h3, r3⟩ := trodAll_cons r2
  obtain ⟨v4, vs4, d4, ds4, p4, q4, rfl, rfl, rfl, h4, r4⟩ := trodAll_cons r3
  obtain ⟨rfl, rfl, rfl⟩ := trodAll_nil r4
  obtain rfl : args = #[v0, v1, v2, v3, v4] := by cases args; simp_all
  obtain ⟨rfl, rfl⟩ := trodVars_none hV
  obtain ⟨a, n, cap, m, rfl, hM⟩ := open_metals (hval 0 22 v0 rfl rfl) h0
  obtain ⟨l, c, rfl⟩ := open_touch (hval 1 24 v1 rfl rfl) h1
  obtain ⟨s, hs, _, _⟩ := open_bool Tryz.underlying4 (hval 2 4 v2 rfl rfl) h2
  obtain ⟨co, hco, _, _⟩ := open_bool Tryz.underlying4 (hval 3 4 v3 rfl rfl) h3
  obtain ⟨b, len, cap2, f, rfl, hF⟩ := open_ints64 (hval 4 25 v4 rfl rfl) h4
  subst hs hco
  refine (law_metals_c a b n cap len cap2 m f l c s co W hM hF).mono fun e W' ⟨he, hb⟩ => ?_
  subst he
  have hlt := hW'.lt
  simp only [List.append_nil, List.mem_append] at hlt
  refine ⟨_, rfl, _, _, _, [], p0 ++ (p1 ++ (p2 ++ (p3 ++ (p4 ++ [])))), [], hW', trodAll_mk1 (shut_bool Tryz.underlying4 true), ?_, rfl, hb.frame _, fun h => Bool.noConfusion h⟩
  exact trodAll_cons_mk (Below.trod laidOut (by kernel_rfl) (of_decide_eq_true (by kernel_rfl)) h0 hb fun x hx => hlt x (by simp [hx]))
    (trodAll_cons_mk (Below.trod laidOut (by kernel_rfl) (of_decide_eq_true (by kernel_rfl)) h1 hb fun x hx => hlt x (by simp [hx]))
    (trodAll_cons_mk (Below.trod laidOut (by kernel_rfl) (of_decide_eq_true (by kernel_rfl)) h2 hb fun x hx => hlt x (by simp [hx]))
    (trodAll_cons_mk (Below.trod laidOut (by kernel_rfl) (of_decide_eq_true (by kernel_rfl)) h3 hb fun x hx => hlt x (by simp [hx]))
    (trodAll_cons_mk (Below.trod laidOut (by kernel_rfl) (of_decide_eq_true (by kernel_rfl)) h4 hb fun x hx => hlt x (by simp [hx])) trodAll_mk0))))

theorem metals_holds : Rows.AlloyMetalsSaid :=
  OpenClaim.holds_of_wide 3 Tryz.f3 rfl rfl rfl rfl rfl rfl rfl ⟨rfl, rfl, rfl, rfl, rfl⟩ rfl rfl rfl rfl rfl (by kernel_rfl) Tryz.func3 (by kernel_rfl)
    (of_decide_eq_true (by kernel_rfl)) (by unfold Func.isWrapper; first | (rw [if_pos (by decide +kernel)]; kernel_rfl) | (rw [if_neg (by decide +kernel)]; exact ⟨rfl, rfl⟩))
    (fun os started H enc _ => metals_lifted os started H enc)
end Go.Proofs.YtfjepnpnphoobaaGreat
