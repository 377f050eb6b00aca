/- The law AlloyMetals answers true. Written by tools/lawmetals.py. -/
import Derived.Test.YtehafggcncbnkaaGreatProg
import Derived.Test.YtehafggcncbnkaaGreatBasaa
import Derived.Test.YtehafggcncbnkaaGreatBasab
import Derived.Test.YtehafggcncbnkaaGreatBasad
import Derived.Test.YtehafggcncbnkaaGreatBasae
import Derived.Test.YtehafggcncbnkaaGreatBasaf
import Derived.Test.YtehafggcncbnkaaGreatBasaq
import Derived.Test.YtehafggcncbnkaaGreatBasai
import Derived.Test.YtehafggcncbnkaaGreatBasaj
import Derived.Test.YtehafggcncbnkaaGreatBasap
import Derived.Test.YtehafggcncbnkaaGreatBasak
namespace Go.Proofs.YtehafggcncbnkaaGreat
open Go Go.RowKit

theorem great_c (a b : Option Addr) (n cap len cap2 : Nat) (w : World) : Calls Tryz.prog 17 #[.slice a n cap, .slice b len cap2] w fun e w' => e = .returned (.bool (decide (12 < n) || decide (12 < len))) ∧ w = w' := by
  by_cases h : 12 < n
  · have h' : ((12 : Int) < n) := by omega
    go_enter Tryz.func17, Tryz.ntmps17
    go_wp2
    go_ret
    exact ⟨by simp [h], rfl⟩
  · have h' : ¬ ((12 : Int) < n) := by omega
    by_cases h2 : 12 < len
    · have h2' : ((12 : Int) < len) := by omega
      go_enter Tryz.func17, Tryz.ntmps17
      go_wp2
      go_ret
      exact ⟨by simp, rfl⟩
    · have h2' : ¬ ((12 : Int) < len) := by omega
      go_enter Tryz.func17, Tryz.ntmps17
      go_wp2
      go_ret
      exact ⟨by simp, rfl⟩

set_option maxRecDepth 100000 in
set_option maxHeartbeats 16000000 in
theorem law_metals_c (a b : Option Addr) (n cap len cap2 : Nat) (m : Nat → M5) (f : Nat → Int) (l c : Int) (sure copper : Bool) (w : World) (hm : Metals w a n m) (hf : Ints w b len f) :
    Calls Tryz.prog 3 #[.slice a n cap, .agg #[.int .i64 l, .int .i64 c], .bool sure, .bool copper, .slice b len cap2] w fun e w' => e = .returned (.bool true) ∧ Below w.heap.size w w' := by
  obtain ⟨W, hW⟩ : ∃ W, w.alloc (.cells #[.int .i64 l, .int .i64 c] 24) = W := ⟨_, rfl⟩
  have hB : Below w.heap.size w W := by rw [← hW]; exact Below.alloc1 (Below.refl _ _) _ (Nat.le_refl _)
  have HT := Lib.hid (show RowIs W w.heap.size #[.int .i64 l, .int .i64 c] 24 by rw [← hW]; exact heap_new_at _ _ _ rfl)
  have HG := Lib.hid (fun (x : World) => great_c a b n cap len cap2 x)
  have HM := Lib.hid (hm.below hB)
  have HF := Lib.hid (hf.below hB)
  obtain ⟨bt, hbt⟩ : ∃ bt, w.heap.size = bt := ⟨_, rfl⟩
  rw [hbt] at HT
  clear hm hf
  cases hg : (decide (12 < n) || decide (12 < len)) with
  | true =>
    go_enter Tryz.func3, Tryz.ntmps3
    go_wp2_with fail
    refine (HG.out _).mono ?_
    rintro e w1 ⟨rfl, rfl⟩
    rw [hg]
    go_wp2_with fail
    refine (works_c _).mono ?_
    rintro e w2 ⟨rfl, hb2⟩
    go_wp2
    go_ret
    exact ⟨rfl, bup hB hb2⟩
  | false =>
  have hn : n ≤ 1048576 := by simp at hg; omega
  have hl : len ≤ 1048576 := by simp at hg; omega
  have hN : n ≤ 9223372036854775807 := by omega
  rcases hC : costR n m len f with ⟨x1, x2, x3⟩
  rcases hE : endsR n m len f copper with ⟨⟨y1, y2⟩, ⟨z1, z2⟩, y3⟩
  go_enter Tryz.func3, Tryz.ntmps3
  go_wp2_with fail
  refine (HG.out _).mono ?_
  rintro e w1 ⟨rfl, rfl⟩
  rw [hg]
  have hC1 := Cost_c a b n cap len cap2 m f W HM.out HF.out hn hl
  rw [hC] at hC1
  try dsimp only [re2, re3, proofV, zeroP] at hC1
  have C1 := Lib.hid hC1
  clear hC1
  go_wp2_with fail
  clear hW hbt HG
  refine C1.out.mono ?_
  rintro e w2 ⟨rfl, hw3⟩
  clear C1
  replace HM := Lib.hid (HM.out.below hw3)
  replace HF := Lib.hid (HF.out.below hw3)
  replace HT := Lib.hid (RowIs.below HT.out hw3)
  replace hB := bup hB hw3
  obtain ⟨Y4, hY4⟩ : ∃ Y4, w2.alloc (.cells #[.int .i64 x1, .int .i64 x2] 29) = Y4 := ⟨_, rfl⟩
  have hy5 : Below w2.heap.size w2 Y4 := by rw [← hY4]; exact Below.alloc1 (Below.refl _ _) _ (Nat.le_refl _)
  replace HM := Lib.hid (HM.out.below hy5)
  replace HF := Lib.hid (HF.out.below hy5)
  replace HT := Lib.hid (RowIs.below HT.out hy5)
  replace hB := bup hB hy5
  have RA := Lib.hid (show RowIs Y4 w2.heap.size #[.int .i64 x1, .int .i64 x2] 29 by rw [← hY4]; exact heap_new_at _ _ _ rfl)
  obtain ⟨bRA, hbRA⟩ : ∃ bRA, w2.heap.size = bRA := ⟨_, rfl⟩
  rw [hbRA] at RA
  have hC6 := rcost_c a b n cap len cap2 m f Y4 HM.out HF.out hn hl
  rw [hC] at hC6
  try dsimp only [re2, re3, proofV, zeroP] at hC6
  have C6 := Lib.hid hC6
  clear hC6
  go_wp2_with fail
  clear hw3 hbRA hY4 hy5
  refine C6.out.mono ?_
  rintro e w7 ⟨rfl, hw8⟩
  clear C6
  replace HM := Lib.hid (HM.out.below hw8)
  replace HF := Lib.hid (HF.out.below hw8)
  replace HT := Lib.hid (RowIs.below HT.out hw8)
  replace RA := Lib.hid (RowIs.below RA.out hw8)
  replace hB := bup hB hw8
  obtain ⟨Y9, hY9⟩ : ∃ Y9, w7.alloc (.cells #[.int .i64 x1, .int .i64 x2] 29) = Y9 := ⟨_, rfl⟩
  have hy10 : Below w7.heap.size w7 Y9 := by rw [← hY9]; exact Below.alloc1 (Below.refl _ _) _ (Nat.le_refl _)
  replace HM := Lib.hid (HM.out.below hy10)
  replace HF := Lib.hid (HF.out.below hy10)
  replace HT := Lib.hid (RowIs.below HT.out hy10)
  replace RA := Lib.hid (RowIs.below RA.out hy10)
  replace hB := bup hB hy10
  have RB := Lib.hid (show RowIs Y9 w7.heap.size #[.int .i64 x1, .int .i64 x2] 29 by rw [← hY9]; exact heap_new_at _ _ _ rfl)
  obtain ⟨bRB, hbRB⟩ : ∃ bRB, w7.heap.size = bRB := ⟨_, rfl⟩
  rw [hbRB] at RB
  have hC11 := Ends_c a b n cap len cap2 m f copper Y9 HM.out HF.out hn hl
  rw [hE] at hC11
  try dsimp only [re2, re3, proofV, zeroP] at hC11
  have C11 := Lib.hid hC11
  clear hC11
  go_wp2_with fail
  clear hw8 hbRB hY9 hy10
  refine C11.out.mono ?_
  rintro e w12 ⟨rfl, hw13⟩
  clear C11
  replace HM := Lib.hid (HM.out.below hw13)
  replace HF := Lib.hid (HF.out.below hw13)
  replace HT := Lib.hid (RowIs.below HT.out hw13)
  replace RA := Lib.hid (RowIs.below RA.out hw13)
  replace RB := Lib.hid (RowIs.below RB.out hw13)
  replace hB := bup hB hw13
  obtain ⟨Y14, hY14⟩ : ∃ Y14, (w12.alloc (.cells #[.int .i64 y1, .int .i64 y2] 29)).alloc (.cells #[.int .i64 z1, .int .i64 z2] 29) = Y14 := ⟨_, rfl⟩
  have hy15 : Below w12.heap.size w12 Y14 := by rw [← hY14]; exact Below.alloc1 (Below.alloc1 (Below.refl _ _) _ (Nat.le_refl _)) _ (Nat.le_refl _)
  replace HM := Lib.hid (HM.out.below hy15)
  replace HF := Lib.hid (HF.out.below hy15)
  replace HT := Lib.hid (RowIs.below HT.out hy15)
  replace RA := Lib.hid (RowIs.below RA.out hy15)
  replace RB := Lib.hid (RowIs.below RB.out hy15)
  replace hB := bup hB hy15
  have RX := Lib.hid (show RowIs Y14 w12.heap.size #[.int .i64 y1, .int .i64 y2] 29 by rw [← hY14]; exact RowIs.alloc (heap_new_at _ _ _ rfl) _)
  have RY := Lib.hid (show RowIs Y14 (w12.heap.size + 1) #[.int .i64 z1, .int .i64 z2] 29 by rw [← hY14]; exact heap_new_at _ _ _ (by simp))
  obtain ⟨bRX, hbRX⟩ : ∃ bRX, w12.heap.size = bRX := ⟨_, rfl⟩
  rw [hbRX] at RX RY
  have hC16 := rEnds_c a b n cap len cap2 m f copper Y14 HM.out HF.out hn hl
  rw [hE] at hC16
  try dsimp only [re2, re3, proofV, zeroP] at hC16
  have C16 := Lib.hid hC16
  clear hC16
  go_wp2_with fail
  clear hw13 hY14 hy15 hbRX
  refine C16.out.mono ?_
  rintro e w17 ⟨rfl, hw18⟩
  clear C16
  replace HM := Lib.hid (HM.out.below hw18)
  replace HF := Lib.hid (HF.out.below hw18)
  replace HT := Lib.hid (RowIs.below HT.out hw18)
  replace RA := Lib.hid (RowIs.below RA.out hw18)
  replace RB := Lib.hid (RowIs.below RB.out hw18)
  replace RX := Lib.hid (RowIs.below RX.out hw18)
  replace RY := Lib.hid (RowIs.below RY.out hw18)
  replace hB := bup hB hw18
  obtain ⟨Y19, hY19⟩ : ∃ Y19, (w17.alloc (.cells #[.int .i64 y1, .int .i64 y2] 29)).alloc (.cells #[.int .i64 z1, .int .i64 z2] 29) = Y19 := ⟨_, rfl⟩
  have hy20 : Below w17.heap.size w17 Y19 := by rw [← hY19]; exact Below.alloc1 (Below.alloc1 (Below.refl _ _) _ (Nat.le_refl _)) _ (Nat.le_refl _)
  replace HM := Lib.hid (HM.out.below hy20)
  replace HF := Lib.hid (HF.out.below hy20)
  replace HT := Lib.hid (RowIs.below HT.out hy20)
  replace RA := Lib.hid (RowIs.below RA.out hy20)
  replace RB := Lib.hid (RowIs.below RB.out hy20)
  replace RX := Lib.hid (RowIs.below RX.out hy20)
  replace RY := Lib.hid (RowIs.below RY.out hy20)
  replace hB := bup hB hy20
  have RV := Lib.hid (show RowIs Y19 w17.heap.size #[.int .i64 y1, .int .i64 y2] 29 by rw [← hY19]; exact RowIs.alloc (heap_new_at _ _ _ rfl) _)
  have RW := Lib.hid (show RowIs Y19 (w17.heap.size + 1) #[.int .i64 z1, .int .i64 z2] 29 by rw [← hY19]; exact heap_new_at _ _ _ (by simp))
  obtain ⟨bRV, hbRV⟩ : ∃ bRV, w17.heap.size = bRV := ⟨_, rfl⟩
  rw [hbRV] at RV RW
  go_wp2_with fail
  clear hw18 hY19 hy20 hbRV
  have A0 := Lib.hid (fun (x : World) (hx : Below Y19.heap.size Y19 x) => checkMetals_c a n cap m x (HM.out.below hx) hN)
  have A1 := Lib.hid (fun (x : World) (hx : Below Y19.heap.size Y19 x) => rcheckMetals_c a n cap m x (HM.out.below hx) hN)
  have A2 := Lib.hid (fun (x : World) => checkTouch_c l c x)
  have A3 := Lib.hid (fun (x : World) => rcheckTouch_c l c x)
  have heq0 := fun (w : World) => eqRat x1 x2 w
  have heq1 := fun (w : World) => eqRat y1 y2 w
  have heq2 := fun (w : World) => eqRat z1 z2 w
  obtain ⟨v210, v211, _, _, v21z⟩ := ratrow2 HT.out
  obtain ⟨v220, v221, _, _, v22z⟩ := ratrow2 RA.out
  obtain ⟨v230, v231, _, _, v23z⟩ := ratrow2 RB.out
  obtain ⟨v240, v241, _, _, v24z⟩ := ratrow2 RX.out
  obtain ⟨v250, v251, _, _, v25z⟩ := ratrow2 RY.out
  obtain ⟨v260, v261, _, _, v26z⟩ := ratrow2 RV.out
  obtain ⟨v270, v271, _, _, v27z⟩ := ratrow2 RW.out
  have hlc := fun (x : Later Y19) => later_cell x
  refine wp_region_later (by kernel_rfl) (by kernel_rfl) ?_
  repeat (go_big_quiet_step ((first | (with_reducible refine calls_later (A0.out _ (Later.h _))) | (with_reducible refine calls_later (A1.out _ (Later.h _))) | (with_reducible refine calls_later (A2.out _)) | (with_reducible refine calls_later (A3.out _)))))
  refine wpQuiet_nil ?_
  clear hlc A0 A1 A2 A3 heq0 heq1 heq2 v210 v211 v21z v220 v221 v22z v230 v231 v23z v240 v241 v24z v250 v251 v25z v260 v261 v26z v270 v271 v27z
  rintro ⟨w28, hw29⟩
  replace HM := Lib.hid (HM.out.below hw29)
  replace HF := Lib.hid (HF.out.below hw29)
  replace HT := Lib.hid (RowIs.below HT.out hw29)
  replace RA := Lib.hid (RowIs.below RA.out hw29)
  replace RB := Lib.hid (RowIs.below RB.out hw29)
  replace RX := Lib.hid (RowIs.below RX.out hw29)
  replace RY := Lib.hid (RowIs.below RY.out hw29)
  replace RV := Lib.hid (RowIs.below RV.out hw29)
  replace RW := Lib.hid (RowIs.below RW.out hw29)
  replace hB := bup hB hw29
  go_wp2_with fail
  clear hw29
  have A0 := Lib.hid (fun (x : World) (hx : Below w28.heap.size w28 x) => Deserves_c a b n cap len cap2 m f l c sure x (HM.out.below hx) (HF.out.below hx) hn hl)
  have A1 := Lib.hid (fun (x : World) (hx : Below w28.heap.size w28 x) => rdeserves_c a b n cap len cap2 m f l c sure x (HM.out.below hx) (HF.out.below hx) hn hl)
  have A2 := Lib.hid works_c
  obtain ⟨v300, v301, _, _, v30z⟩ := ratrow2 HT.out
  have hlc := fun (x : Later w28) => later_cell x
  refine wp_region_later (by kernel_rfl) (by kernel_rfl) ?_
  repeat (go_big_quiet_step ((first | (with_reducible refine calls_later (A0.out _ (Later.h _))) | (with_reducible refine calls_later (A1.out _ (Later.h _))) | (with_reducible refine calls_later (A2.out _)))))
  refine wpQuiet_nil ?_
  clear hlc A0 A1 A2 v300 v301 v30z
  rintro ⟨w31, hw32⟩
  replace HM := Lib.hid (HM.out.below hw32)
  replace HF := Lib.hid (HF.out.below hw32)
  replace HT := Lib.hid (RowIs.below HT.out hw32)
  replace RA := Lib.hid (RowIs.below RA.out hw32)
  replace RB := Lib.hid (RowIs.below RB.out hw32)
  replace RX := Lib.hid (RowIs.below RX.out hw32)
  replace RY := Lib.hid (RowIs.below RY.out hw32)
  replace RV := Lib.hid (RowIs.below RV.out hw32)
  replace RW := Lib.hid (RowIs.below RW.out hw32)
  replace hB := bup hB hw32
  go_wp2
  go_ret
  exact ⟨rfl, hB⟩

end Go.Proofs.YtehafggcncbnkaaGreat

namespace Go.Proofs.YtehafggcncbnkaaGreat

theorem pos_of_mul {a b : Int} (h : 0 < a) (h2 : 0 ≤ a * b) : 0 ≤ b := by
  rcases Int.lt_or_le b 0 with h' | h'
  · have := Int.mul_lt_mul_of_pos_left h' h
    omega
  · exact h'
theorem sign_of {A B X Y : Int} (hY : 0 ≤ Y) (hA : 0 < A) (q : X * B = Y * A) (hp : 0 < X) : 0 ≤ B := by
  have : 0 ≤ X * B := by rw [q]; exact Int.mul_nonneg hY (by omega)
  exact pos_of_mul hp this
/-- With one of three not 0, three that are as these are told. -/
theorem three_one {A B C X Y Z : Int} {u v t : Int} (hX : 0 ≤ X) (hY : 0 ≤ Y) (hZ : 0 ≤ Z) (q1 : X * B = Y * A) (q3 : Z * A = X * C) (hA : 0 < A)
    (h1 : 0 ≤ A → 0 ≤ B → 0 ≤ C → 0 ≤ A * u + B * v + C * t) : 0 ≤ X * u + Y * v + Z * t := by
  by_cases hp : 0 < X
  · have hB : 0 ≤ B := sign_of hY hA q1 hp
    have hC : 0 ≤ C := sign_of hZ hA q3.symm hp
    have h := Int.mul_nonneg hX (h1 (by omega) hB hC)
    refine pos_of_mul hA ?_
    have : A * (X * u + Y * v + Z * t) = X * (A * u + B * v + C * t) := by grind
    rw [this]
    exact h
  · have hX0 : X = 0 := by omega
    subst hX0
    have hY0 : Y = 0 := by
      have : Y * A = 0 := by omega
      rcases Int.mul_eq_zero.1 this with h | h <;> omega
    have hZ0 : Z = 0 := by
      have : Z * A = 0 := by omega
      rcases Int.mul_eq_zero.1 this with h | h <;> omega
    subst hY0 hZ0
    omega
theorem three_in (w : Nat → Int) (i j k : Nat) (A B C X Y Z : Int) (xi : 0 ≤ X) (xj : 0 ≤ Y) (xk : 0 ≤ Z) (q1 : X * B = Y * A) (q2 : Y * C = Z * B) (q3 : Z * A = X * C)
    (hc : A ≠ 0 ∨ B ≠ 0 ∨ C ≠ 0) (h1 : 0 ≤ A → 0 ≤ B → 0 ≤ C → 0 ≤ A * w i + B * w j + C * w k) (h2 : A ≤ 0 → B ≤ 0 → C ≤ 0 → A * w i + B * w j + C * w k ≤ 0) :
    0 ≤ X * w i + Y * w j + Z * w k := by
  have main : ∀ A B C X Y Z u v t : Int, 0 ≤ X → 0 ≤ Y → 0 ≤ Z → X * B = Y * A → Z * A = X * C → A ≠ 0 → (0 ≤ A → 0 ≤ B → 0 ≤ C → 0 ≤ A * u + B * v + C * t) → (A ≤ 0 → B ≤ 0 → C ≤ 0 → A * u + B * v + C * t ≤ 0) → 0 ≤ X * u + Y * v + Z * t := by
    intro A B C X Y Z u v t hX hY hZ q1 q3 hA h1 h2
    rcases Int.lt_or_le 0 A with h | h
    · exact three_one hX hY hZ q1 q3 h h1
    · refine three_one (A := -A) (B := -B) (C := -C) hX hY hZ (by grind) (by grind) (by omega) fun ha hb hc => ?_
      have := h2 (by omega) (by omega) (by omega)
      grind
  rcases hc with h | h | h
  · exact main A B C X Y Z _ _ _ xi xj xk q1 q3 h h1 h2
  · have := main B C A Y Z X (w j) (w k) (w i) xj xk xi q2 q1 h (fun a b c => by have := h1 c a b; omega) (fun a b c => by have := h2 c a b; omega)
    omega
  · have := main C A B Z X Y (w k) (w i) (w j) xk xi xj q3 q2 h (fun a b c => by have := h1 b c a; omega) (fun a b c => by have := h2 b c a; omega)
    omega
/-! Sums. -/
theorem sumC {f g : Nat → Int} : ∀ {n : Nat}, (∀ i, i < n → f i = g i) → sumF f n = sumF g n
  | 0, _ => rfl
  | n + 1, h => by
    show sumF f n + f n = sumF g n + g n
    rw [sumC fun i hi => h i (by omega), h n (by omega)]
theorem sumF_lin (a b : Int) (f g : Nat → Int) : ∀ n, sumF (fun i => a * f i + b * g i) n = a * sumF f n + b * sumF g n
  | 0 => by simp [sumF]
  | n + 1 => by
    show sumF (fun i => a * f i + b * g i) n + (a * f n + b * g n) = a * (sumF f n + f n) + b * (sumF g n + g n)
    rw [sumF_lin a b f g n]
    grind
theorem sumF_add (f g : Nat → Int) (n : Nat) : sumF (fun i => f i + g i) n = sumF f n + sumF g n := by
  have := sumF_lin 1 1 f g n
  simpa using this
theorem sumZ {f : Nat → Int} : ∀ {n : Nat}, (∀ i, i < n → f i = 0) → sumF f n = 0
  | 0, _ => rfl
  | n + 1, h => by
    show sumF f n + f n = 0
    rw [sumZ fun i hi => h i (by omega), h n (by omega)]
    rfl
theorem sumF_one {f : Nat → Int} {k : Nat} : ∀ {n : Nat}, k < n → (∀ i, i < n → i ≠ k → f i = 0) → sumF f n = f k
  | 0, hk, _ => absurd hk (Nat.not_lt_zero _)
  | n + 1, hk, h => by
    show sumF f n + f n = f k
    by_cases e : k = n
    · subst e
      rw [sumZ fun i hi => h i (by omega) (by omega)]
      omega
    · rw [sumF_one (by omega : k < n) fun i hi hne => h i (by omega) hne, h n (by omega) (fun h' => e h'.symm)]
      omega
theorem sumF_two {f : Nat → Int} {j k n : Nat} (hjk : j ≠ k) (hj : j < n) (hk : k < n) (h : ∀ i, i < n → i ≠ j → i ≠ k → f i = 0) : sumF f n = f j + f k := by
  have e : sumF f n = sumF (fun i => (if i = j then f i else 0) + (if i = j then 0 else f i)) n := sumC fun i _ => by split <;> omega
  rw [e, sumF_add, sumF_one hj (fun i _ hne => if_neg hne), sumF_one hk (fun i hi hne => by
    split
    · rfl
    · rename_i h1
      exact h i hi h1 hne), if_pos rfl, if_neg (fun h' => hjk h'.symm)]
theorem sumF_three {f : Nat → Int} {i j k n : Nat} (hij : i ≠ j) (hik : i ≠ k) (hjk : j ≠ k) (hi : i < n) (hj : j < n) (hk : k < n) (h : ∀ a, a < n → a ≠ i → a ≠ j → a ≠ k → f a = 0) : sumF f n = f i + f j + f k := by
  have e : sumF f n = sumF (fun a => (if a = i then f a else 0) + (if a = i then 0 else f a)) n := sumC fun a _ => by split <;> omega
  rw [e, sumF_add, sumF_one hi (fun a _ hne => if_neg hne), sumF_two hjk hj hk (fun a ha h1 h2 => by
    split
    · rfl
    · rename_i h0
      exact h a ha h0 h1 h2), if_pos rfl, if_neg (fun h' => hij h'.symm), if_neg (fun h' => hik h'.symm)]
  omega
theorem sumF_nonneg {f : Nat → Int} : ∀ {n : Nat}, (∀ i, i < n → 0 ≤ f i) → 0 ≤ sumF f n
  | 0, _ => Int.le_refl _
  | n + 1, h => by
    show 0 ≤ sumF f n + f n
    have := sumF_nonneg (f := f) (n := n) fun i hi => h i (by omega)
    have := h n (by omega)
    omega

/-! How many are not 0. -/
def cntF (f : Nat → Int) : Nat → Nat
  | 0 => 0
  | n + 1 => cntF f n + if f n = 0 then 0 else 1
theorem cnt_le {f g : Nat → Int} : ∀ {n : Nat}, (∀ i, i < n → f i = 0 → g i = 0) → cntF g n ≤ cntF f n
  | 0, _ => Nat.le_refl _
  | n + 1, h => by
    have h1 := cnt_le (f := f) (g := g) (n := n) fun i hi => h i (by omega)
    have h2 := h n (by omega)
    unfold cntF
    split <;> split <;> omega
theorem cnt_lt {f g : Nat → Int} {k : Nat} : ∀ {n : Nat}, k < n → f k ≠ 0 → g k = 0 → (∀ i, i < n → f i = 0 → g i = 0) → cntF g n < cntF f n
  | 0, hk, _, _, _ => absurd hk (Nat.not_lt_zero _)
  | n + 1, hk, h1, h2, h => by
    by_cases e : k = n
    · subst e
      have h3 := cnt_le (f := f) (g := g) (n := k) fun i hi => h i (by omega)
      unfold cntF
      rw [if_pos h2, if_neg h1]
      omega
    · have h3 := cnt_lt (f := f) (g := g) (n := n) (by omega) h1 h2 fun i hi => h i (by omega)
      have h4 := h n (by omega)
      unfold cntF
      split <;> split <;> omega

/-- The next one that is not 0, from one on. -/
theorem next_of (f : Nat → Int) (s : Nat) : ∀ n, (∀ i, s ≤ i → i < n → f i = 0) ∨ ∃ k, s ≤ k ∧ k < n ∧ f k ≠ 0 ∧ ∀ i, s ≤ i → i < k → f i = 0
  | 0 => .inl fun i _ h => absurd h (Nat.not_lt_zero _)
  | n + 1 => by
    rcases next_of f s n with h | ⟨k, h1, h2, h3, h4⟩
    · by_cases e : f n = 0 ∨ n < s
      · refine .inl fun i hs hi => ?_
        by_cases e' : i = n
        · subst e'
          omega
        · exact h i hs (by omega)
      · exact .inr ⟨n, by omega, by omega, by omega, fun i hs hi => h i hs hi⟩
    · exact .inr ⟨k, h1, by omega, h3, h4⟩

/-- A number above 0 at which a share is least. -/
theorem least_at {x z : Nat → Int} : ∀ n, (∃ i, i < n ∧ 0 < z i) → ∃ k, k < n ∧ 0 < z k ∧ ∀ i, i < n → 0 < z i → x k * z i ≤ x i * z k
  | 0, ⟨_, h, _⟩ => absurd h (Nat.not_lt_zero _)
  | n + 1, h => by
    by_cases h1 : ∃ i, i < n ∧ 0 < z i
    · obtain ⟨k, hk, hz, hm⟩ := least_at n h1
      by_cases h2 : 0 < z n ∧ x n * z k < x k * z n
      · refine ⟨n, by omega, h2.1, fun i hi hzi => ?_⟩
        by_cases e : i = n
        · subst e
          exact Int.le_refl _
        · have h3 := hm i (by omega) hzi
          have h4 : x n * z k * z i ≤ x k * z n * z i := Int.mul_le_mul_of_nonneg_right (by omega) (by omega)
          have h5 : x k * z i * z n ≤ x i * z k * z n := Int.mul_le_mul_of_nonneg_right h3 (by omega)
          have h6 : (x n * z i) * z k ≤ (x i * z n) * z k := by grind
          exact Int.le_of_mul_le_mul_right h6 hz
      · refine ⟨k, by omega, hz, fun i hi hzi => ?_⟩
        by_cases e : i = n
        · subst e
          omega
        · exact hm i (by omega) hzi
    · obtain ⟨i, hi, hz⟩ := h
      have e : i = n := by
        by_cases e : i = n
        · exact e
        · exact absurd ⟨i, by omega, hz⟩ h1
      subst e
      refine ⟨i, by omega, hz, fun j hj hzj => ?_⟩
      by_cases e : j = i
      · subst e
        exact Int.le_refl _
      · exact absurd ⟨j, by omega, hzj⟩ h1

/-! Sums with two rooms and a weight. -/
/-- What is mixed leaves no room. -/
def Even (N : Nat) (r : Nat → Int × Int) (x : Nat → Int) : Prop := sumF (fun i => x i * (r i).1) N = 0 ∧ sumF (fun i => x i * (r i).2) N = 0
def val (N : Nat) (w x : Nat → Int) : Int := sumF (fun i => x i * w i) N

theorem val_lin (N : Nat) (w x z : Nat → Int) (a b : Int) : val N w (fun i => a * x i + b * z i) = a * val N w x + b * val N w z := by
  unfold val
  rw [← sumF_lin]
  exact sumC fun i _ => by grind
theorem even_lin {N : Nat} {r : Nat → Int × Int} {x z : Nat → Int} (hx : Even N r x) (hz : Even N r z) (a b : Int) : Even N r (fun i => a * x i + b * z i) := by
  have h1 := val_lin N (fun i => (r i).1) x z a b
  have h2 := val_lin N (fun i => (r i).2) x z a b
  unfold val at h1 h2
  refine ⟨h1.trans ?_, h2.trans ?_⟩
  · rw [hx.1, hz.1]; simp
  · rw [hx.2, hz.2]; simp

/-- One step: by a sum that leaves no room the support gets less. -/
theorem reduce {N : Nat} {r : Nat → Int × Int} {w x z : Nat → Int} (hx : ∀ i, i < N → 0 ≤ x i) (hxe : Even N r x) (hze : Even N r z)
    (hs : ∀ i, i < N → x i = 0 → z i = 0) (hz0 : ∃ i, i < N ∧ z i ≠ 0) (hj : ∃ j, j < N ∧ x j ≠ 0 ∧ z j = 0)
    (ih : ∀ y : Nat → Int, cntF y N < cntF x N → (∀ i, i < N → 0 ≤ y i) → Even N r y → 0 ≤ val N w y) : 0 ≤ val N w x := by
  have up : ∀ z : Nat → Int, Even N r z → (∀ i, i < N → x i = 0 → z i = 0) → (∃ i, i < N ∧ 0 < z i) → 0 ≤ val N w z → 0 ≤ val N w x := by
    intro z hze hs hp hw
    obtain ⟨k, hk, hzk, hm⟩ := least_at (x := x) N hp
    have hxk : x k ≠ 0 := fun h => by have := hs k hk h; omega
    have hxk' := hx k hk
    have h1 := ih (fun i => z k * x i + (-(x k)) * z i) (cnt_lt (k := k) hk hxk (by grind) fun i hi h0 => by rw [h0, hs i hi h0]; simp) (fun i hi => by
      show 0 ≤ z k * x i + (-(x k)) * z i
      by_cases hzi : 0 < z i
      · have := hm i hi hzi
        grind
      · have h2 : 0 ≤ z k * x i := Int.mul_nonneg (by omega) (hx i hi)
        have h3 : 0 ≤ x k * (-(z i)) := Int.mul_nonneg hxk' (by omega)
        grind) (even_lin hxe hze _ _)
    rw [val_lin] at h1
    have h2 : 0 ≤ x k * val N w z := Int.mul_nonneg hxk' hw
    have h3 : 0 ≤ z k * val N w x := by grind
    rcases Int.lt_or_le (val N w x) 0 with h | h
    · have := Int.mul_lt_mul_of_pos_left h hzk
      omega
    · exact h
  have hneg : val N w (fun i => (-1) * z i + 0 * z i) = -val N w z := by rw [val_lin]; omega
  have hne : Even N r (fun i => (-1) * z i + 0 * z i) := even_lin hze hze _ _
  have hns : ∀ i, i < N → x i = 0 → (-1) * z i + 0 * z i = 0 := fun i hi h => by have := hs i hi h; omega
  obtain ⟨j, hjN, hxj, hzj⟩ := hj
  obtain ⟨i0, hi0, hzi0⟩ := hz0
  by_cases hp : ∃ i, i < N ∧ 0 < z i
  · by_cases hn : ∃ i, i < N ∧ z i < 0
    · rcases Int.lt_or_le (val N w z) 0 with h | h
      · exact up _ hne hns (hn.imp fun i h => ⟨h.1, by have := h.2; omega⟩) (by rw [hneg]; omega)
      · exact up z hze hs hp h
    · refine up z hze hs hp (ih z (cnt_lt hjN hxj hzj hs) (fun i hi => ?_) hze)
      rcases Int.lt_or_le (z i) 0 with h | h
      · exact absurd ⟨i, hi, h⟩ hn
      · exact h
  · have hn : ∀ i, i < N → z i ≤ 0 := fun i hi => by
      rcases Int.lt_or_le 0 (z i) with h | h
      · exact absurd ⟨i, hi, h⟩ hp
      · exact h
    have h0 := hn i0 hi0
    refine up _ hne hns ⟨i0, hi0, by omega⟩ (ih _ (cnt_lt hjN hxj (by omega) hns) (fun i hi => ?_) hne)
    have := hn i hi
    omega

/-- A mixture of three whose rooms are not all along one line is told by them. -/
theorem direct {N : Nat} {r : Nat → Int × Int} {w x : Nat → Int} {i j k : Nat} (hij : i < j) (hjk : j < k) (hk : k < N) (hx : ∀ i, i < N → 0 ≤ x i) (hxe : Even N r x)
    (hs : ∀ a, a < N → a ≠ i → a ≠ j → a ≠ k → x a = 0) (hc : crossR (r j) (r k) ≠ 0 ∨ crossR (r k) (r i) ≠ 0 ∨ crossR (r i) (r j) ≠ 0)
    (h1 : 0 ≤ crossR (r j) (r k) → 0 ≤ crossR (r k) (r i) → 0 ≤ crossR (r i) (r j) → 0 ≤ crossR (r j) (r k) * w i + crossR (r k) (r i) * w j + crossR (r i) (r j) * w k)
    (h2 : crossR (r j) (r k) ≤ 0 → crossR (r k) (r i) ≤ 0 → crossR (r i) (r j) ≤ 0 → crossR (r j) (r k) * w i + crossR (r k) (r i) * w j + crossR (r i) (r j) * w k ≤ 0) : 0 ≤ val N w x := by
  have e1 := hxe.1
  have e2 := hxe.2
  rw [sumF_three (by omega : i ≠ j) (by omega : i ≠ k) (by omega : j ≠ k) (by omega) (by omega) hk fun a ha p q s => by rw [hs a ha p q s]; simp] at e1 e2
  unfold val
  rw [sumF_three (by omega : i ≠ j) (by omega : i ≠ k) (by omega : j ≠ k) (by omega) (by omega) hk fun a ha p q s => by rw [hs a ha p q s]; simp]
  have xi := hx i (by omega)
  have xj := hx j (by omega)
  have xk := hx k hk
  obtain ⟨A, hA⟩ : ∃ A, crossR (r j) (r k) = A := ⟨_, rfl⟩
  obtain ⟨B, hB⟩ : ∃ B, crossR (r k) (r i) = B := ⟨_, rfl⟩
  obtain ⟨C, hC⟩ : ∃ C, crossR (r i) (r j) = C := ⟨_, rfl⟩
  have q1 : x i * B = x j * A := by rw [← hA, ← hB]; unfold crossR; grind
  have q2 : x j * C = x k * B := by rw [← hB, ← hC]; unfold crossR; grind
  have q3 : x k * A = x i * C := by rw [← hA, ← hC]; unfold crossR; grind
  rw [hA, hB, hC] at h1 h2 hc
  clear hA hB hC e1 e2
  obtain ⟨X, hX⟩ : ∃ X, x i = X := ⟨_, rfl⟩
  obtain ⟨Y, hY⟩ : ∃ Y, x j = Y := ⟨_, rfl⟩
  obtain ⟨Z, hZ⟩ : ∃ Z, x k = Z := ⟨_, rfl⟩
  rw [hX] at xi q1 q3 ⊢
  rw [hY] at xj q1 q2 ⊢
  rw [hZ] at xk q2 q3 ⊢
  exact three_in w i j k A B C X Y Z xi xj xk q1 q2 q3 hc h1 h2

def three (i j k : Nat) (A B C : Int) (a : Nat) : Int := if a = i then A else if a = j then B else if a = k then C else 0
theorem three_sum {N i j k : Nat} (hij : i < j) (hjk : j < k) (hk : k < N) (A B C : Int) (g : Nat → Int) : sumF (fun a => three i j k A B C a * g a) N = A * g i + B * g j + C * g k := by
  rw [sumF_three (by omega : i ≠ j) (by omega : i ≠ k) (by omega : j ≠ k) (by omega) (by omega) hk fun a _ p q s => by simp [three, p, q, s]]
  have e1 : three i j k A B C i = A := if_pos rfl
  have e2 : three i j k A B C j = B := by unfold three; rw [if_neg (by omega), if_pos rfl]
  have e3 : three i j k A B C k = C := by unfold three; rw [if_neg (by omega), if_neg (by omega), if_pos rfl]
  simp only [e1, e2, e3]
theorem three_off {i j k : Nat} {A B C : Int} {a : Nat} (h : three i j k A B C a ≠ 0) : a = i ∨ a = j ∨ a = k := by
  unfold three at h
  split at h
  · exact .inl ‹_›
  · split at h
    · exact .inr (.inl ‹_›)
    · split at h
      · exact .inr (.inr ‹_›)
      · exact absurd rfl h

/-- All mixtures without room have a value that is not below 0, if those of three have. -/
theorem cone {n : Nat} {r : Nat → Int × Int} {w : Nat → Int} (v1 : r n = (-1, 0)) (v2 : r (n + 1) = (0, -1))
    (h1 : ∀ i j k, i < j → j < k → k < n + 2 → 0 ≤ crossR (r j) (r k) → 0 ≤ crossR (r k) (r i) → 0 ≤ crossR (r i) (r j) → 0 ≤ crossR (r j) (r k) * w i + crossR (r k) (r i) * w j + crossR (r i) (r j) * w k)
    (h2 : ∀ i j k, i < j → j < k → k < n + 2 → crossR (r j) (r k) ≤ 0 → crossR (r k) (r i) ≤ 0 → crossR (r i) (r j) ≤ 0 → crossR (r j) (r k) * w i + crossR (r k) (r i) * w j + crossR (r i) (r j) * w k ≤ 0) :
    ∀ c, ∀ x : Nat → Int, cntF x (n + 2) ≤ c → (∀ i, i < n + 2 → 0 ≤ x i) → Even (n + 2) r x → 0 ≤ val (n + 2) w x := by
  intro c
  induction c with
  | zero =>
    intro x hc hx he
    have h0 : ∀ i, i < n + 2 → x i = 0 := fun i hi => by
      by_cases h : x i = 0
      · exact h
      · have := cnt_lt (f := x) (g := fun _ => 0) (k := i) (n := n + 2) hi h rfl (fun _ _ _ => rfl)
        omega
    unfold val
    rw [sumZ fun i hi => by rw [h0 i hi]; simp]
    exact Int.le_refl _
  | succ c ih =>
    intro x hc hx he
    have ihx : ∀ y : Nat → Int, cntF y (n + 2) < cntF x (n + 2) → (∀ i, i < n + 2 → 0 ≤ y i) → Even (n + 2) r y → 0 ≤ val (n + 2) w y := fun y hy h0 h => ih y (by omega) h0 h
    have e1 := he.1
    have e2 := he.2
    rcases next_of x 0 (n + 2) with h0 | ⟨i, -, hi, xi, oi⟩
    · unfold val
      rw [sumZ fun i hi => by rw [h0 i (by omega) hi]; simp]
      exact Int.le_refl _
    have step : ∀ z : Nat → Int, Even (n + 2) r z → (∀ i, i < n + 2 → x i = 0 → z i = 0) → (∃ i, i < n + 2 ∧ z i ≠ 0) → (∃ j, j < n + 2 ∧ x j ≠ 0 ∧ z j = 0) → 0 ≤ val (n + 2) w x :=
      fun z hz hs hz0 hj => reduce hx he hz hs hz0 hj ihx
    have dir : ∀ a b k, a < b → b < k → k < n + 2 → (∀ t, t < n + 2 → t ≠ a → t ≠ b → t ≠ k → x t = 0) → (crossR (r b) (r k) ≠ 0 ∨ crossR (r k) (r a) ≠ 0 ∨ crossR (r a) (r b) ≠ 0) → 0 ≤ val (n + 2) w x :=
      fun a b k hab hbk hk hs hc => direct hab hbk hk hx he hs hc (h1 a b k hab hbk hk) (h2 a b k hab hbk hk)
    clear ihx ih h1 h2
    rcases next_of x (i + 1) (n + 2) with h0 | ⟨j, hij, hj, xj, oj⟩
    · have s1 : ∀ t, t < n + 2 → t ≠ i → x t = 0 := fun t ht hne => by
        by_cases h : t < i
        · exact oi t (by omega) h
        · exact h0 t (by omega) ht
      rw [sumF_one hi fun t ht hne => by rw [s1 t ht hne]; simp] at e1 e2
      have r1 : (r i).1 = 0 := by rcases Int.mul_eq_zero.1 e1 with h | h; exact absurd h xi; exact h
      have r2 : (r i).2 = 0 := by rcases Int.mul_eq_zero.1 e2 with h | h; exact absurd h xi; exact h
      have i1 : i ≠ n := fun h => by rw [h, v1] at r1; simp at r1
      have i2 : i ≠ n + 1 := fun h => by rw [h, v2] at r2; simp at r2
      refine dir i n (n + 1) (by omega) (by omega) (by omega) (fun t ht p _ _ => s1 t ht p) (.inl ?_)
      rw [v1, v2]
      simp [crossR]
    rcases next_of x (j + 1) (n + 2) with h0 | ⟨k, hjk, hk, xk, ok⟩
    · have s2 : ∀ t, t < n + 2 → t ≠ i → t ≠ j → x t = 0 := fun t ht p q => by
        by_cases h : t < i
        · exact oi t (by omega) h
        · by_cases h' : t < j
          · exact oj t (by omega) h'
          · exact h0 t (by omega) ht
      rw [sumF_two (by omega : i ≠ j) hi hj fun t ht p q => by rw [s2 t ht p q]; simp] at e1 e2
      have c1 : crossR (r i) (r n) = (r i).2 := by rw [v1]; simp [crossR]
      have c2 : crossR (r i) (r (n + 1)) = -(r i).1 := by rw [v2]; simp [crossR]
      have c3 : crossR (r n) (r i) = -(r i).2 := by rw [v1]; simp [crossR]
      have c4 : crossR (r (n + 1)) (r i) = (r i).1 := by rw [v2]; simp [crossR]
      by_cases hr2 : (r i).2 = 0
      · by_cases hr1 : (r i).1 = 0
        · refine step (fun t => if t = i then 1 else 0) ⟨?_, ?_⟩ (fun t ht h => ?_) ⟨i, hi, by simp⟩ ⟨j, hj, xj, if_neg (by omega)⟩
          · rw [sumZ fun t ht => ?_]
            by_cases h : t = i
            · subst h; simp [hr1]
            · simp [h]
          · rw [sumZ fun t ht => ?_]
            by_cases h : t = i
            · subst h; simp [hr2]
            · simp [h]
          · by_cases h' : t = i
            · subst h'; exact absurd h xi
            · exact if_neg h'
        · by_cases hjn : j = n + 1
          · rw [hjn, v2] at e1
            simp only [Int.mul_zero, Int.add_zero] at e1
            rcases Int.mul_eq_zero.1 e1 with h | h
            · exact absurd h xi
            · exact absurd h hr1
          · exact dir i j (n + 1) (by omega) (by omega) (by omega) (fun t ht p q _ => s2 t ht p q) (.inr (.inl (by rw [c4]; exact hr1)))
      · by_cases hjn : j = n
        · rw [hjn, v1] at e2
          simp only [Int.mul_zero, Int.add_zero] at e2
          rcases Int.mul_eq_zero.1 e2 with h | h
          · exact absurd h xi
          · exact absurd h hr2
        · by_cases hjn1 : j = n + 1
          · have hin : i ≠ n := fun h => hr2 (by rw [h, v1])
            exact dir i n (n + 1) (by omega) (by omega) (by omega) (fun t ht p _ q => s2 t ht p (by omega)) (.inr (.inr (by rw [c1]; exact hr2)))
          · exact dir i j n (by omega) (by omega) (by omega) (fun t ht p q _ => s2 t ht p q) (.inr (.inl (by rw [c3]; omega)))
    have st : ∀ A B C : Int, A * (r i).1 + B * (r j).1 + C * (r k).1 = 0 → A * (r i).2 + B * (r j).2 + C * (r k).2 = 0 → (A ≠ 0 ∨ B ≠ 0 ∨ C ≠ 0) → (∃ t, t < n + 2 ∧ x t ≠ 0 ∧ three i j k A B C t = 0) → 0 ≤ val (n + 2) w x := by
      intro A B C q1 q2 hne hj'
      refine step (three i j k A B C) ⟨(three_sum hij hjk hk A B C _).trans q1, (three_sum hij hjk hk A B C _).trans q2⟩ (fun t ht h => ?_) ?_ hj'
      · by_cases h' : three i j k A B C t = 0
        · exact h'
        · rcases three_off h' with h' | h' | h' <;> subst h' <;> exact absurd h ‹_›
      · rcases hne with h | h | h
        · exact ⟨i, hi, by unfold three; rw [if_pos rfl]; exact h⟩
        · exact ⟨j, hj, by unfold three; rw [if_neg (by omega), if_pos rfl]; exact h⟩
        · exact ⟨k, hk, by unfold three; rw [if_neg (by omega), if_neg (by omega), if_pos rfl]; exact h⟩
    by_cases hcr : crossR (r j) (r k) ≠ 0 ∨ crossR (r k) (r i) ≠ 0 ∨ crossR (r i) (r j) ≠ 0
    · rcases next_of x (k + 1) (n + 2) with h0 | ⟨m, hkm, hm, xm, om⟩
      · refine dir i j k hij hjk hk (fun t ht p q s => ?_) hcr
        by_cases h : t < i
        · exact oi t (by omega) h
        · by_cases h' : t < j
          · exact oj t (by omega) h'
          · by_cases h'' : t < k
            · exact ok t (by omega) h''
            · exact h0 t (by omega) ht
      · refine st _ _ _ ?_ ?_ hcr ⟨m, hm, xm, by unfold three; rw [if_neg (by omega), if_neg (by omega), if_neg (by omega)]⟩
        · unfold crossR; grind
        · unfold crossR; grind
    · have hz : crossR (r i) (r j) = 0 := by
        by_cases h : crossR (r i) (r j) = 0
        · exact h
        · exact absurd (.inr (.inr h)) hcr
      unfold crossR at hz
      have off : ∀ A B : Int, three i j k A B 0 k = 0 := fun A B => by unfold three; rw [if_neg (by omega), if_neg (by omega), if_pos rfl]
      by_cases ha : (r i).1 = 0 ∧ (r j).1 = 0
      · by_cases hb : (r i).2 = 0 ∧ (r j).2 = 0
        · exact st 1 0 0 (by rw [ha.1]; simp) (by rw [hb.1]; simp) (.inl (by omega)) ⟨k, hk, xk, off _ _⟩
        · refine st (r j).2 (-(r i).2) 0 (by rw [ha.1, ha.2]; simp) (by grind) ?_ ⟨k, hk, xk, off _ _⟩
          rcases Decidable.not_and_iff_or_not.1 hb with h | h
          · exact .inr (.inl (by omega))
          · exact .inl h
      · refine st (r j).1 (-(r i).1) 0 (by grind) (by grind) ?_ ⟨k, hk, xk, off _ _⟩
        rcases Decidable.not_and_iff_or_not.1 ha with h | h
        · exact .inr (.inl (by omega))
        · exact .inl h

end Go.Proofs.YtehafggcncbnkaaGreat

namespace Go.Proofs.YtehafggcncbnkaaGreat

theorem gcdF_dvd (f : Nat → Int) : ∀ n i, i < n → (gcdF f n : Int) ∣ f i
  | 0, _, h => absurd h (Nat.not_lt_zero _)
  | n + 1, i, h => by
    have e : gcdF f (n + 1) = Int.gcd (gcdF f n) (f n) := rfl
    by_cases hi : i = n
    · subst hi
      rw [e]
      exact Int.gcd_dvd_right _ _
    · have h1 := gcdF_dvd f n i (by omega)
      rw [e]
      exact Int.dvd_trans (Int.gcd_dvd_left _ _) h1
theorem divF_dvd (f : Nat → Int) (n i : Nat) (h : i < n) : divF f n ∣ f i := by
  unfold divF
  by_cases h1 : (gcdF f n : Int) < 1
  · have : max (gcdF f n : Int) 1 = 1 := by omega
    rw [this]
    exact Int.one_dvd _
  · have : max (gcdF f n : Int) 1 = gcdF f n := by omega
    rw [this]
    exact gcdF_dvd f n i h
theorem divF_pos (f : Nat → Int) (n : Nat) : 0 < divF f n := by unfold divF; omega
theorem even_left (a b c : Int × Int) (j : Nat) (h : j < 3) : evenF a b c j * evenD a b c = leftF a b c j := by
  unfold evenF
  refine Int.tdiv_mul_cancel ?_
  unfold evenD
  split
  · exact Int.neg_dvd.2 (divF_dvd _ 3 j h)
  · exact divF_dvd _ 3 j h
theorem evenD_pos {a b c : Int × Int} (h0 : 0 ≤ leftF a b c 0) (h1 : 0 ≤ leftF a b c 1) (h2 : 0 ≤ leftF a b c 2) : 0 < evenD a b c := by
  unfold evenD
  rw [if_neg (by omega)]
  exact divF_pos _ _
theorem evenD_neg {a b c : Int × Int} (h0 : leftF a b c 0 ≤ 0) (h1 : leftF a b c 1 ≤ 0) (h2 : leftF a b c 2 ≤ 0) (hn : leftF a b c 0 ≠ 0 ∨ leftF a b c 1 ≠ 0 ∨ leftF a b c 2 ≠ 0) : evenD a b c < 0 := by
  unfold evenD
  rw [if_pos (by omega)]
  have := divF_pos (leftF a b c) 3
  omega
theorem evenD_ne (a b c : Int × Int) : evenD a b c ≠ 0 := by
  have := divF_pos (leftF a b c) 3
  unfold evenD
  split <;> omega

theorem putP_at {n : Nat} {f : Nat → Int} {x i : Nat} {v : Int} (hi : i < n) : putP n f x v i = if i = x then v else f i := by
  unfold putP
  split
  · rfl
  · rw [if_neg (by omega)]
theorem mix_three {n : Nat} {r : Nat → Int × Int} {t : Tri} (h1 : t.1 < t.2.1) (h2 : t.2.1 < t.2.2) {i : Nat} (hi : i < n) :
    mixOf n r t i = three t.1 t.2.1 t.2.2 (partsOf r t 0) (partsOf r t 1) (partsOf r t 2) i := by
  unfold mixOf
  show putP n (putP n (putP n (fun _ => 0) t.1 (partsOf r t 0)) t.2.1 (partsOf r t 1)) t.2.2 (partsOf r t 2) i = _
  rw [putP_at hi, putP_at hi, putP_at hi]
  unfold three
  by_cases e1 : i = t.1
  · rw [if_neg (by omega), if_neg (by omega), if_pos e1, if_pos e1]
  · by_cases e2 : i = t.2.1
    · rw [if_neg (by omega), if_pos e2, if_neg e1, if_pos e2]
    · rw [if_neg e2, if_neg e1, if_neg e1, if_neg e2]

theorem catF_mem {α : Type} {g : Nat → List α} {x : α} {i : Nat} : ∀ {n}, i < n → x ∈ g i → x ∈ catF g n
  | 0, h, _ => absurd h (Nat.not_lt_zero _)
  | n + 1, h, hx => by
    unfold catF
    rw [List.mem_append]
    by_cases e : i = n
    · subst e
      exact .inr hx
    · exact .inl (catF_mem (by omega) hx)
theorem mem_tri {N i j k : Nat} (hij : i < j) (hjk : j < k) (hk : k < N) : (i, j, k) ∈ triL N := by
  unfold triL rowI
  refine catF_mem (i := i) (by omega) ?_
  unfold rowJ
  refine catF_mem (i := j - (i + 1)) (by omega) ?_
  have e : i + 1 + (j - (i + 1)) = j := by omega
  rw [e]
  unfold rowK
  rw [List.mem_map]
  refine ⟨k - (j + 1), by rw [List.mem_range]; omega, ?_⟩
  have e : j + 1 + (k - (j + 1)) = k := by omega
  rw [e]
theorem corn_mem {n : Nat} {r : Nat → Int × Int} {i j k : Nat} (hij : i < j) (hjk : j < k) (hk : k < n + 2) (hb : cornB n r (i, j, k) = true) : mixOf n r (i, j, k) ∈ cornL n r :=
  List.mem_map_of_mem (List.mem_filter.2 ⟨mem_tri hij hjk hk, hb⟩)
theorem mem_corn {n : Nat} {r : Nat → Int × Int} {f : Nat → Int} (h : f ∈ cornL n r) : ∃ i j k, i < j ∧ j < k ∧ k < n + 2 ∧ cornB n r (i, j, k) = true ∧ f = mixOf n r (i, j, k) := by
  unfold cornL at h
  rw [List.mem_map] at h
  obtain ⟨t, ht, rfl⟩ := h
  rw [List.mem_filter] at ht
  obtain ⟨h1, h2, h3⟩ := tri_mem ht.1
  exact ⟨t.1, t.2.1, t.2.2, h1, h2, h3, ht.2, rfl⟩

/-- A sum over metals, as one over these and two that are none. -/
theorem mix_sum {n : Nat} {r : Nat → Int × Int} {i j k : Nat} (hij : i < j) (hjk : j < k) (hk : k < n + 2) (g : Nat → Int) :
    sumF (fun a => mixOf n r (i, j, k) a * g a) n + three i j k (partsOf r (i, j, k) 0) (partsOf r (i, j, k) 1) (partsOf r (i, j, k) 2) n * g n + three i j k (partsOf r (i, j, k) 0) (partsOf r (i, j, k) 1) (partsOf r (i, j, k) 2) (n + 1) * g (n + 1) =
      partsOf r (i, j, k) 0 * g i + partsOf r (i, j, k) 1 * g j + partsOf r (i, j, k) 2 * g k := by
  rw [← three_sum hij hjk hk]
  show _ = sumF _ n + _ + _
  rw [sumC fun a ha => by rw [mix_three (t := (i, j, k)) hij hjk ha]]
theorem parts_cross {r : Nat → Int × Int} {i j k : Nat} :
    partsOf r (i, j, k) 0 * evenD (r i) (r j) (r k) = crossR (r j) (r k) ∧ partsOf r (i, j, k) 1 * evenD (r i) (r j) (r k) = crossR (r k) (r i) ∧ partsOf r (i, j, k) 2 * evenD (r i) (r j) (r k) = crossR (r i) (r j) :=
  ⟨even_left _ _ _ 0 (by omega), even_left _ _ _ 1 (by omega), even_left _ _ _ 2 (by omega)⟩
theorem cornB_of {n : Nat} {r : Nat → Int × Int} {i j k : Nat} (h0 : 0 ≤ partsOf r (i, j, k) 0) (h1 : 0 ≤ partsOf r (i, j, k) 1) (h2 : 0 ≤ partsOf r (i, j, k) 2) (hz : zero6 (mixOf n r (i, j, k)) = false) : cornB n r (i, j, k) = true := by
  unfold cornB
  rw [hz, decide_eq_true ⟨h0, h1, h2⟩]
  rfl
theorem cornB_parts {n : Nat} {r : Nat → Int × Int} {t : Tri} (h : cornB n r t = true) : 0 ≤ partsOf r t 0 ∧ 0 ≤ partsOf r t 1 ∧ 0 ≤ partsOf r t 2 := by
  unfold cornB at h
  rw [Bool.and_eq_true] at h
  exact of_decide_eq_true h.1
theorem zero6_at {f : Nat → Int} (h : zero6 f = true) {i : Nat} (hi : i < 6) : f i = 0 := by
  unfold zero6 at h
  simp only [Bool.and_eq_true, beq_iff_eq] at h
  have : i = 0 ∨ i = 1 ∨ i = 2 ∨ i = 3 ∨ i = 4 ∨ i = 5 := by omega
  rcases this with rfl | rfl | rfl | rfl | rfl | rfl <;> simp [h]

/-- What three parts are worth is not below 0, if corners are. -/
theorem parts_val {n : Nat} {r : Nat → Int × Int} {W : Nat → Int} (hn : n ≤ 6) (hW1 : W n = 0) (hW2 : W (n + 1) = 0) (h : ∀ f ∈ cornL n r, 0 ≤ sumF (fun i => f i * W i) n) {i j k : Nat} (hij : i < j) (hjk : j < k) (hk : k < n + 2)
    (h0 : 0 ≤ partsOf r (i, j, k) 0) (h1 : 0 ≤ partsOf r (i, j, k) 1) (h2 : 0 ≤ partsOf r (i, j, k) 2) : 0 ≤ partsOf r (i, j, k) 0 * W i + partsOf r (i, j, k) 1 * W j + partsOf r (i, j, k) 2 * W k := by
  rw [← mix_sum hij hjk hk, hW1, hW2]
  simp only [Int.mul_zero, Int.add_zero]
  by_cases hz : zero6 (mixOf n r (i, j, k)) = true
  · rw [sumZ fun a ha => by rw [zero6_at hz (by omega)]; simp]
    exact Int.le_refl _
  · exact h _ (corn_mem hij hjk hk (cornB_of h0 h1 h2 (by simpa using hz)))

theorem nonneg_of_mul {a b : Int} (h : 0 < b) (h2 : 0 ≤ a * b) : 0 ≤ a := by
  rcases Int.lt_or_le a 0 with h' | h'
  · have := Int.mul_lt_mul_of_pos_right h' h
    omega
  · exact h'

theorem corners_cone {n : Nat} {r : Nat → Int × Int} {W : Nat → Int} (hn : n ≤ 6) (v1 : r n = (-1, 0)) (v2 : r (n + 1) = (0, -1)) (hW1 : W n = 0) (hW2 : W (n + 1) = 0) (h : ∀ f ∈ cornL n r, 0 ≤ sumF (fun i => f i * W i) n)
    (x : Nat → Int) (hx : ∀ i, i < n + 2 → 0 ≤ x i) (he : Even (n + 2) r x) : 0 ≤ val (n + 2) W x := by
  refine cone v1 v2 ?_ ?_ _ x (Nat.le_refl _) hx he
  · intro i j k hij hjk hk c0 c1 c2
    obtain ⟨p0, p1, p2⟩ := parts_cross (r := r) (i := i) (j := j) (k := k)
    have hD : 0 < evenD (r i) (r j) (r k) := evenD_pos c0 c1 c2
    have := parts_val hn hW1 hW2 h hij hjk hk (nonneg_of_mul hD (by rw [p0]; exact c0)) (nonneg_of_mul hD (by rw [p1]; exact c1)) (nonneg_of_mul hD (by rw [p2]; exact c2))
    have := Int.mul_nonneg this (Int.le_of_lt hD)
    rw [← p0, ← p1, ← p2]
    grind
  · intro i j k hij hjk hk c0 c1 c2
    obtain ⟨p0, p1, p2⟩ := parts_cross (r := r) (i := i) (j := j) (k := k)
    by_cases hz : crossR (r j) (r k) = 0 ∧ crossR (r k) (r i) = 0 ∧ crossR (r i) (r j) = 0
    · rw [hz.1, hz.2.1, hz.2.2]
      simp
    · have hD : evenD (r i) (r j) (r k) < 0 := evenD_neg c0 c1 c2 (by
        by_cases h0 : crossR (r j) (r k) = 0
        · by_cases h1 : crossR (r k) (r i) = 0
          · by_cases h2 : crossR (r i) (r j) = 0
            · exact absurd ⟨h0, h1, h2⟩ hz
            · exact .inr (.inr h2)
          · exact .inr (.inl h1)
        · exact .inl h0)
      have hD' : 0 < -evenD (r i) (r j) (r k) := by omega
      have q0 : 0 ≤ partsOf r (i, j, k) 0 := nonneg_of_mul hD' (by rw [Int.mul_neg, p0]; omega)
      have q1 : 0 ≤ partsOf r (i, j, k) 1 := nonneg_of_mul hD' (by rw [Int.mul_neg, p1]; omega)
      have q2 : 0 ≤ partsOf r (i, j, k) 2 := nonneg_of_mul hD' (by rw [Int.mul_neg, p2]; omega)
      have := parts_val hn hW1 hW2 h hij hjk hk q0 q1 q2
      have := Int.mul_nonneg this (Int.le_of_lt hD')
      rw [← p0, ← p1, ← p2]
      grind

/-- Over metals: all mixtures that leave room are worth no less than 0, if corners are. -/
theorem corners_all {n : Nat} {r : Nat → Int × Int} (W : Nat → Int) (hn : n ≤ 6) (v1 : r n = (-1, 0)) (v2 : r (n + 1) = (0, -1)) (h : ∀ f ∈ cornL n r, 0 ≤ sumF (fun i => f i * W i) n)
    (x : Nat → Int) (hx : ∀ i, i < n → 0 ≤ x i) (h1 : 0 ≤ sumF (fun i => x i * (r i).1) n) (h2 : 0 ≤ sumF (fun i => x i * (r i).2) n) : 0 ≤ sumF (fun i => x i * W i) n := by
  obtain ⟨s1, e1⟩ : ∃ s, sumF (fun i => x i * (r i).1) n = s := ⟨_, rfl⟩
  obtain ⟨s2, e2⟩ : ∃ s, sumF (fun i => x i * (r i).2) n = s := ⟨_, rfl⟩
  rw [e1] at h1
  rw [e2] at h2
  let W' : Nat → Int := fun i => if i < n then W i else 0
  let X : Nat → Int := fun i => if i < n then x i else if i = n then s1 else s2
  have xn : X n = s1 := by simp [X]
  have xn1 : X (n + 1) = s2 := by show (if n + 1 < n then _ else if n + 1 = n then _ else _) = _; rw [if_neg (by omega), if_neg (by omega)]
  have xlt : ∀ i, i < n → X i = x i := fun i hi => by simp [X, hi]
  have wlt : ∀ i, i < n → W' i = W i := fun i hi => by simp [W', hi]
  have ev : ∀ g : Nat → Int, sumF (fun i => X i * g i) (n + 2) = sumF (fun i => x i * g i) n + s1 * g n + s2 * g (n + 1) := fun g => by
    show sumF (fun i => X i * g i) n + X n * g n + X (n + 1) * g (n + 1) = _
    rw [xn, xn1, sumC fun i hi => by rw [xlt i hi]]
  have key := corners_cone (W := W') hn v1 v2 (by simp [W']) (by show (if n + 1 < n then _ else _) = _; rw [if_neg (by omega)]) (fun f hf => by
    rw [sumC fun i hi => by rw [wlt i hi]]
    exact h f hf) X (fun i _ => by
      by_cases hi : i < n
      · rw [xlt i hi]; exact hx i hi
      · by_cases e : i = n
        · rw [e, xn]; exact h1
        · have : X i = s2 := by simp [X, hi, e]
          rw [this]; exact h2) ⟨by rw [ev, e1, v1, v2]; simp; omega, by rw [ev, e2, v1, v2]; simp; omega⟩
  unfold val at key
  rw [ev] at key
  simp only [W', Nat.lt_irrefl, if_false, Int.mul_zero, Int.add_zero] at key
  rw [if_neg (by omega)] at key
  rw [sumC fun i hi => by show x i * W i = x i * (if i < n then W i else 0); rw [if_pos hi]]
  simpa using key

/-- Corners leave room. -/
theorem corner_room {n : Nat} {r : Nat → Int × Int} {f : Nat → Int} (v1 : r n = (-1, 0)) (v2 : r (n + 1) = (0, -1)) (hf : f ∈ cornL n r) :
    0 ≤ sumF (fun i => f i * (r i).1) n ∧ 0 ≤ sumF (fun i => f i * (r i).2) n := by
  obtain ⟨i, j, k, hij, hjk, hk, hb, rfl⟩ := mem_corn hf
  obtain ⟨q0, q1, q2⟩ := cornB_parts hb
  obtain ⟨p0, p1, p2⟩ := parts_cross (r := r) (i := i) (j := j) (k := k)
  have hD := evenD_ne (r i) (r j) (r k)
  have e1 := mix_sum (r := r) hij hjk hk (fun a => (r a).1)
  have e2 := mix_sum (r := r) hij hjk hk (fun a => (r a).2)
  have t0 : ∀ a, 0 ≤ three i j k (partsOf r (i, j, k) 0) (partsOf r (i, j, k) 1) (partsOf r (i, j, k) 2) a := fun a => by
    unfold three
    split
    · exact q0
    · split
      · exact q1
      · split
        · exact q2
        · exact Int.le_refl _
  have z1 : partsOf r (i, j, k) 0 * (r i).1 + partsOf r (i, j, k) 1 * (r j).1 + partsOf r (i, j, k) 2 * (r k).1 = 0 := by
    have : (partsOf r (i, j, k) 0 * (r i).1 + partsOf r (i, j, k) 1 * (r j).1 + partsOf r (i, j, k) 2 * (r k).1) * evenD (r i) (r j) (r k) = 0 := by
      unfold crossR at p0 p1 p2
      grind
    rcases Int.mul_eq_zero.1 this with h | h
    · exact h
    · exact absurd h hD
  have z2 : partsOf r (i, j, k) 0 * (r i).2 + partsOf r (i, j, k) 1 * (r j).2 + partsOf r (i, j, k) 2 * (r k).2 = 0 := by
    have : (partsOf r (i, j, k) 0 * (r i).2 + partsOf r (i, j, k) 1 * (r j).2 + partsOf r (i, j, k) 2 * (r k).2) * evenD (r i) (r j) (r k) = 0 := by
      unfold crossR at p0 p1 p2
      grind
    rcases Int.mul_eq_zero.1 this with h | h
    · exact h
    · exact absurd h hD
  simp only [v1, v2] at e1 e2
  rw [z1] at e1
  rw [z2] at e2
  have t1 := t0 n
  have t2 := t0 (n + 1)
  exact ⟨by omega, by omega⟩

end Go.Proofs.YtehafggcncbnkaaGreat

namespace Go.Proofs.YtehafggcncbnkaaGreat
open Go Go.RowKit

theorem rat_parts (n : Int) {d : Int} (hd : 0 < d) : ∃ g : Int, 0 < g ∧ n = ratN n d * g ∧ d = ratD n d * g ∧ Int.gcd (ratN n d) (ratD n d) = 1 := by
  have hg := gcd_bd n d hd
  refine ⟨Int.gcd n d, hg.1, ?_, ?_, ?_⟩
  · exact (Int.tdiv_mul_cancel (Int.gcd_dvd_left _ _)).symm
  · exact (Int.ediv_mul_cancel (Int.gcd_dvd_right _ _)).symm
  · unfold ratN ratD
    rw [Int.tdiv_eq_ediv_of_dvd (Int.gcd_dvd_left _ _)]
    exact Int.gcd_ediv_gcd_ediv_gcd (by omega)
theorem ratD_pos (n : Int) {d : Int} (hd : 0 < d) : 0 < ratD n d := by
  obtain ⟨g, hg, _, h, _⟩ := rat_parts n hd
  rcases Int.lt_or_le 0 (ratD n d) with h' | h'
  · exact h'
  · have := Int.mul_le_mul_of_nonneg_right h' (Int.le_of_lt hg)
    omega
theorem dvd_of_cross {a b a' b' : Int} (hc : Int.gcd a b = 1) (h : a * b' = a' * b) : b ∣ b' := by
  have h1 : b.natAbs ∣ a.natAbs * b'.natAbs := by
    rw [← Int.natAbs_mul, h, Int.natAbs_mul]
    exact Nat.dvd_mul_left _ _
  have h2 : Nat.Coprime b.natAbs a.natAbs := by
    unfold Nat.Coprime
    rw [Nat.gcd_comm]
    exact hc
  exact Int.natAbs_dvd_natAbs.1 (h2.dvd_of_dvd_mul_left h1)
theorem same_in {n d n' d' a b a' b' g g' : Int} (hg : 0 < g) (hg' : 0 < g') (e1 : n = a * g) (e2 : d = b * g) (e1' : n' = a' * g') (e2' : d' = b' * g') (hc : Int.gcd a b = 1) (hc' : Int.gcd a' b' = 1) (p : 0 < b) (p' : 0 < b') (h : n * d' = n' * d) : a = a' ∧ b = b' := by
  have hx : a * b' = a' * b := by
    have h1 : (a * b') * (g * g') = (a' * b) * (g * g') := by
      rw [e1, e2', e1', e2] at h
      grind
    have hgg : 0 < g * g' := Int.mul_pos hg hg'
    exact Int.eq_of_mul_eq_mul_right (by omega) h1
  have d1 := dvd_of_cross hc hx
  have d2 := dvd_of_cross hc' hx.symm
  have eb : b = b' := by
    have l1 := Int.le_of_dvd p' d1
    have l2 := Int.le_of_dvd p d2
    omega
  subst eb
  exact ⟨Int.eq_of_mul_eq_mul_right (by omega) hx, rfl⟩
/-- Fractions that are equal are the same in least terms. -/
theorem rat_same {n d n' d' : Int} (hd : 0 < d) (hd' : 0 < d') (h : n * d' = n' * d) : ratN n d = ratN n' d' ∧ ratD n d = ratD n' d' := by
  obtain ⟨g, hg, e1, e2, hc⟩ := rat_parts n hd
  obtain ⟨g', hg', e1', e2', hc'⟩ := rat_parts n' hd'
  exact same_in hg hg' e1 e2 e1' e2' hc hc' (ratD_pos n hd) (ratD_pos n' hd') h
/-- One in least terms is less just if it is. -/
theorem ltB_rat {n d n' d' : Int} (hd : 0 < d) (hd' : 0 < d') : ltB (ratN n d) (ratD n d) (ratN n' d') (ratD n' d') = decide (n * d' < n' * d) := by
  obtain ⟨g, hg, e1, e2, _⟩ := rat_parts n hd
  obtain ⟨g', hg', e1', e2', _⟩ := rat_parts n' hd'
  obtain ⟨a, ha⟩ : ∃ a, ratN n d = a := ⟨_, rfl⟩
  obtain ⟨b, hb⟩ : ∃ b, ratD n d = b := ⟨_, rfl⟩
  obtain ⟨a', ha'⟩ : ∃ a, ratN n' d' = a := ⟨_, rfl⟩
  obtain ⟨b', hb'⟩ : ∃ b, ratD n' d' = b := ⟨_, rfl⟩
  rw [ha, hb, ha', hb']
  rw [ha] at e1
  rw [hb] at e2
  rw [ha'] at e1'
  rw [hb'] at e2'
  have hgg : 0 < g * g' := Int.mul_pos hg hg'
  unfold ltB
  have h1 : n * d' = (a * b') * (g * g') := by rw [e1, e2']; grind
  have h2 : n' * d = (a' * b) * (g * g') := by rw [e1', e2]; grind
  rw [h1, h2]
  by_cases h : a * b' < a' * b
  · rw [decide_eq_true h, decide_eq_true (Int.mul_lt_mul_of_pos_right h hgg)]
  · rw [decide_eq_false h, decide_eq_false]
    have := Int.mul_le_mul_of_nonneg_right (Int.not_lt.1 h) (Int.le_of_lt hgg)
    omega

/-- Fractions by a number above 0 are in an order. -/
theorem frac_order {α : Type} (N D : α → Int) : Order (fun x => 0 < D x) (fun x y => ltB (ratN (N x) (D x)) (ratD (N x) (D x)) (ratN (N y) (D y)) (ratD (N y) (D y))) where
  irrefl x hx := by
    rw [ltB_rat hx hx]
    simp
  asymm x y hx hy h := by
    rw [ltB_rat hx hy] at h
    rw [ltB_rat hy hx]
    simp only [decide_eq_true_eq, decide_eq_false_iff_not] at *
    omega
  ntrans x y z hx hy hz h1 h2 := by
    rw [ltB_rat hx hy] at h1
    rw [ltB_rat hy hz] at h2
    rw [ltB_rat hx hz]
    simp only [decide_eq_false_iff_not, Int.not_lt] at *
    have e1 := Int.mul_le_mul_of_nonneg_right h1 (Int.le_of_lt hz)
    have e2 := Int.mul_le_mul_of_nonneg_right h2 (Int.le_of_lt hx)
    have e3 : (N z * D x) * D y ≤ (N x * D z) * D y := by grind
    exact Int.le_of_mul_le_mul_right e3 hy

theorem potP (s : Bool) (m : Nat → M5) (f : Nat → Int) (n : Nat) : unitSum (potU s m) f n (·.p) = priceF m f n := rfl
theorem potQ (s : Bool) (m : Nat → M5) (f : Nat → Int) (n : Nat) : unitSum (potU s m) f n (·.q) = sumF f n := sumC fun i _ => by simp [unitOf]
theorem room_sums {n : Nat} {m : Nat → M5} {l c : Int} {s : Bool} (x : Nat → Int) :
    sumF (fun i => x i * (roomF n (potU s m) l c i).1) n = l * sumF x n - leadF s m x n ∧ sumF (fun i => x i * (roomF n (potU s m) l c i).2) n = copperF s m x n - c * sumF x n := by
  have h1 := sumF_lin l (-1) x (fun i => x i * bad s (m i)) n
  have h2 := sumF_lin 1 (-c) (fun i => x i * good s (m i)) x n
  refine ⟨(sumC fun i hi => ?_).trans (h1.trans ?_), (sumC fun i hi => ?_).trans (h2.trans ?_)⟩
  · unfold roomF
    rw [if_pos hi]
    show x i * (l - (potU s m i).l) = _
    have : (potU s m i).l = bad s (m i) := by cases s <;> rfl
    rw [this]
    grind
  · show _ = l * sumF x n - sumF (fun i => x i * bad s (m i)) n
    omega
  · unfold roomF
    rw [if_pos hi]
    show x i * ((potU s m i).c - c) = _
    have : (potU s m i).c = good s (m i) := by cases s <;> rfl
    rw [this]
    grind
  · show _ = sumF (fun i => x i * good s (m i)) n - c * sumF x n
    rw [Int.one_mul, Int.neg_mul]
    omega
theorem room_none (n : Nat) (u : Nat → U4) (l c : Int) : roomF n u l c n = (-1, 0) ∧ roomF n u l c (n + 1) = (0, -1) := by
  unfold roomF
  refine ⟨by rw [if_neg (by omega), if_pos rfl], by rw [if_neg (by omega), if_neg (by omega)]⟩

/-- A corner deserves the touch. -/
theorem corner_good {n : Nat} {m : Nat → M5} {l c : Int} {s : Bool} {f : Nat → Int} (hf : f ∈ potL n m l c s) : goodB s n m l c f = true := by
  obtain ⟨v1, v2⟩ := room_none n (potU s m) l c
  obtain ⟨h1, h2⟩ := corner_room v1 v2 hf
  obtain ⟨e1, e2⟩ := room_sums (n := n) (m := m) (l := l) (c := c) (s := s) f
  rw [e1] at h1
  rw [e2] at h2
  exact decide_eq_true ⟨by omega, by omega⟩
/-- What is worth no less than 0 at all corners is so at each mixture that deserves the touch. -/
theorem corners_tell {n : Nat} {m : Nat → M5} {l c : Int} {s : Bool} (hn : n ≤ 6) (W : Nat → Int) (h : ∀ f ∈ potL n m l c s, 0 ≤ sumF (fun i => f i * W i) n) {x : Nat → Int} (hx : ∀ i, i < n → 0 ≤ x i) (hg : goodB s n m l c x = true) :
    0 ≤ sumF (fun i => x i * W i) n := by
  obtain ⟨v1, v2⟩ := room_none n (potU s m) l c
  obtain ⟨e1, e2⟩ := room_sums (n := n) (m := m) (l := l) (c := c) (s := s) x
  obtain ⟨g1, g2⟩ := of_decide_eq_true hg
  exact corners_all W hn v1 v2 h x hx (by rw [e1]; omega) (by rw [e2]; omega)

theorem pot_good {n : Nat} {m : Nat → M5} {l c : Int} {s : Bool} (hF : Fine n m) (ht : 0 ≤ l ∧ l ≤ 1000 ∧ 0 ≤ c ∧ c ≤ 1000) {f : Nat → Int} (hf : f ∈ potL n m l c s) : GoodMix n f :=
  corn_good (n := n) (u := potU s m) (l := l) (c := c) ⟨ht.1, ht.2.1⟩ ht.2.2 (potU_S hF s) f hf

theorem cheap_order (n : Nat) (m : Nat → M5) (s : Bool) : Order (fun f : Nat → Int => 0 < sumF f n) (cheapB n m s) := by
  have h := frac_order (fun f : Nat → Int => unitSum (potU s m) f n (·.p)) (fun f => unitSum (potU s m) f n (·.q))
  have e : (fun f : Nat → Int => 0 < unitSum (potU s m) f n (·.q)) = fun f => 0 < sumF f n := funext fun f => by rw [potQ]
  rw [e] at h
  exact h

/-- A linear sum of parts, less a multiple of their sum. -/
theorem sum_less (x : Nat → Int) (g : Nat → Int) (a b : Int) (n : Nat) : sumF (fun i => x i * (a * g i - b)) n = a * sumF (fun i => x i * g i) n - b * sumF x n := by
  have h := sumF_lin a (-b) (fun i => x i * g i) x n
  refine (sumC fun i _ => ?_).trans (h.trans ?_)
  · grind
  · rw [Int.neg_mul]; omega

/-- Without a corner no mixture deserves the touch. -/
theorem least_none {n : Nat} {m : Nat → M5} {l c : Int} {s : Bool} (hn : n ≤ 6) (h : potL n m l c s = []) {x : Nat → Int} (hx : ∀ i, i < n → 0 ≤ x i) (hp : 0 < sumF x n) : goodB s n m l c x = false := by
  cases hg : goodB s n m l c x with
  | false => rfl
  | true =>
    have := corners_tell hn (fun _ => -1) (fun f hf => by rw [h] at hf; simp at hf) hx hg
    have e := sum_less x (fun _ => 0) 0 1 n
    rw [sumC (g := fun i => x i * (0 * 0 - 1)) fun i _ => by simp, e] at this
    omega

/-- The best corner by a linear worth is the best of all mixtures that deserve the touch. -/
theorem best_tells {n : Nat} {m : Nat → M5} {l c : Int} {s : Bool} (hF : Fine n m) (g : Nat → Int) {f : Nat → Int}
    (hm : ∀ y ∈ potL n m l c s, sumF (fun i => f i * g i) n * sumF y n ≤ sumF (fun i => y i * g i) n * sumF f n) {x : Nat → Int} (hx : ∀ i, i < n → 0 ≤ x i) (hg : goodB s n m l c x = true) :
    sumF (fun i => f i * g i) n * sumF x n ≤ sumF (fun i => x i * g i) n * sumF f n := by
  have key := corners_tell hF.2.1 (fun i => sumF f n * g i - sumF (fun i => f i * g i) n) (fun y hy => by
    rw [sum_less]
    have := hm y hy
    grind) hx hg
  rw [sum_less] at key
  grind

theorem least_some {n : Nat} {m : Nat → M5} {l c : Int} {s : Bool} (hF : Fine n m) (ht : 0 ≤ l ∧ l ≤ 1000 ∧ 0 ≤ c ∧ c ≤ 1000) {f : Nat → Int} (h : bestS (cheapB n m s) (potL n m l c s) = some f) :
    f ∈ potL n m l c s ∧ GoodMix n f ∧ goodB s n m l c f = true ∧ ∀ x : Nat → Int, (∀ i, i < n → 0 ≤ x i) → goodB s n m l c x = true → priceF m f n * sumF x n ≤ priceF m x n * sumF f n := by
  obtain ⟨h1, h2⟩ := bestS_max (cheap_order n m s) (fun y hy => (pot_good hF ht hy).2.2) h
  have hf := pot_good hF ht h1
  refine ⟨h1, hf, corner_good h1, fun x hx hg => ?_⟩
  refine best_tells hF (fun i => (m i).p) (fun y hy => ?_) hx hg
  have h3 := h2 y hy
  have hy := (pot_good hF ht hy).2.2
  unfold cheapB cheaperB at h3
  rw [potP, potQ, potP, potQ, ltB_rat hy hf.2.2] at h3
  have := of_decide_eq_false h3
  exact Int.not_lt.1 this

end Go.Proofs.YtehafggcncbnkaaGreat
