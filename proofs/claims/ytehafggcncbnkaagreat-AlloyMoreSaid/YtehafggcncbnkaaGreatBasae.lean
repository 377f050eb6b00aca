/- Contracts of package alloy: Ends. -/
import Derived.Test.YtehafggcncbnkaaGreatProg
import Derived.Test.YtehafggcncbnkaaGreatBasaa
import Derived.Test.YtehafggcncbnkaaGreatBasac
import Derived.Test.YtehafggcncbnkaaGreatBasab
import Derived.Test.YtehafggcncbnkaaGreatBasad
namespace Go.Proofs.YtehafggcncbnkaaGreat
open Go.RowKit

def colOf (copper : Bool) (u : U4) : Int := if copper then u.c else u.l

theorem RowIs.other {w : World} {b b' : Nat} {c : Array Value} {e : TypeId} (h : RowIs w b c e) (hne : b ≠ b') (j : Nat) (v : Value) : RowIs (w.setCell ⟨b', j, none⟩ v) b c e := by
  rw [RowIs, Below.heap_setCell _ _ _ _ hne]; exact h

theorem low_unit (copper : Bool) (m : Nat → M5) (f : Nat → Int) (n : Nat) : unitSum (fun i => unitOf false false (m i)) (padF f n) n (colOf copper) = lowF copper m f n := by
  rw [unitSum_pad]; cases copper <;> rfl
theorem high_unit (copper : Bool) (m : Nat → M5) (f : Nat → Int) (n : Nat) : unitSum (fun i => unitOf true true (m i)) (padF f n) n (colOf copper) = highF copper m f n := by
  rw [unitSum_pad]; cases copper <;> rfl

/-- The two fractions, as far as they are known. -/
def endsA (copper : Bool) (m : Nat → M5) (f : Nat → Int) (n j : Nat) : Array Value :=
  #[.int .i64 (if 0 < j then ratN (lowF copper m f n) (sumF f n) else 0), .int .i64 (if 0 < j then ratD (lowF copper m f n) (sumF f n) else 0),
    .int .i64 (if 1 < j then ratN (highF copper m f n) (sumF f n) else 0), .int .i64 (if 1 < j then ratD (highF copper m f n) (sumF f n) else 0)]

set_option maxRecDepth 100000 in
set_option maxHeartbeats 4000000 in
theorem Ends_ok_c (a b : Option Addr) (n cap cap2 : Nat) (m : Nat → M5) (f : Nat → Int) (copper : Bool) (w : World) (hm : Metals w a n m) (hf : Ints w b n f) (hn : n ≤ 1048576) (h0 : metalsE n m = 0) (h1 : mixE n n f = 0) :
    Calls Tryz.prog 21 #[.slice a n cap, .slice b n cap2, .bool copper] w fun e w' => e = .returned (re3 (endsR n m n f copper)) ∧ Below w.heap.size w w' := by
  obtain ⟨W, hW⟩ : ∃ W, (w.alloc (.cells #[.int .i64 0, .int .i64 0] 29)).alloc (.cells #[.int .i64 0, .int .i64 0] 29) = W := ⟨_, rfl⟩
  have hB0 : Below w.heap.size w W := by rw [← hW]; exact ((Below.refl _ _).alloc (Nat.le_refl _) _).alloc (by simp) _
  have hr0 : RowIs W w.heap.size #[.int .i64 0, .int .i64 0] 29 := by rw [← hW]; exact RowIs.alloc (heap_new_at _ _ _ rfl) _
  have hr1 : RowIs W (w.heap.size + 1) #[.int .i64 0, .int .i64 0] 29 := by rw [← hW]; exact heap_new_at _ _ _ (by simp)
  have hWs : w.heap.size + 1 < W.heap.size := (Array.getElem?_eq_some_iff.1 hr1).1
  have hm0 := hm.below hB0
  have hf0 := hf.below hB0
  obtain ⟨_, hfb, hs⟩ := mix_ok h1
  have hFine := fine_of h0
  have ev : endsR n m n f copper = ((ratN (lowF copper m f n) (sumF f n), ratD (lowF copper m f n) (sumF f n)), (ratN (highF copper m f n) (sumF f n), ratD (highF copper m f n) (sumF f n)), 0) := by
    unfold endsR; rw [if_neg (by simp [h0]), if_neg (by simp [h1])]
  rw [ev]
  have h0' : (metalsE n m != 0) = false := by simp [h0]
  have h1' : (mixE n n f != 0) = false := by simp [h1]
  have HR0 := Lib.hid hr0
  have HR1 := Lib.hid hr1
  have HFine := Lib.hid hFine
  have HFB := Lib.hid hfb
  have hn0 : 0 < n := hFine.1
  have H0 := Lib.hid h0
  have H1 := Lib.hid h1
  clear hm hf hr0 hr1 ev h0 h1 hFine hfb
  go_enter Tryz.func21, Tryz.ntmps21
  go_wp2_with fail
  refine (checkMetals_c a n cap m _ hm0 (by omega)).mono ?_
  rintro e w1 ⟨rfl, hb1⟩
  go_wp2_with fail
  refine (newStock_c a n cap m false false _ (hm0.below hb1) (by omega)).mono ?_
  rintro e w2 ⟨g, hg, rfl, hU, hb2⟩
  have hb12 := bup hb1 hb2
  go_wp2_with fail
  refine (newStock_c a n cap m true true _ (hm0.below hb12) (by omega)).mono ?_
  rintro e w3 ⟨g2, hg2, rfl, hU2, hb3⟩
  have hb13 := bup hb12 hb3
  have hU3 := hU.below hb3
  go_wp2_with fail
  obtain ⟨w4, hw4⟩ : ∃ w4, (w3.alloc (.cells #[.slice (some ⟨g, 0, none⟩) n n] 83)).alloc (.cells #[.slice (some ⟨g2, 0, none⟩) n n] 83) = w4 := ⟨_, rfl⟩
  have hb4 : Below w3.heap.size w3 w4 := by rw [← hw4]; exact ((Below.refl _ _).alloc (Nat.le_refl _) _).alloc (by simp) _
  have hk0 : RowIs w4 w3.heap.size #[.slice (some ⟨g, 0, none⟩) n n] 83 := by rw [← hw4]; exact RowIs.alloc (heap_new_at _ _ _ rfl) _
  have hk1 : RowIs w4 (w3.heap.size + 1) #[.slice (some ⟨g2, 0, none⟩) n n] 83 := by rw [← hw4]; exact heap_new_at _ _ _ (by simp)
  have hk2 : w3.heap.size + 1 < w4.heap.size := (Array.getElem?_eq_some_iff.1 hk1).1
  have HK0 := Lib.hid hk0
  have HK1 := Lib.hid hk1
  clear hk0 hk1
  rw [hw4]
  refine (checkMixture_c _ _ n n n cap2 _ f _ (hU3.below hb4) (ones_of HFine.out false false) hn0 (hf0.below (bup hb13 hb4)) (by omega)).mono ?_
  rintro e w5 ⟨rfl, hb5⟩
  have hb45 := bup hb4 hb5
  have hb15 := bup hb13 hb45
  have k0 : w5.cell? ⟨w3.heap.size, 0, none⟩ = some (.slice (some ⟨g, 0, none⟩) n n) := ((hb5.block _ (by omega)).trans HK0.out |> fun (h : RowIs w5 w3.heap.size _ _) => h.cell 0)
  have k1 : w5.cell? ⟨w3.heap.size + 1, 0, none⟩ = some (.slice (some ⟨g2, 0, none⟩) n n) := ((hb5.block _ (by omega)).trans HK1.out |> fun (h : RowIs w5 (w3.heap.size + 1) _ _) => h.cell 0)
  have hz5 := hb5.size
  have y0 : w3.heap.size < w5.heap.size := by omega
  have y1 : w3.heap.size + 1 < w5.heap.size := by omega
  clear hw4 hb4 hb5 hm0 hb1 hb2 hb3 hb12
  have HU5 := Lib.hid (hU3.below hb45)
  have HU25 := Lib.hid (hU2.below hb45)
  have hL := sumF_nn (fun i => f i * loOf copper (m i)) 1000000000 n fun i hi => by
    have h1 := HFB.out i hi
    have h2 := (ends_bd HFine.out copper i hi).1
    have := mul_bd h1.1 h1.2 h2.1 h2.2
    omega
  have hH := sumF_nn (fun i => f i * hiOf copper (m i)) 1000000000 n fun i hi => by
    have h1 := HFB.out i hi
    have h2 := (ends_bd HFine.out copper i hi).2
    have := mul_bd h1.1 h1.2 h2.1 h2.2
    omega
  have hL' : 0 ≤ lowF copper m f n ∧ lowF copper m f n ≤ 1000000000 * n := hL
  have hH' : 0 ≤ highF copper m f n ∧ highF copper m f n ≤ 1000000000 * n := hH
  have hS := sumF_nn f 1000000 n HFB.out
  have hn6 := HFine.out.2.1
  clear hL hH hU hU2 hU3
  cases copper
  · go_wp2_with fail
    obtain ⟨wT, hwT⟩ : ∃ wT, (w5.alloc (.cells #[.int .i64 0, .int .i64 0, .int .i64 0, .int .i64 0] 92)).alloc (.cells #[.int .i64 0, .int .i64 0, .int .i64 0, .int .i64 0] 93) = wT := ⟨_, rfl⟩
    have hT0 : RowIs wT w5.heap.size #[.int .i64 0, .int .i64 0, .int .i64 0, .int .i64 0] 92 := by rw [← hwT]; exact RowIs.alloc (heap_new_at _ _ _ rfl) _
    have hT1 : RowIs wT (w5.heap.size + 1) #[.int .i64 0, .int .i64 0, .int .i64 0, .int .i64 0] 93 := by rw [← hwT]; exact heap_new_at _ _ _ (by simp)
    have hbT : Below w5.heap.size w5 wT := by rw [← hwT]; exact ((Below.refl _ _).alloc (Nat.le_refl _) _).alloc (by simp) _
    have hzT : w5.heap.size + 1 < wT.heap.size := (Array.getElem?_eq_some_iff.1 hT1).1
    rw [hwT]
    have HT0 := Lib.hid hT0
    have HT1 := Lib.hid hT1
    clear hwT hT0 hT1 k0 k1
    go_loopw [16, 17, 41] (fun _ _ i wr => ∃ j : Nat, j ≤ 2 ∧ i = .int .i64 j ∧ (∃ c0 c1 c2 c3, RowIs wr w5.heap.size #[c0, c1, c2, c3] 92) ∧ RowIs wr (w5.heap.size + 1) (endsA false m f n j) 93 ∧ Below w5.heap.size wT wr) (fun _ _ i _ => 2 - (intOf i).toNat)
    case atStart => exact ⟨0, by omega, rfl, ⟨_, _, _, _, HT0.out⟩, HT1.out, Below.refl _ _⟩
    case round =>
      obtain ⟨j, hj, rfl, ⟨c0, c1, c2, c3, hTr⟩, hEr, hBr⟩ := hrel
      have hzr := hBr.size
      have hc : j = 0 ∨ j = 1 ∨ j = 2 := by omega
      rcases hc with rfl | rfl | rfl
      · have ix : ∀ w', (Instr.index 94 (.agg #[.slice (some ⟨g, 0, none⟩) n n, .slice (some ⟨g2, 0, none⟩) n n]) (.int .i64 0)).run Tryz.prog w' = .ok (.agg #[.slice (some ⟨g, 0, none⟩) n n]) w' := fun _ => by kernel_rfl
        go_wp2_with fail
        obtain ⟨wo, hwo⟩ : ∃ wo : World, wr.alloc (.cells #[.slice (some ⟨g, 0, none⟩) n n] 83) = wo := ⟨_, rfl⟩
        have ho1 : RowIs wo wr.heap.size #[.slice (some ⟨g, 0, none⟩) n n] 83 := by rw [← hwo]; exact heap_new_at _ _ _ rfl
        have hbo : Below wr.heap.size wr wo := by rw [← hwo]; exact (Below.refl _ _).alloc (Nat.le_refl _) _
        have s0 : wo.cell? ⟨wr.heap.size, 0, none⟩ = some (.slice (some ⟨g, 0, none⟩) n n) := ho1.cell 0
        have hzo : wr.heap.size < wo.heap.size := (Array.getElem?_eq_some_iff.1 ho1).1
        have hB5 : Below w5.heap.size w5 wo := (hbT.trans hBr).trans (hbo.mono (by omega))
        rw [hwo]
        clear hwo ho1
        have ht1 := fun (x : Later wo) => takeOver_c b n cap2 f x.w (((hf0.below hb15).below hB5).below x.h) HFine.out.2.1
        have HTK := Lib.hid ht1
        have HRo := Lib.hid hTr
        have HEo := Lib.hid hEr
        clear ht1 hTr hEr
        have hlc := fun (x : Later wo) => later_cell x
        refine wp_region_later_tail 3 (by kernel_rfl) (by kernel_rfl) ?_
        simp only [List.take_succ_cons, List.take_zero, List.drop_succ_cons, List.drop_zero]
        repeat (go_big_quiet_step ((with_reducible refine calls_later (HTK.out _))))
        refine wpQuiet_nil ?_
        clear hlc HTK s0
        rintro ⟨w6, hb6⟩
        have hb06 := bup hbo hb6
        have hr6 := (hb06.block w5.heap.size (by omega)).trans HRo.out
        have hB6 : Below w5.heap.size w5 w6 := hB5.trans (hb6.mono (by have := hB5.size; omega))
        go_wp2_with fail
        refine (weigh_c (some ⟨g, 0, none⟩) n n w5.heap.size (fun i => unitOf false false (m i)) (padF f n) _ _ _ _ 92 w6 (HU5.out.below hB6) (ones_of HFine.out false false).1 (fun i _ => by have := pad_bd (by omega) HFB.out i; omega) hr6 ?_).mono ?_
        · intro b' off e
          cases e
          have := units_lt HU5.out _ _ rfl hn0
          omega
        rintro e w7 ⟨rfl, hrow, hgr⟩
        have t0 : w7.cell? ⟨w5.heap.size, 0, none⟩ = some (.int .i64 (sumF f n)) := (hrow.cell 0).trans (by
          show some (Value.int .i64 (unitSum (fun i => unitOf false false (m i)) (padF f n) n (·.q))) = _
          rw [show unitSum (fun i => unitOf false false (m i)) (padF f n) n (·.q) = sumF f n from by rw [unitSum_pad, unitSum_ones fun _ _ => rfl]])
        have t1 : w7.cell? ⟨w5.heap.size, 2, none⟩ = some (.int .i64 (lowF false m f n)) := (hrow.cell 2).trans (by
          show some _ = some _
          rw [← low_unit false m f n]; rfl)
        have hb67 : Below w5.heap.size w6 w7 := grown_below hgr (Nat.le_refl _) (by have := hB6.size; omega)
        have hz67 := hgr.size
        have hz06 := hb06.size
        have hE7 := (hgr.block (w5.heap.size + 1) (by omega) (fun e => by have := Option.some.inj e; omega)).trans ((hb06.block (w5.heap.size + 1) (by omega)).trans HEo.out)
        have hrow7 := Lib.hid hrow
        have HE7 := Lib.hid hE7
        have hy0 : w5.heap.size < w7.heap.size := by omega
        clear hrow hE7 hgr
        go_wp2_with fail
        have hlc := fun (x : Later w7) => later_cell x
        refine wp_region_later_tail 8 (by kernel_rfl) (by kernel_rfl) ?_
        simp only [List.take_succ_cons, List.take_zero, List.drop_succ_cons, List.drop_zero]
        repeat (go_big_quiet_step ((refine calls_later (ratio_c _ _ _ (by omega) (by omega) hs (by omega)))))
        refine wpQuiet_nil ?_
        clear hlc t0 t1
        rintro ⟨w8, hb8⟩
        have hE8 : RowIs w8 (w5.heap.size + 1) (endsA false m f n 0) 93 := (hb8.block _ (by omega)).trans HE7.out
        have hT8 := (hb8.block w5.heap.size (by omega)).trans hrow7.out
        have v0 : w8.cell? ⟨w5.heap.size + 1, 0, none⟩ = some (.int .i64 0) := hE8.cell 0
        have v1 : w8.cell? ⟨w5.heap.size + 1, 1, none⟩ = some (.int .i64 0) := hE8.cell 1
        have z0 := hE8.frozen 0
        have z1 := hE8.frozen 1
        have HE8 := Lib.hid hE8
        have HT8 := Lib.hid hT8
        clear hE8 hT8
        go_wp2_with fail
        have hfin : Below w5.heap.size wT w8 := (((hBr.trans (hbo.mono (by omega))).trans (hb6.mono (by omega))).trans hb67).trans (hb8.mono (by omega))
        exact ⟨⟨1, by omega, rfl, ⟨_, _, _, _, RowIs.other (RowIs.other HT8.out (by omega) _ _) (by omega) _ _⟩, by simpa [endsA] using (HE8.out.set 0 (.int .i64 (ratN (lowF false m f n) (sumF f n)))).set 1 (.int .i64 (ratD (lowF false m f n) (sumF f n))), (hfin.setCell (p := ⟨w5.heap.size + 1, 0, none⟩) (Nat.le_succ _) _).setCell (p := ⟨w5.heap.size + 1, 1, none⟩) (Nat.le_succ _) _⟩, by simp [intOf]⟩
      · have ix : ∀ w', (Instr.index 94 (.agg #[.slice (some ⟨g, 0, none⟩) n n, .slice (some ⟨g2, 0, none⟩) n n]) (.int .i64 1)).run Tryz.prog w' = .ok (.agg #[.slice (some ⟨g2, 0, none⟩) n n]) w' := fun _ => by kernel_rfl
        go_wp2_with fail
        obtain ⟨wo, hwo⟩ : ∃ wo : World, wr.alloc (.cells #[.slice (some ⟨g2, 0, none⟩) n n] 83) = wo := ⟨_, rfl⟩
        have ho1 : RowIs wo wr.heap.size #[.slice (some ⟨g2, 0, none⟩) n n] 83 := by rw [← hwo]; exact heap_new_at _ _ _ rfl
        have hbo : Below wr.heap.size wr wo := by rw [← hwo]; exact (Below.refl _ _).alloc (Nat.le_refl _) _
        have s0 : wo.cell? ⟨wr.heap.size, 0, none⟩ = some (.slice (some ⟨g2, 0, none⟩) n n) := ho1.cell 0
        have hzo : wr.heap.size < wo.heap.size := (Array.getElem?_eq_some_iff.1 ho1).1
        have hB5 : Below w5.heap.size w5 wo := (hbT.trans hBr).trans (hbo.mono (by omega))
        rw [hwo]
        clear hwo ho1
        have ht1 := fun (x : Later wo) => takeOver_c b n cap2 f x.w (((hf0.below hb15).below hB5).below x.h) HFine.out.2.1
        have HTK := Lib.hid ht1
        have HRo := Lib.hid hTr
        have HEo := Lib.hid hEr
        clear ht1 hTr hEr
        have hlc := fun (x : Later wo) => later_cell x
        refine wp_region_later_tail 3 (by kernel_rfl) (by kernel_rfl) ?_
        simp only [List.take_succ_cons, List.take_zero, List.drop_succ_cons, List.drop_zero]
        repeat (go_big_quiet_step ((with_reducible refine calls_later (HTK.out _))))
        refine wpQuiet_nil ?_
        clear hlc HTK s0
        rintro ⟨w6, hb6⟩
        have hb06 := bup hbo hb6
        have hr6 := (hb06.block w5.heap.size (by omega)).trans HRo.out
        have hB6 : Below w5.heap.size w5 w6 := hB5.trans (hb6.mono (by have := hB5.size; omega))
        go_wp2_with fail
        refine (weigh_c (some ⟨g2, 0, none⟩) n n w5.heap.size (fun i => unitOf true true (m i)) (padF f n) _ _ _ _ 92 w6 (HU25.out.below hB6) (ones_of HFine.out true true).1 (fun i _ => by have := pad_bd (by omega) HFB.out i; omega) hr6 ?_).mono ?_
        · intro b' off e
          cases e
          have := units_lt HU25.out _ _ rfl hn0
          omega
        rintro e w7 ⟨rfl, hrow, hgr⟩
        have t0 : w7.cell? ⟨w5.heap.size, 0, none⟩ = some (.int .i64 (sumF f n)) := (hrow.cell 0).trans (by
          show some (Value.int .i64 (unitSum (fun i => unitOf true true (m i)) (padF f n) n (·.q))) = _
          rw [show unitSum (fun i => unitOf true true (m i)) (padF f n) n (·.q) = sumF f n from by rw [unitSum_pad, unitSum_ones fun _ _ => rfl]])
        have t1 : w7.cell? ⟨w5.heap.size, 2, none⟩ = some (.int .i64 (highF false m f n)) := (hrow.cell 2).trans (by
          show some _ = some _
          rw [← high_unit false m f n]; rfl)
        have hb67 : Below w5.heap.size w6 w7 := grown_below hgr (Nat.le_refl _) (by have := hB6.size; omega)
        have hz67 := hgr.size
        have hz06 := hb06.size
        have hE7 := (hgr.block (w5.heap.size + 1) (by omega) (fun e => by have := Option.some.inj e; omega)).trans ((hb06.block (w5.heap.size + 1) (by omega)).trans HEo.out)
        have hrow7 := Lib.hid hrow
        have HE7 := Lib.hid hE7
        have hy0 : w5.heap.size < w7.heap.size := by omega
        clear hrow hE7 hgr
        go_wp2_with fail
        have hlc := fun (x : Later w7) => later_cell x
        refine wp_region_later_tail 8 (by kernel_rfl) (by kernel_rfl) ?_
        simp only [List.take_succ_cons, List.take_zero, List.drop_succ_cons, List.drop_zero]
        repeat (go_big_quiet_step ((refine calls_later (ratio_c _ _ _ (by omega) (by omega) hs (by omega)))))
        refine wpQuiet_nil ?_
        clear hlc t0 t1
        rintro ⟨w8, hb8⟩
        have hE8 : RowIs w8 (w5.heap.size + 1) (endsA false m f n 1) 93 := (hb8.block _ (by omega)).trans HE7.out
        have hT8 := (hb8.block w5.heap.size (by omega)).trans hrow7.out
        have v0 : w8.cell? ⟨w5.heap.size + 1, 2, none⟩ = some (.int .i64 0) := hE8.cell 2
        have v1 : w8.cell? ⟨w5.heap.size + 1, 3, none⟩ = some (.int .i64 0) := hE8.cell 3
        have z0 := hE8.frozen 2
        have z1 := hE8.frozen 3
        have HE8 := Lib.hid hE8
        have HT8 := Lib.hid hT8
        clear hE8 hT8
        go_wp2_with fail
        have hfin : Below w5.heap.size wT w8 := (((hBr.trans (hbo.mono (by omega))).trans (hb6.mono (by omega))).trans hb67).trans (hb8.mono (by omega))
        exact ⟨⟨2, by omega, rfl, ⟨_, _, _, _, RowIs.other (RowIs.other HT8.out (by omega) _ _) (by omega) _ _⟩, by simpa [endsA] using (HE8.out.set 2 (.int .i64 (ratN (highF false m f n) (sumF f n)))).set 3 (.int .i64 (ratD (highF false m f n) (sumF f n))), (hfin.setCell (p := ⟨w5.heap.size + 1, 2, none⟩) (Nat.le_succ _) _).setCell (p := ⟨w5.heap.size + 1, 3, none⟩) (Nat.le_succ _) _⟩, by simp [intOf]⟩
      · have hz15 := hb15.size
        have hq0 : RowIs wr w.heap.size #[.int .i64 0, .int .i64 0] 29 := (((hbT.trans hBr).block _ (by omega)).trans (hb15.block _ (by omega))).trans HR0.out
        have hq1 : RowIs wr (w.heap.size + 1) #[.int .i64 0, .int .i64 0] 29 := (((hbT.trans hBr).block _ (by omega)).trans (hb15.block _ (by omega))).trans HR1.out
        have r0 := hq0.cell 0
        have r1 := hq0.cell 1
        have r2 := hq1.cell 0
        have r3 := hq1.cell 1
        have z0 := hq0.frozen 0
        have z1 := hq0.frozen 1
        have z2 := hq1.frozen 0
        have z3 := hq1.frozen 1
        have hE : RowIs wr (w5.heap.size + 1) #[.int .i64 (ratN (lowF false m f n) (sumF f n)), .int .i64 (ratD (lowF false m f n) (sumF f n)), .int .i64 (ratN (highF false m f n) (sumF f n)), .int .i64 (ratD (highF false m f n) (sumF f n))] 93 := by simpa [endsA] using hEr
        have x0 := hE.cell 0
        have x1 := hE.cell 1
        have x2 := hE.cell 2
        have x3 := hE.cell 3
        simp at r0 r1 r2 r3 x0 x1 x2 x3
        have HQ0 := Lib.hid hq0
        have HQ1 := Lib.hid hq1
        clear hq0 hq1 hE hEr hTr
        go_wp2_with fail
        go_region
        go_wp2_with fail
        have f0 : RowIs _ w.heap.size _ 29 := RowIs.other (RowIs.other ((HQ0.out.set 0 (.int .i64 (ratN (lowF false m f n) (sumF f n)))).set 1 (.int .i64 (ratD (lowF false m f n) (sumF f n)))) (j := 0) (b' := w.heap.size + 1) (by omega) (.int .i64 (ratN (highF false m f n) (sumF f n)))) (b' := w.heap.size + 1) (j := 1) (by omega) (.int .i64 (ratD (highF false m f n) (sumF f n)))
        have f1 : RowIs _ (w.heap.size + 1) _ 29 := (((HQ1.out.other (b' := w.heap.size) (by omega) 0 (.int .i64 (ratN (lowF false m f n) (sumF f n)))).other (b' := w.heap.size) (by omega) 1 (.int .i64 (ratD (lowF false m f n) (sumF f n)))).set 0 (.int .i64 (ratN (highF false m f n) (sumF f n)))).set 1 (.int .i64 (ratD (highF false m f n) (sumF f n)))
        have g0 := f0.cell 0
        have g1 := f0.cell 1
        have g2' := f1.cell 0
        have g3 := f1.cell 1
        simp at g0 g1 g2' g3
        clear f0 f1 r0 r1 r2 r3 x0 x1 x2 x3 z0 z1 z2 z3
        refine bodyPost_ret (v := re3 ((ratN (lowF false m f n) (sumF f n), ratD (lowF false m f n) (sumF f n)), (ratN (highF false m f n) (sumF f n), ratD (highF false m f n) (sumF f n)), 0)) (by simp [results, Tryz.results21, go_sem, g0, g1, g2', g3]) rfl ⟨rfl, ?_⟩
        have hfin : Below w.heap.size w wr := (hB0.trans (hb15.mono (by omega))).trans ((hbT.trans hBr).mono (by omega))
        exact ((((hfin.setCell (p := ⟨w.heap.size, 0, none⟩) (Nat.le_refl _) _).setCell (p := ⟨w.heap.size, 1, none⟩) (Nat.le_refl _) _).setCell (p := ⟨w.heap.size + 1, 0, none⟩) (Nat.le_succ _) _).setCell (p := ⟨w.heap.size + 1, 1, none⟩) (Nat.le_succ _) _).drew
  · go_wp2_with fail
    obtain ⟨wT, hwT⟩ : ∃ wT, (w5.alloc (.cells #[.int .i64 0, .int .i64 0, .int .i64 0, .int .i64 0] 92)).alloc (.cells #[.int .i64 0, .int .i64 0, .int .i64 0, .int .i64 0] 93) = wT := ⟨_, rfl⟩
    have hT0 : RowIs wT w5.heap.size #[.int .i64 0, .int .i64 0, .int .i64 0, .int .i64 0] 92 := by rw [← hwT]; exact RowIs.alloc (heap_new_at _ _ _ rfl) _
    have hT1 : RowIs wT (w5.heap.size + 1) #[.int .i64 0, .int .i64 0, .int .i64 0, .int .i64 0] 93 := by rw [← hwT]; exact heap_new_at _ _ _ (by simp)
    have hbT : Below w5.heap.size w5 wT := by rw [← hwT]; exact ((Below.refl _ _).alloc (Nat.le_refl _) _).alloc (by simp) _
    have hzT : w5.heap.size + 1 < wT.heap.size := (Array.getElem?_eq_some_iff.1 hT1).1
    rw [hwT]
    have HT0 := Lib.hid hT0
    have HT1 := Lib.hid hT1
    clear hwT hT0 hT1 k0 k1
    go_loopw [16, 17, 41] (fun _ _ i wr => ∃ j : Nat, j ≤ 2 ∧ i = .int .i64 j ∧ (∃ c0 c1 c2 c3, RowIs wr w5.heap.size #[c0, c1, c2, c3] 92) ∧ RowIs wr (w5.heap.size + 1) (endsA true m f n j) 93 ∧ Below w5.heap.size wT wr) (fun _ _ i _ => 2 - (intOf i).toNat)
    case atStart => exact ⟨0, by omega, rfl, ⟨_, _, _, _, HT0.out⟩, HT1.out, Below.refl _ _⟩
    case round =>
      obtain ⟨j, hj, rfl, ⟨c0, c1, c2, c3, hTr⟩, hEr, hBr⟩ := hrel
      have hzr := hBr.size
      have hc : j = 0 ∨ j = 1 ∨ j = 2 := by omega
      rcases hc with rfl | rfl | rfl
      · have ix : ∀ w', (Instr.index 94 (.agg #[.slice (some ⟨g, 0, none⟩) n n, .slice (some ⟨g2, 0, none⟩) n n]) (.int .i64 0)).run Tryz.prog w' = .ok (.agg #[.slice (some ⟨g, 0, none⟩) n n]) w' := fun _ => by kernel_rfl
        go_wp2_with fail
        obtain ⟨wo, hwo⟩ : ∃ wo : World, wr.alloc (.cells #[.slice (some ⟨g, 0, none⟩) n n] 83) = wo := ⟨_, rfl⟩
        have ho1 : RowIs wo wr.heap.size #[.slice (some ⟨g, 0, none⟩) n n] 83 := by rw [← hwo]; exact heap_new_at _ _ _ rfl
        have hbo : Below wr.heap.size wr wo := by rw [← hwo]; exact (Below.refl _ _).alloc (Nat.le_refl _) _
        have s0 : wo.cell? ⟨wr.heap.size, 0, none⟩ = some (.slice (some ⟨g, 0, none⟩) n n) := ho1.cell 0
        have hzo : wr.heap.size < wo.heap.size := (Array.getElem?_eq_some_iff.1 ho1).1
        have hB5 : Below w5.heap.size w5 wo := (hbT.trans hBr).trans (hbo.mono (by omega))
        rw [hwo]
        clear hwo ho1
        have ht1 := fun (x : Later wo) => takeOver_c b n cap2 f x.w (((hf0.below hb15).below hB5).below x.h) HFine.out.2.1
        have HTK := Lib.hid ht1
        have HRo := Lib.hid hTr
        have HEo := Lib.hid hEr
        clear ht1 hTr hEr
        have hlc := fun (x : Later wo) => later_cell x
        refine wp_region_later_tail 3 (by kernel_rfl) (by kernel_rfl) ?_
        simp only [List.take_succ_cons, List.take_zero, List.drop_succ_cons, List.drop_zero]
        repeat (go_big_quiet_step ((with_reducible refine calls_later (HTK.out _))))
        refine wpQuiet_nil ?_
        clear hlc HTK s0
        rintro ⟨w6, hb6⟩
        have hb06 := bup hbo hb6
        have hr6 := (hb06.block w5.heap.size (by omega)).trans HRo.out
        have hB6 : Below w5.heap.size w5 w6 := hB5.trans (hb6.mono (by have := hB5.size; omega))
        go_wp2_with fail
        refine (weigh_c (some ⟨g, 0, none⟩) n n w5.heap.size (fun i => unitOf false false (m i)) (padF f n) _ _ _ _ 92 w6 (HU5.out.below hB6) (ones_of HFine.out false false).1 (fun i _ => by have := pad_bd (by omega) HFB.out i; omega) hr6 ?_).mono ?_
        · intro b' off e
          cases e
          have := units_lt HU5.out _ _ rfl hn0
          omega
        rintro e w7 ⟨rfl, hrow, hgr⟩
        have t0 : w7.cell? ⟨w5.heap.size, 0, none⟩ = some (.int .i64 (sumF f n)) := (hrow.cell 0).trans (by
          show some (Value.int .i64 (unitSum (fun i => unitOf false false (m i)) (padF f n) n (·.q))) = _
          rw [show unitSum (fun i => unitOf false false (m i)) (padF f n) n (·.q) = sumF f n from by rw [unitSum_pad, unitSum_ones fun _ _ => rfl]])
        have t1 : w7.cell? ⟨w5.heap.size, 3, none⟩ = some (.int .i64 (lowF true m f n)) := (hrow.cell 3).trans (by
          show some _ = some _
          rw [← low_unit true m f n]; rfl)
        have hb67 : Below w5.heap.size w6 w7 := grown_below hgr (Nat.le_refl _) (by have := hB6.size; omega)
        have hz67 := hgr.size
        have hz06 := hb06.size
        have hE7 := (hgr.block (w5.heap.size + 1) (by omega) (fun e => by have := Option.some.inj e; omega)).trans ((hb06.block (w5.heap.size + 1) (by omega)).trans HEo.out)
        have hrow7 := Lib.hid hrow
        have HE7 := Lib.hid hE7
        have hy0 : w5.heap.size < w7.heap.size := by omega
        clear hrow hE7 hgr
        go_wp2_with fail
        have hlc := fun (x : Later w7) => later_cell x
        refine wp_region_later_tail 8 (by kernel_rfl) (by kernel_rfl) ?_
        simp only [List.take_succ_cons, List.take_zero, List.drop_succ_cons, List.drop_zero]
        repeat (go_big_quiet_step ((refine calls_later (ratio_c _ _ _ (by omega) (by omega) hs (by omega)))))
        refine wpQuiet_nil ?_
        clear hlc t0 t1
        rintro ⟨w8, hb8⟩
        have hE8 : RowIs w8 (w5.heap.size + 1) (endsA true m f n 0) 93 := (hb8.block _ (by omega)).trans HE7.out
        have hT8 := (hb8.block w5.heap.size (by omega)).trans hrow7.out
        have v0 : w8.cell? ⟨w5.heap.size + 1, 0, none⟩ = some (.int .i64 0) := hE8.cell 0
        have v1 : w8.cell? ⟨w5.heap.size + 1, 1, none⟩ = some (.int .i64 0) := hE8.cell 1
        have z0 := hE8.frozen 0
        have z1 := hE8.frozen 1
        have HE8 := Lib.hid hE8
        have HT8 := Lib.hid hT8
        clear hE8 hT8
        go_wp2_with fail
        have hfin : Below w5.heap.size wT w8 := (((hBr.trans (hbo.mono (by omega))).trans (hb6.mono (by omega))).trans hb67).trans (hb8.mono (by omega))
        exact ⟨⟨1, by omega, rfl, ⟨_, _, _, _, RowIs.other (RowIs.other HT8.out (by omega) _ _) (by omega) _ _⟩, by simpa [endsA] using (HE8.out.set 0 (.int .i64 (ratN (lowF true m f n) (sumF f n)))).set 1 (.int .i64 (ratD (lowF true m f n) (sumF f n))), (hfin.setCell (p := ⟨w5.heap.size + 1, 0, none⟩) (Nat.le_succ _) _).setCell (p := ⟨w5.heap.size + 1, 1, none⟩) (Nat.le_succ _) _⟩, by simp [intOf]⟩
      · have ix : ∀ w', (Instr.index 94 (.agg #[.slice (some ⟨g, 0, none⟩) n n, .slice (some ⟨g2, 0, none⟩) n n]) (.int .i64 1)).run Tryz.prog w' = .ok (.agg #[.slice (some ⟨g2, 0, none⟩) n n]) w' := fun _ => by kernel_rfl
        go_wp2_with fail
        obtain ⟨wo, hwo⟩ : ∃ wo : World, wr.alloc (.cells #[.slice (some ⟨g2, 0, none⟩) n n] 83) = wo := ⟨_, rfl⟩
        have ho1 : RowIs wo wr.heap.size #[.slice (some ⟨g2, 0, none⟩) n n] 83 := by rw [← hwo]; exact heap_new_at _ _ _ rfl
        have hbo : Below wr.heap.size wr wo := by rw [← hwo]; exact (Below.refl _ _).alloc (Nat.le_refl _) _
        have s0 : wo.cell? ⟨wr.heap.size, 0, none⟩ = some (.slice (some ⟨g2, 0, none⟩) n n) := ho1.cell 0
        have hzo : wr.heap.size < wo.heap.size := (Array.getElem?_eq_some_iff.1 ho1).1
        have hB5 : Below w5.heap.size w5 wo := (hbT.trans hBr).trans (hbo.mono (by omega))
        rw [hwo]
        clear hwo ho1
        have ht1 := fun (x : Later wo) => takeOver_c b n cap2 f x.w (((hf0.below hb15).below hB5).below x.h) HFine.out.2.1
        have HTK := Lib.hid ht1
        have HRo := Lib.hid hTr
        have HEo := Lib.hid hEr
        clear ht1 hTr hEr
        have hlc := fun (x : Later wo) => later_cell x
        refine wp_region_later_tail 3 (by kernel_rfl) (by kernel_rfl) ?_
        simp only [List.take_succ_cons, List.take_zero, List.drop_succ_cons, List.drop_zero]
        repeat (go_big_quiet_step ((with_reducible refine calls_later (HTK.out _))))
        refine wpQuiet_nil ?_
        clear hlc HTK s0
        rintro ⟨w6, hb6⟩
        have hb06 := bup hbo hb6
        have hr6 := (hb06.block w5.heap.size (by omega)).trans HRo.out
        have hB6 : Below w5.heap.size w5 w6 := hB5.trans (hb6.mono (by have := hB5.size; omega))
        go_wp2_with fail
        refine (weigh_c (some ⟨g2, 0, none⟩) n n w5.heap.size (fun i => unitOf true true (m i)) (padF f n) _ _ _ _ 92 w6 (HU25.out.below hB6) (ones_of HFine.out true true).1 (fun i _ => by have := pad_bd (by omega) HFB.out i; omega) hr6 ?_).mono ?_
        · intro b' off e
          cases e
          have := units_lt HU25.out _ _ rfl hn0
          omega
        rintro e w7 ⟨rfl, hrow, hgr⟩
        have t0 : w7.cell? ⟨w5.heap.size, 0, none⟩ = some (.int .i64 (sumF f n)) := (hrow.cell 0).trans (by
          show some (Value.int .i64 (unitSum (fun i => unitOf true true (m i)) (padF f n) n (·.q))) = _
          rw [show unitSum (fun i => unitOf true true (m i)) (padF f n) n (·.q) = sumF f n from by rw [unitSum_pad, unitSum_ones fun _ _ => rfl]])
        have t1 : w7.cell? ⟨w5.heap.size, 3, none⟩ = some (.int .i64 (highF true m f n)) := (hrow.cell 3).trans (by
          show some _ = some _
          rw [← high_unit true m f n]; rfl)
        have hb67 : Below w5.heap.size w6 w7 := grown_below hgr (Nat.le_refl _) (by have := hB6.size; omega)
        have hz67 := hgr.size
        have hz06 := hb06.size
        have hE7 := (hgr.block (w5.heap.size + 1) (by omega) (fun e => by have := Option.some.inj e; omega)).trans ((hb06.block (w5.heap.size + 1) (by omega)).trans HEo.out)
        have hrow7 := Lib.hid hrow
        have HE7 := Lib.hid hE7
        have hy0 : w5.heap.size < w7.heap.size := by omega
        clear hrow hE7 hgr
        go_wp2_with fail
        have hlc := fun (x : Later w7) => later_cell x
        refine wp_region_later_tail 8 (by kernel_rfl) (by kernel_rfl) ?_
        simp only [List.take_succ_cons, List.take_zero, List.drop_succ_cons, List.drop_zero]
        repeat (go_big_quiet_step ((refine calls_later (ratio_c _ _ _ (by omega) (by omega) hs (by omega)))))
        refine wpQuiet_nil ?_
        clear hlc t0 t1
        rintro ⟨w8, hb8⟩
        have hE8 : RowIs w8 (w5.heap.size + 1) (endsA true m f n 1) 93 := (hb8.block _ (by omega)).trans HE7.out
        have hT8 := (hb8.block w5.heap.size (by omega)).trans hrow7.out
        have v0 : w8.cell? ⟨w5.heap.size + 1, 2, none⟩ = some (.int .i64 0) := hE8.cell 2
        have v1 : w8.cell? ⟨w5.heap.size + 1, 3, none⟩ = some (.int .i64 0) := hE8.cell 3
        have z0 := hE8.frozen 2
        have z1 := hE8.frozen 3
        have HE8 := Lib.hid hE8
        have HT8 := Lib.hid hT8
        clear hE8 hT8
        go_wp2_with fail
        have hfin : Below w5.heap.size wT w8 := (((hBr.trans (hbo.mono (by omega))).trans (hb6.mono (by omega))).trans hb67).trans (hb8.mono (by omega))
        exact ⟨⟨2, by omega, rfl, ⟨_, _, _, _, RowIs.other (RowIs.other HT8.out (by omega) _ _) (by omega) _ _⟩, by simpa [endsA] using (HE8.out.set 2 (.int .i64 (ratN (highF true m f n) (sumF f n)))).set 3 (.int .i64 (ratD (highF true m f n) (sumF f n))), (hfin.setCell (p := ⟨w5.heap.size + 1, 2, none⟩) (Nat.le_succ _) _).setCell (p := ⟨w5.heap.size + 1, 3, none⟩) (Nat.le_succ _) _⟩, by simp [intOf]⟩
      · have hz15 := hb15.size
        have hq0 : RowIs wr w.heap.size #[.int .i64 0, .int .i64 0] 29 := (((hbT.trans hBr).block _ (by omega)).trans (hb15.block _ (by omega))).trans HR0.out
        have hq1 : RowIs wr (w.heap.size + 1) #[.int .i64 0, .int .i64 0] 29 := (((hbT.trans hBr).block _ (by omega)).trans (hb15.block _ (by omega))).trans HR1.out
        have r0 := hq0.cell 0
        have r1 := hq0.cell 1
        have r2 := hq1.cell 0
        have r3 := hq1.cell 1
        have z0 := hq0.frozen 0
        have z1 := hq0.frozen 1
        have z2 := hq1.frozen 0
        have z3 := hq1.frozen 1
        have hE : RowIs wr (w5.heap.size + 1) #[.int .i64 (ratN (lowF true m f n) (sumF f n)), .int .i64 (ratD (lowF true m f n) (sumF f n)), .int .i64 (ratN (highF true m f n) (sumF f n)), .int .i64 (ratD (highF true m f n) (sumF f n))] 93 := by simpa [endsA] using hEr
        have x0 := hE.cell 0
        have x1 := hE.cell 1
        have x2 := hE.cell 2
        have x3 := hE.cell 3
        simp at r0 r1 r2 r3 x0 x1 x2 x3
        have HQ0 := Lib.hid hq0
        have HQ1 := Lib.hid hq1
        clear hq0 hq1 hE hEr hTr
        go_wp2_with fail
        go_region
        go_wp2_with fail
        have f0 : RowIs _ w.heap.size _ 29 := RowIs.other (RowIs.other ((HQ0.out.set 0 (.int .i64 (ratN (lowF true m f n) (sumF f n)))).set 1 (.int .i64 (ratD (lowF true m f n) (sumF f n)))) (j := 0) (b' := w.heap.size + 1) (by omega) (.int .i64 (ratN (highF true m f n) (sumF f n)))) (b' := w.heap.size + 1) (j := 1) (by omega) (.int .i64 (ratD (highF true m f n) (sumF f n)))
        have f1 : RowIs _ (w.heap.size + 1) _ 29 := (((HQ1.out.other (b' := w.heap.size) (by omega) 0 (.int .i64 (ratN (lowF true m f n) (sumF f n)))).other (b' := w.heap.size) (by omega) 1 (.int .i64 (ratD (lowF true m f n) (sumF f n)))).set 0 (.int .i64 (ratN (highF true m f n) (sumF f n)))).set 1 (.int .i64 (ratD (highF true m f n) (sumF f n)))
        have g0 := f0.cell 0
        have g1 := f0.cell 1
        have g2' := f1.cell 0
        have g3 := f1.cell 1
        simp at g0 g1 g2' g3
        clear f0 f1 r0 r1 r2 r3 x0 x1 x2 x3 z0 z1 z2 z3
        refine bodyPost_ret (v := re3 ((ratN (lowF true m f n) (sumF f n), ratD (lowF true m f n) (sumF f n)), (ratN (highF true m f n) (sumF f n), ratD (highF true m f n) (sumF f n)), 0)) (by simp [results, Tryz.results21, go_sem, g0, g1, g2', g3]) rfl ⟨rfl, ?_⟩
        have hfin : Below w.heap.size w wr := (hB0.trans (hb15.mono (by omega))).trans ((hbT.trans hBr).mono (by omega))
        exact ((((hfin.setCell (p := ⟨w.heap.size, 0, none⟩) (Nat.le_refl _) _).setCell (p := ⟨w.heap.size, 1, none⟩) (Nat.le_refl _) _).setCell (p := ⟨w.heap.size + 1, 0, none⟩) (Nat.le_succ _) _).setCell (p := ⟨w.heap.size + 1, 1, none⟩) (Nat.le_succ _) _).drew

theorem below4 {w w1 : World} (hB : Below w.heap.size w w1) (v0 v1 v2 v3 : Value) :
    Below w.heap.size w ((((w1.setCell ⟨w.heap.size, 0, none⟩ v0).setCell ⟨w.heap.size, 1, none⟩ v1).setCell ⟨w.heap.size + 1, 0, none⟩ v2).setCell ⟨w.heap.size + 1, 1, none⟩ v3) :=
  (((hB.setCell (p := ⟨w.heap.size, 0, none⟩) (Nat.le_refl _) _).setCell (p := ⟨w.heap.size, 1, none⟩) (Nat.le_refl _) _).setCell (p := ⟨w.heap.size + 1, 0, none⟩) (Nat.le_succ _) _).setCell (p := ⟨w.heap.size + 1, 1, none⟩) (Nat.le_succ _) _

set_option maxRecDepth 100000 in
set_option maxHeartbeats 4000000 in
theorem Ends_bad_c (a b : Option Addr) (n cap len cap2 : Nat) (m : Nat → M5) (f : Nat → Int) (copper : Bool) (w : World) (hm : Metals w a n m) (hf : Ints w b len f) (hn : n ≤ 1048576) (hl : len ≤ 1048576) (h : metalsE n m ≠ 0 ∨ mixE n len f ≠ 0) :
    Calls Tryz.prog 21 #[.slice a n cap, .slice b len cap2, .bool copper] w fun e w' => e = .returned (re3 (endsR n m len f copper)) ∧ Below w.heap.size w w' := by
  obtain ⟨W, hW⟩ : ∃ W, (w.alloc (.cells #[.int .i64 0, .int .i64 0] 29)).alloc (.cells #[.int .i64 0, .int .i64 0] 29) = W := ⟨_, rfl⟩
  have hB0 : Below w.heap.size w W := by rw [← hW]; exact ((Below.refl _ _).alloc (Nat.le_refl _) _).alloc (by simp) _
  have hr0 : RowIs W w.heap.size #[.int .i64 0, .int .i64 0] 29 := by rw [← hW]; exact RowIs.alloc (heap_new_at _ _ _ rfl) _
  have hr1 : RowIs W (w.heap.size + 1) #[.int .i64 0, .int .i64 0] 29 := by rw [← hW]; exact heap_new_at _ _ _ (by simp)
  have hWs : w.heap.size + 1 < W.heap.size := (Array.getElem?_eq_some_iff.1 hr1).1
  have hm0 := hm.below hB0
  have hf0 := hf.below hB0
  have HR0 := Lib.hid hr0
  have HR1 := Lib.hid hr1
  clear hm hf hr0 hr1
  by_cases h0 : metalsE n m = 0
  · have h1 : mixE n len f ≠ 0 := h.resolve_left (by simp [h0])
    have h0' : (metalsE n m != 0) = false := by simp [h0]
    have h1' : (mixE n len f != 0) = true := by simp [h1]
    have ev : endsR n m len f copper = ((0, 0), (0, 0), mixE n len f) := by
      unfold endsR; rw [if_neg (by simp [h0]), if_pos h1]
    rw [ev]
    have hFine := fine_of h0
    have HFine := Lib.hid hFine
    have hn0 : 0 < n := hFine.1
    clear ev h0 h1 hFine h
    go_enter Tryz.func21, Tryz.ntmps21
    go_wp2_with fail
    refine (checkMetals_c a n cap m _ hm0 (by omega)).mono ?_
    rintro e w1 ⟨rfl, hb1⟩
    go_wp2_with fail
    refine (newStock_c a n cap m false false _ (hm0.below hb1) (by omega)).mono ?_
    rintro e w2 ⟨g, hg, rfl, hU, hb2⟩
    have hb12 := bup hb1 hb2
    go_wp2_with fail
    refine (newStock_c a n cap m true true _ (hm0.below hb12) (by omega)).mono ?_
    rintro e w3 ⟨g2, hg2, rfl, hU2, hb3⟩
    have hb13 := bup hb12 hb3
    have hU3 := hU.below hb3
    go_wp2_with fail
    obtain ⟨w4, hw4⟩ : ∃ w4, (w3.alloc (.cells #[.slice (some ⟨g, 0, none⟩) n n] 83)).alloc (.cells #[.slice (some ⟨g2, 0, none⟩) n n] 83) = w4 := ⟨_, rfl⟩
    have hb4 : Below w3.heap.size w3 w4 := by rw [← hw4]; exact ((Below.refl _ _).alloc (Nat.le_refl _) _).alloc (by simp) _
    rw [hw4]
    refine (checkMixture_c _ _ n n len cap2 _ f _ (hU3.below hb4) (ones_of HFine.out false false) hn0 (hf0.below (bup hb13 hb4)) (by omega)).mono ?_
    rintro e w5 ⟨rfl, hb5⟩
    have hb15 := bup hb13 (bup hb4 hb5)
    have hz15 := hb15.size
    clear hw4 hb4 hb5 hb1 hb2 hb3 hb12 hb13 hU hU2 hU3
    have hq0 : RowIs w5 w.heap.size _ _ := (hb15.block w.heap.size (by omega)).trans HR0.out
    have hq1 : RowIs w5 (w.heap.size + 1) _ _ := (hb15.block (w.heap.size + 1) (by omega)).trans HR1.out
    have hy : w.heap.size + 1 < w5.heap.size := by omega
    have r0 := RowIs.cell hq0 0
    have r1 := RowIs.cell hq0 1
    have r2 := RowIs.cell hq1 0
    have r3 := RowIs.cell hq1 1
    have z0 := RowIs.frozen hq0 0
    have z1 := RowIs.frozen hq0 1
    have z2 := RowIs.frozen hq1 0
    have z3 := RowIs.frozen hq1 1
    have hfin : Below w.heap.size w w5 := hB0.trans (hb15.mono (by omega))
    simp at r0 r1 r2 r3
    have HQ0 := Lib.hid hq0
    have HQ1 := Lib.hid hq1
    clear hq0 hq1 hb15
    go_wp2_with fail
    have f0 : RowIs _ w.heap.size _ 29 := RowIs.other (RowIs.other ((HQ0.out.set 0 (.int .i64 0)).set 1 (.int .i64 0)) (j := 0) (b' := w.heap.size + 1) (by omega) (.int .i64 0)) (b' := w.heap.size + 1) (j := 1) (by omega) (.int .i64 0)
    have f1 : RowIs _ (w.heap.size + 1) _ 29 := (((HQ1.out.other (b' := w.heap.size) (by omega) 0 (.int .i64 0)).other (b' := w.heap.size) (by omega) 1 (.int .i64 0)).set 0 (.int .i64 0)).set 1 (.int .i64 0)
    have g0 := f0.cell 0
    have g1 := f0.cell 1
    have g2' := f1.cell 0
    have g3 := f1.cell 1
    simp at g0 g1 g2' g3
    clear f0 f1 r0 r1 r2 r3 z0 z1 z2 z3
    refine bodyPost_ret (v := re3 ((0, 0), (0, 0), mixE n len f)) (by simp [results, Tryz.results21, go_sem, g0, g1, g2', g3]) rfl ⟨rfl, below4 hfin _ _ _ _⟩
  · have h0' : (metalsE n m != 0) = true := by simp [h0]
    have ev : endsR n m len f copper = ((0, 0), (0, 0), metalsE n m) := by
      unfold endsR; rw [if_pos h0]
    rw [ev]
    clear ev h0 h
    go_enter Tryz.func21, Tryz.ntmps21
    go_wp2_with fail
    refine (checkMetals_c a n cap m _ hm0 (by omega)).mono ?_
    rintro e w5 ⟨rfl, hb15⟩
    have hz15 := hb15.size
    have hq0 : RowIs w5 w.heap.size _ _ := (hb15.block w.heap.size (by omega)).trans HR0.out
    have hq1 : RowIs w5 (w.heap.size + 1) _ _ := (hb15.block (w.heap.size + 1) (by omega)).trans HR1.out
    have hy : w.heap.size + 1 < w5.heap.size := by omega
    have r0 := RowIs.cell hq0 0
    have r1 := RowIs.cell hq0 1
    have r2 := RowIs.cell hq1 0
    have r3 := RowIs.cell hq1 1
    have z0 := RowIs.frozen hq0 0
    have z1 := RowIs.frozen hq0 1
    have z2 := RowIs.frozen hq1 0
    have z3 := RowIs.frozen hq1 1
    have hfin : Below w.heap.size w w5 := hB0.trans (hb15.mono (by omega))
    simp at r0 r1 r2 r3
    have HQ0 := Lib.hid hq0
    have HQ1 := Lib.hid hq1
    clear hq0 hq1 hb15
    go_wp2_with fail
    have f0 : RowIs _ w.heap.size _ 29 := RowIs.other (RowIs.other ((HQ0.out.set 0 (.int .i64 0)).set 1 (.int .i64 0)) (j := 0) (b' := w.heap.size + 1) (by omega) (.int .i64 0)) (b' := w.heap.size + 1) (j := 1) (by omega) (.int .i64 0)
    have f1 : RowIs _ (w.heap.size + 1) _ 29 := (((HQ1.out.other (b' := w.heap.size) (by omega) 0 (.int .i64 0)).other (b' := w.heap.size) (by omega) 1 (.int .i64 0)).set 0 (.int .i64 0)).set 1 (.int .i64 0)
    have g0 := f0.cell 0
    have g1 := f0.cell 1
    have g2' := f1.cell 0
    have g3 := f1.cell 1
    simp at g0 g1 g2' g3
    clear f0 f1 r0 r1 r2 r3 z0 z1 z2 z3
    refine bodyPost_ret (v := re3 ((0, 0), (0, 0), metalsE n m)) (by simp [results, Tryz.results21, go_sem, g0, g1, g2', g3]) rfl ⟨rfl, below4 hfin _ _ _ _⟩

theorem Ends_c (a b : Option Addr) (n cap len cap2 : Nat) (m : Nat → M5) (f : Nat → Int) (copper : Bool) (w : World) (hm : Metals w a n m) (hf : Ints w b len f) (hn : n ≤ 1048576) (hl : len ≤ 1048576) :
    Calls Tryz.prog 21 #[.slice a n cap, .slice b len cap2, .bool copper] w fun e w' => e = .returned (re3 (endsR n m len f copper)) ∧ Below w.heap.size w w' := by
  by_cases h0 : metalsE n m = 0
  · by_cases h1 : mixE n len f = 0
    · obtain ⟨e, _, _⟩ := mix_ok h1
      subst e
      exact Ends_ok_c a b len cap cap2 m f copper w hm hf hn h0 h1
    · exact Ends_bad_c a b n cap len cap2 m f copper w hm hf hn hl (Or.inr h1)
  · exact Ends_bad_c a b n cap len cap2 m f copper w hm hf hn hl (Or.inl h0)

end Go.Proofs.YtehafggcncbnkaaGreat

namespace Go.Proofs.YtehafggcncbnkaaGreat
open Go.RowKit

theorem gcd_step (a b : Int) (ha : 0 ≤ a) (hb : 0 < b) : Int.gcd b (a % b) = Int.gcd a b := by
  obtain ⟨m, rfl⟩ := Int.eq_ofNat_of_zero_le ha
  obtain ⟨n, rfl⟩ := Int.eq_ofNat_of_zero_le (Int.le_of_lt hb)
  show Nat.gcd _ _ = Nat.gcd _ _
  rw [← Int.natCast_emod]
  simp only [Int.natAbs_natCast]
  rw [Nat.gcd_comm m n, Nat.gcd_rec n m, Nat.gcd_comm]

set_option maxHeartbeats 400000 in
theorem common_c (a b : Int) (w : World) (ha : 0 ≤ a) (hb : 0 ≤ b) (ha' : a ≤ 4611686018427387904) (hb' : b ≤ 4611686018427387904) :
    Calls Tryz.prog 89 #[.int .i64 a, .int .i64 b] w fun e w' => ∃ n, e = .returned (.int .i64 (Int.gcd a b)) ∧ w' = w.drewN n := by
  go_enter Tryz.func89, Tryz.ntmps89
  go_wp2
  go_loopw [0, 1] (fun x y wr => ∃ p q : Int, ∃ n, 0 ≤ p ∧ 0 ≤ q ∧ p ≤ 4611686018427387904 ∧ q ≤ 4611686018427387904 ∧ x = .int .i64 p ∧ y = .int .i64 q ∧ Int.gcd p q = Int.gcd a b ∧ wr = w.drewN n) (fun _ y _ => (intOf y).toNat)
  case atStart => exact ⟨a, b, 0, ha, hb, ha', hb', rfl, rfl, rfl, rfl⟩
  case round =>
    obtain ⟨p, q, n, hp, hq, hp', hq', rfl, rfl, hg, rfl⟩ := hrel
    have Hg := Lib.hid hg
    clear hg
    by_cases h0 : q = 0
    · subst h0
      go_wp2
      go_ret
      exact ⟨n, by rw [← Hg.out]; simp [Int.gcd, Int.natAbs_of_nonneg hp], rfl⟩
    · have hqn : (q != 0) = true := by simpa using h0
      have hq0 : 0 < q := by omega
      have hm0 := Int.emod_nonneg p h0
      have hm1 := Int.emod_lt_of_pos p hq0
      have Hs := Lib.hid (gcd_step p q hp hq0)
      go_wp2
      go_quiet (fail)
      go_wp2
      go_roundw
      case rel => exact ⟨q, p % q, _, hq, hm0, hq', by omega, rfl, rfl, by rw [Hs.out, Hg.out], drewN_drewN _ _ _⟩
      case measure => simp [intOf]; omega

set_option maxHeartbeats 400000 in
theorem sum_c (a : Option Addr) (len cap : Nat) (f : Nat → Int) (w : World) (hf : Ints w a len f) (hl : len ≤ 1048576) (hb : ∀ i, i < len → -1099511627776 ≤ f i ∧ f i ≤ 1099511627776) :
    Calls Tryz.prog 49 #[.slice a len cap] w fun e w' => e = .returned (.int .i64 (sumF f len)) ∧ w = w' := by
  go_enter Tryz.func49, Tryz.ntmps49
  go_wp2
  go_loop [3, 4] (fun n i => ∃ k : Nat, k ≤ len ∧ i = .int .i64 k ∧ n = .int .i64 (sumF f k)) (fun _ i => len - (intOf i).toNat)
  case atStart => exact ⟨0, Nat.zero_le _, rfl, rfl⟩
  case round =>
    obtain ⟨k, hk, rfl, rfl⟩ := hrel
    have hs := sumF_bd f 1099511627776 k (fun i hi => hb i (by omega))
    by_cases hlt : k < len
    · obtain ⟨b, off, rfl, hbs, hc⟩ := Cells.at hf k hlt
      have hck := hc k hlt
      have hbk := hb k hlt
      clear hc hb hf
      go_wp2
      go_round
      case rel => exact ⟨k + 1, by omega, by go_num, rfl⟩
      case measure => simp [intOf]; omega
    · go_wp2
      go_ret
      exact ⟨ret_i (by rw [show k = len by omega]), rfl⟩

end Go.Proofs.YtehafggcncbnkaaGreat

namespace Go.Proofs.YtehafggcncbnkaaGreat
open Go.RowKit


set_option maxHeartbeats 400000 in
theorem isRange_c (lo hi : Int) (w : World) :
    Calls Tryz.prog 65 #[.agg #[.int .i64 lo, .int .i64 hi]] w fun e w' => e = .returned (.bool (rangeB lo hi)) ∧ Below w.heap.size w w' := by
  by_cases h1 : 0 ≤ lo
  · by_cases h2 : lo ≤ hi
    · by_cases h3 : hi ≤ 1000
      all_goals
        go_enter Tryz.func65, Tryz.ntmps65
        go_wp2
        go_ret
        exact ⟨ret_b (by simp [rangeB]; omega), (Below.refl _ _).alloc (Nat.le_refl _) _⟩
    · go_enter Tryz.func65, Tryz.ntmps65
      go_wp2
      go_ret
      exact ⟨ret_b (by simp [rangeB]; omega), (Below.refl _ _).alloc (Nat.le_refl _) _⟩
  · go_enter Tryz.func65, Tryz.ntmps65
    go_wp2
    go_ret
    exact ⟨ret_b (by simp [rangeB]; omega), (Below.refl _ _).alloc (Nat.le_refl _) _⟩

set_option maxHeartbeats 400000 in
theorem rcheckTouch_c (l c : Int) (w : World) :
    Calls Tryz.prog 26 #[.agg #[.int .i64 l, .int .i64 c]] w fun e w' => e = .returned (.int .i64 (touchE l c)) ∧ Below w.heap.size w w' := by
  by_cases h : l < 0
  · go_enter Tryz.func26, Tryz.ntmps26
    go_wp2
    go_ret
    exact ⟨ret_i (by unfold touchE; rw [if_pos (by omega)]), (Below.refl _ _).alloc (Nat.le_refl _) _⟩
  by_cases h1 : 1000 < l
  · go_enter Tryz.func26, Tryz.ntmps26
    go_wp2
    go_ret
    exact ⟨ret_i (by unfold touchE; rw [if_pos (by omega)]), (Below.refl _ _).alloc (Nat.le_refl _) _⟩
  by_cases h2 : c < 0
  · go_enter Tryz.func26, Tryz.ntmps26
    go_wp2
    go_ret
    exact ⟨ret_i (by unfold touchE; rw [if_pos (by omega)]), (Below.refl _ _).alloc (Nat.le_refl _) _⟩
  by_cases h3 : 1000 < c
  all_goals
    go_enter Tryz.func26, Tryz.ntmps26
    go_wp2
    go_ret
    exact ⟨ret_i (by unfold touchE; first | rw [if_pos (by omega)] | rw [if_neg (by omega)]), (Below.refl _ _).alloc (Nat.le_refl _) _⟩

set_option maxHeartbeats 400000 in
theorem rcheckMetals_c (a : Option Addr) (len cap : Nat) (m : Nat → M5) (w : World) (hm : Metals w a len m) (hl : len ≤ 9223372036854775807) :
    Calls Tryz.prog 24 #[.slice a len cap] w fun e w' => e = .returned (.int .i64 (metalsE len m)) ∧ Below w.heap.size w w' := by
  by_cases h0 : len < 1
  · go_enter Tryz.func24, Tryz.ntmps24
    go_wp2
    go_ret
    exact ⟨ret_i (by unfold metalsE; rw [if_pos (by omega)]), Below.refl _ _⟩
  by_cases h6 : 6 < len
  · go_enter Tryz.func24, Tryz.ntmps24
    go_wp2
    go_ret
    exact ⟨ret_i (by unfold metalsE; rw [if_pos (by omega)]), Below.refl _ _⟩
  go_enter Tryz.func24, Tryz.ntmps24
  go_wp2
  go_loopw [3, 4] (fun i _ wr => ∃ k : Nat, k ≤ len ∧ i = .int .i64 k ∧ anyBad m k = false ∧ Below w.heap.size w wr) (fun i _ _ => len - (intOf i).toNat)
  case atStart => exact ⟨0, Nat.zero_le _, rfl, rfl, Below.refl _ _⟩
  case round =>
    obtain ⟨k, hk, rfl, hbad, hB⟩ := hrel
    have Hb := Lib.hid hbad
    clear hbad
    by_cases hlt : k < len
    · obtain ⟨b, off, rfl, hbs, c0, c1, c2, c3, c4⟩ := Metals.at (hm.below hB) k hlt
      go_wp2
      all_goals try simp only [Bool.not_eq_false', decide_eq_true_eq, Bool.not_eq_true', decide_eq_false_iff_not] at *
      case roundEnd =>
        exact ⟨⟨k + 1, by omega, by go_num, by simp only [anyBad, Hb.out, Bool.false_or]; simp [badB, rangeB]; omega, by repeat (first | exact hB | (refine Below.alloc1 ?_ _ (Nat.le_refl _)))⟩, by simp [intOf]; omega⟩
      all_goals
        go_ret
        exact ⟨ret_i (by unfold metalsE; rw [if_neg (by omega), anyBad_of m k len hlt (by simp [badB, rangeB]; omega)]; rfl), by repeat (first | exact hB | (refine Below.alloc1 ?_ _ (Nat.le_refl _)))⟩
    · go_wp2
      go_ret
      exact ⟨ret_i (by obtain rfl : k = len := by omega
                       unfold metalsE; rw [if_neg (by omega), Hb.out]; rfl), hB⟩

end Go.Proofs.YtehafggcncbnkaaGreat

namespace Go.Proofs.YtehafggcncbnkaaGreat
open Go.RowKit

set_option maxHeartbeats 400000 in
theorem by_c (n d : Int) (w : World) (hn : -4611686018427387904 ≤ n) (hn' : n ≤ 4611686018427387904) (hd : 0 < d) (hd' : d ≤ 4611686018427387904) :
    Calls Tryz.prog 48 #[.int .i64 n, .int .i64 d] w fun e w' => e = .returned (ratV n d) ∧ Below w.heap.size w w' := by
  obtain ⟨g0, g1⟩ := gcd_bd n d hd
  unfold ratV ratN ratD
  have hmn : Int.gcd (-n) d = Int.gcd n d := by simp [Int.gcd]
  obtain ⟨g, hG⟩ : ∃ g : Int, (Int.gcd n d : Int) = g := ⟨_, rfl⟩
  rw [hG] at g0 g1 ⊢
  have HG := Lib.hid hG
  clear hG
  by_cases h : 0 ≤ n
  all_goals
    go_enter Tryz.func48, Tryz.ntmps48
    go_wp2_with fail
    refine (common_c _ _ _ (by omega) (by omega) (by omega) (by omega)).mono ?_
    rintro e w' ⟨q, he, rfl⟩
    try rw [hmn] at he
    rw [HG.out] at he
    subst he
    go_wp2_with fail
    go_region
    all_goals
      go_wp2
      refine bodyPost_ret (v := .agg #[.int .i64 (n.tdiv g), .int .i64 (d / g)]) (by simp [results, Tryz.results48, go_sem, Int.tdiv_eq_ediv_of_nonneg, *]) rfl ⟨rfl, ?_⟩
      repeat (first | exact Below.refl _ _ | exact Nat.le_refl _ | (refine Below.setCell ?_ ?_ _) | (refine Below.drew ?_) | (refine below_drewN ?_ _) | (refine Below.alloc1 ?_ _ (Nat.le_refl _)))
end Go.Proofs.YtehafggcncbnkaaGreat

namespace Go.Proofs.YtehafggcncbnkaaGreat
open Go.RowKit

set_option maxHeartbeats 400000 in
theorem rboth_c (a : Option Addr) (len cap : Nat) (m : Nat → M5) (l c : Int) (w : World) (hm : Metals w a len m) (hl : len ≤ 9223372036854775807) :
    Calls Tryz.prog 69 #[.slice a len cap, .agg #[.int .i64 l, .int .i64 c]] w fun e w' => e = .returned (.int .i64 (bothE len m l c)) ∧ Below w.heap.size w w' := by
  have hB0 : Below w.heap.size w (w.alloc (.cells #[.int .i64 l, .int .i64 c] 24)) := (Below.refl _ _).alloc (Nat.le_refl _) _
  have hm0 := hm.below hB0
  by_cases h0 : metalsE len m = 0
  · have h0' : (metalsE len m != 0) = false := by simp [h0]
    have H0 := Lib.hid h0
    clear h0
    go_enter Tryz.func69, Tryz.ntmps69
    go_wp2_with fail
    refine (rcheckMetals_c a len cap m _ hm0 hl).mono ?_
    rintro e w1 ⟨rfl, hb⟩
    obtain ⟨hc, hf⟩ := bcell hb
    go_wp2_with fail
    refine (rcheckTouch_c l c _).mono ?_
    rintro e w2 ⟨rfl, hb2⟩
    go_wp2_with fail
    go_ret
    exact ⟨ret_i (by unfold bothE; rw [if_neg (by simp [H0.out])]), bup (bup hB0 hb) hb2⟩
  · have h0' : (metalsE len m != 0) = true := by simp [h0]
    go_enter Tryz.func69, Tryz.ntmps69
    go_wp2_with fail
    refine (rcheckMetals_c a len cap m _ hm0 hl).mono ?_
    rintro e w1 ⟨rfl, hb⟩
    have hm1 := hm0.below hb
    obtain ⟨hc, hf⟩ := bcell hb
    go_wp2_with fail
    refine (rcheckMetals_c a len cap m _ hm1 hl).mono ?_
    rintro e w2 ⟨rfl, hb2⟩
    go_wp2_with fail
    go_ret
    exact ⟨ret_i (by unfold bothE; rw [if_pos h0]), bup (bup hB0 hb) hb2⟩

set_option maxHeartbeats 400000 in
theorem rmix_c (a b : Option Addr) (n cap len cap2 : Nat) (f : Nat → Int) (w : World) (hf : Ints w b len f) (hl : len ≤ 1048576) (hn : n ≤ 1048576) :
    Calls Tryz.prog 60 #[.slice a n cap, .slice b len cap2] w fun e w' => e = .returned (.int .i64 (mixE n len f)) ∧ ∃ q, w' = w.drewN q := by
  by_cases hne : len = n
  · subst hne
    go_enter Tryz.func60, Tryz.ntmps60
    go_wp2
    go_loopw [5] (fun i wr => ∃ k : Nat, k ≤ len ∧ i = .int .i64 k ∧ anyOut f k = false ∧ ∃ q, wr = w.drewN q) (fun i _ => len - (intOf i).toNat)
    case atStart => exact ⟨0, Nat.zero_le _, rfl, rfl, 0, rfl⟩
    case round =>
      obtain ⟨k, hk, rfl, ho, q, rfl⟩ := hrel
      have Ho := Lib.hid ho
      clear ho
      by_cases hlt : k < len
      · obtain ⟨b, off, rfl, hbs, hc⟩ := Cells.at hf k hlt
        have hck := hc k hlt
        clear hc
        by_cases h1 : f k < 0
        · go_wp2
          go_ret
          exact ⟨ret_i (by unfold mixE; rw [if_neg (by simp), anyOut_of f k len hlt (.inl h1)]; rfl), q, rfl⟩
        by_cases h2 : 1000000 < f k
        · have h2' : decide (1000000 < f k) = true := by simpa using h2
          go_wp2
          go_ret
          exact ⟨ret_i (by unfold mixE; rw [if_neg (by simp), anyOut_of f k len hlt (.inr h2)]; rfl), q, rfl⟩
        have h2' : decide (1000000 < f k) = false := by simpa using h2
        go_wp2
        go_roundw
        case rel => exact ⟨k + 1, by omega, by go_num, by simp only [anyOut, Ho.out, Bool.false_or]; simp; omega, q, rfl⟩
        case measure => simp [intOf]; omega
      · obtain rfl : k = len := by omega
        have Hb := anyOut_no f k Ho.out
        by_cases hs : sumF f k = 0
        · have hs' : (sumF f k == 0) = true := by simpa using hs
          have Hs := Lib.hid hs
          clear hs
          go_wp2_with (go_at_call 49; refine (sum_c _ _ _ f _ (hf.drewN q) hl (fun i hi => by have := Hb i hi; omega)).mono ?_; rintro e w' ⟨rfl, rfl⟩)
          go_ret
          exact ⟨ret_i (by unfold mixE; rw [if_neg (by simp), Ho.out]; simp [Hs.out]), q, rfl⟩
        · have hs' : (sumF f k == 0) = false := by simpa using hs
          have Hs := Lib.hid hs
          clear hs
          go_wp2_with (go_at_call 49; refine (sum_c _ _ _ f _ (hf.drewN q) hl (fun i hi => by have := Hb i hi; omega)).mono ?_; rintro e w' ⟨rfl, rfl⟩)
          go_ret
          exact ⟨ret_i (by unfold mixE; rw [if_neg (by simp), Ho.out]; simp [Hs.out]), q, rfl⟩
  · have hne' : ((len : Int) != n) = true := by simp; omega
    go_enter Tryz.func60, Tryz.ntmps60
    go_wp2
    go_ret
    exact ⟨ret_i (by unfold mixE; rw [if_pos hne]), 0, rfl⟩


set_option maxHeartbeats 400000 in
theorem rcostOf_c (a b : Option Addr) (n cap cap2 : Nat) (m : Nat → M5) (f : Nat → Int) (w : World) (hm : Metals w a n m) (hf : Ints w b n f) (hF : Fine n m) (hb : ∀ i, i < n → 0 ≤ f i ∧ f i ≤ 2147483648) (hs : 0 < sumF f n) :
    Calls Tryz.prog 32 #[.slice a n cap, .slice b n cap2] w fun e w' => e = .returned (ratV (priceF m f n) (sumF f n)) ∧ Below w.heap.size w w' := by
  obtain ⟨hn1, hn6, hF⟩ := hF
  have hP : ∀ k, k ≤ n → 0 ≤ priceF m f k ∧ priceF m f k ≤ 2147483648000 * k := fun k hk => sumF_nn _ _ k fun i hi => by
    have h1 := hb i (by omega)
    have h2 := hF i (by omega)
    have := mul_bd h1.1 h1.2 h2.1 h2.2.1
    omega
  have hS := sumF_nn f 2147483648 n hb
  have hPn := hP n (Nat.le_refl _)
  have hB0 : Below w.heap.size w (w.alloc (.cells #[.int .i64 0, .int .i64 0] 29)) := (Below.refl _ _).alloc (Nat.le_refl _) _
  have hm := hm.below hB0
  have hf := hf.below hB0
  go_enter Tryz.func32, Tryz.ntmps32
  go_wp2
  go_loopw [5, 6] (fun s i wr => ∃ k : Nat, k ≤ n ∧ i = .int .i64 k ∧ s = .int .i64 (priceF m f k) ∧ ∃ q, wr = (w.alloc (.cells #[.int .i64 0, .int .i64 0] 29)).drewN q) (fun _ i _ => n - (intOf i).toNat)
  case atStart => exact ⟨0, Nat.zero_le _, rfl, rfl, 0, rfl⟩
  case round =>
    obtain ⟨k, hk, rfl, rfl, q, rfl⟩ := hrel
    have hPk := hP k hk
    by_cases hlt : k < n
    · obtain ⟨bb, bo, rfl, hbs, hc⟩ := Cells.at hf k hlt
      obtain ⟨ab, ao, rfl, has, c0, c1, c2, c3, c4⟩ := Metals.at hm k hlt
      have hck := hc k hlt
      have hPk1 := hP (k + 1) hlt
      have hm1 : 0 ≤ f k * (m k).p ∧ f k * (m k).p ≤ 2147483648 * 1000 := mul_bd (hb k hlt).1 (hb k hlt).2 (hF k hlt).1 (hF k hlt).2.1
      have hw1 : IntKind.i64.wrap (f k * (m k).p) = f k * (m k).p := IntWalk.i64_in _ (by omega)
      have hw2 : IntKind.i64.wrap (priceF m f k + f k * (m k).p) = priceF m f k + f k * (m k).p := IntWalk.i64_in _ (by omega)
      clear hc hb hF hP hm hf
      go_wp2
      go_quiet (fail)
      go_wp2
      go_roundw
      case rel => exact ⟨k + 1, by omega, by go_num, rfl, _, rfl⟩
      case measure => simp [intOf]; omega
    · obtain rfl : k = n := by omega
      go_wp2_with fail
      refine (sum_c _ _ _ f _ (hf.drewN q) (by omega) (fun i hi => by have := hb i hi; omega)).mono ?_
      rintro e w1 ⟨rfl, rfl⟩
      go_wp2_with fail
      refine (by_c _ _ _ (by omega) (by omega) hs (by omega)).mono ?_
      rintro e w1 ⟨rfl, hb1⟩
      obtain ⟨hc, hfr⟩ := bcell hb1
      have hz := hb1.size
      go_wp2_with fail
      refine bodyPost_ret (v := ratV (priceF m f k) (sumF f k)) (by simp [results, Tryz.results32, go_sem, hc]) rfl ⟨rfl, ?_⟩
      exact (bup (below_drewN hB0 q) hb1).setCell (Nat.le_refl _) _ |>.setCell (Nat.le_refl _) _
end Go.Proofs.YtehafggcncbnkaaGreat
