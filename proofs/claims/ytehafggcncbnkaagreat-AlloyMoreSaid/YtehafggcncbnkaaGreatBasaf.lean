/- Contracts of the plain functions of porringerref01: what a mixture deserves. -/
import Derived.Test.YtehafggcncbnkaaGreatProg
import Derived.Test.YtehafggcncbnkaaGreatBasaa
import Derived.Test.YtehafggcncbnkaaGreatBasae
import Derived.OrdersIn
import Derived.RangeFuncCalls
import Derived.StillTail
namespace Go.Proofs.YtehafggcncbnkaaGreat
open Go.RowKit

abbrev metalV (m : M5) : Value := .agg #[.int .i64 m.p, .int .i64 m.l0, .int .i64 m.l1, .int .i64 m.c0, .int .i64 m.c1]

set_option maxHeartbeats 400000 in
theorem rbad_c (m : M5) (s : Bool) (w : World) :
    Calls Tryz.prog 94 #[metalV m, .bool s] w fun e w' => e = .returned (.int .i64 (bad s m)) ∧ Below w.heap.size w w' := by
  cases s
  all_goals
    go_enter Tryz.func94, Tryz.ntmps94
    go_wp2
    go_ret
    exact ⟨rfl, (Below.refl _ _).alloc (Nat.le_refl _) _⟩

set_option maxHeartbeats 400000 in
theorem rgood_c (m : M5) (s : Bool) (w : World) :
    Calls Tryz.prog 95 #[metalV m, .bool s] w fun e w' => e = .returned (.int .i64 (good s m)) ∧ Below w.heap.size w w' := by
  cases s
  all_goals
    go_enter Tryz.func95, Tryz.ntmps95
    go_wp2
    go_ret
    exact ⟨rfl, (Below.refl _ _).alloc (Nat.le_refl _) _⟩

theorem bad_bd {n : Nat} {m : Nat → M5} (h : Fine n m) (s : Bool) (i : Nat) (hi : i < n) : 0 ≤ bad s (m i) ∧ bad s (m i) ≤ 1000 := by
  have := h.2.2 i hi
  cases s <;> simp [bad] <;> omega

theorem good_bd {n : Nat} {m : Nat → M5} (h : Fine n m) (s : Bool) (i : Nat) (hi : i < n) : 0 ≤ good s (m i) ∧ good s (m i) ≤ 1000 := by
  have := h.2.2 i hi
  cases s <;> simp [good] <;> omega

set_option maxHeartbeats 1000000 in
theorem risGood_c (a b : Option Addr) (n cap cap2 : Nat) (m : Nat → M5) (f : Nat → Int) (l c : Int) (s : Bool) (w : World) (hm : Metals w a n m) (hf : Ints w b n f) (hF : Fine n m) (hb : ∀ i, i < n → 0 ≤ f i ∧ f i ≤ 2147483648)
    (ht : 0 ≤ l ∧ l ≤ 1000 ∧ 0 ≤ c ∧ c ≤ 1000) :
    Calls Tryz.prog 70 #[.slice a n cap, .agg #[.int .i64 l, .int .i64 c], .bool s, .slice b n cap2] w fun e w' => e = .returned (.bool (goodB s n m l c f)) ∧ Below w.heap.size w w' := by
  have hn1 := hF.1
  have hn6 := hF.2.1
  have hL : ∀ k, k ≤ n → 0 ≤ leadF s m f k ∧ leadF s m f k ≤ 2147483648000 * k := fun k hk => sumF_nn _ _ k fun i hi => by
    have h1 := hb i (by omega)
    have h2 := bad_bd hF s i (by omega)
    have := mul_bd h1.1 h1.2 h2.1 h2.2
    omega
  have hC : ∀ k, k ≤ n → 0 ≤ copperF s m f k ∧ copperF s m f k ≤ 2147483648000 * k := fun k hk => sumF_nn _ _ k fun i hi => by
    have h1 := hb i (by omega)
    have h2 := good_bd hF s i (by omega)
    have := mul_bd h1.1 h1.2 h2.1 h2.2
    omega
  have hS := sumF_nn f 2147483648 n hb
  have hB0 : Below w.heap.size w (w.alloc (.cells #[.int .i64 l, .int .i64 c] 24)) := (Below.refl _ _).alloc (Nat.le_refl _) _
  have hm := hm.below hB0
  have hf := hf.below hB0
  go_enter Tryz.func70, Tryz.ntmps70
  go_wp2
  obtain ⟨w0, hw0⟩ : ∃ w0, w.alloc (.cells #[.int .i64 l, .int .i64 c] 24) = w0 := ⟨_, rfl⟩
  have hz0 : w.heap.size < w0.heap.size := by rw [← hw0]; simp
  have ht0 : w0.cell? ⟨w.heap.size, 0, none⟩ = some (.int .i64 l) := by rw [← hw0]; simp
  have ht1 : w0.cell? ⟨w.heap.size, 1, none⟩ = some (.int .i64 c) := by rw [← hw0]; simp
  rw [hw0] at hB0 hm hf ⊢
  clear hw0
  go_loopw [9, 10, 11] (fun x y i wr => ∃ k : Nat, k ≤ n ∧ i = .int .i64 k ∧ x = .int .i64 (leadF s m f k) ∧ y = .int .i64 (copperF s m f k) ∧ Below w0.heap.size w0 wr) (fun _ _ i _ => n - (intOf i).toNat)
  case atStart => exact ⟨0, Nat.zero_le _, rfl, rfl, rfl, Below.refl _ _⟩
  case round =>
    obtain ⟨k, hk, rfl, rfl, rfl, hB⟩ := hrel
    have hLk := hL k hk
    have hCk := hC k hk
    by_cases hlt : k < n
    · obtain ⟨bb, bo, rfl, hbs, hc⟩ := Cells.at (hf.below hB) k hlt
      obtain ⟨ab, ao, rfl, has, c0, c1, c2, c3, c4⟩ := Metals.at (hm.below hB) k hlt
      have hck := hc k hlt
      have hLk1 := hL (k + 1) hlt
      have hCk1 := hC (k + 1) hlt
      have hm1 := mul_bd (hb k hlt).1 (hb k hlt).2 (bad_bd hF s k hlt).1 (bad_bd hF s k hlt).2
      have hm2 := mul_bd (hb k hlt).1 (hb k hlt).2 (good_bd hF s k hlt).1 (good_bd hF s k hlt).2
      have hw1 : IntKind.i64.wrap (f k * bad s (m k)) = f k * bad s (m k) := IntWalk.i64_in _ (by omega)
      have hw2 : IntKind.i64.wrap (leadF s m f k + f k * bad s (m k)) = leadF s m f k + f k * bad s (m k) := IntWalk.i64_in _ (by omega)
      have hw3 : IntKind.i64.wrap (f k * good s (m k)) = f k * good s (m k) := IntWalk.i64_in _ (by omega)
      have hw4 : IntKind.i64.wrap (copperF s m f k + f k * good s (m k)) = copperF s m f k + f k * good s (m k) := IntWalk.i64_in _ (by omega)
      clear hc hb hF hL hC hm hf ht0 ht1
      have hlc := fun (x : Later wr) => later_cell x
      go_wp2
      refine wp_region_later (by kernel_rfl) (by kernel_rfl) ?_
      repeat (go_big_quiet_step ((refine calls_later (rbad_c (m k) s _))))
      refine wpQuiet_nil ?_
      clear hlc
      rintro ⟨w1, hb1⟩
      have hbs1 := Nat.lt_of_lt_of_le hbs hb1.size
      have has1 := Nat.lt_of_lt_of_le has hb1.size
      obtain ⟨hcc, hff⟩ := bcell hb1
      go_wp2
      have hck1 := (hcc _ _ hbs).trans hck
      have hc0 := (hcc _ _ has).trans c0
      have hc1 := (hcc _ _ has).trans c1
      have hc2 := (hcc _ _ has).trans c2
      have hc3 := (hcc _ _ has).trans c3
      have hc4 := (hcc _ _ has).trans c4
      clear hcc hff
      have hlc := fun (x : Later w1) => later_cell x
      refine wp_region_later (by kernel_rfl) (by kernel_rfl) ?_
      repeat (go_big_quiet_step ((refine calls_later (rgood_c (m k) s _))))
      refine wpQuiet_nil ?_
      clear hlc
      rintro ⟨w2, hb2⟩
      go_wp2
      go_roundw
      case rel => exact ⟨k + 1, by omega, by go_num, rfl, rfl, bup (bup hB hb1) hb2⟩
      case measure => simp [intOf]; omega
    · obtain rfl : k = n := by omega
      obtain ⟨hcc, hff⟩ := bcell hB
      have hq0 := (hcc _ _ hz0).trans ht0
      have hq1 := (hcc _ _ hz0).trans ht1
      clear hcc hff
      have hzz := Nat.lt_of_lt_of_le hz0 hB.size
      have hm1 := mul_bd ht.1 ht.2.1 hS.1 hS.2
      have hm2 := mul_bd ht.2.2.1 ht.2.2.2 hS.1 hS.2
      have hw1 : IntKind.i64.wrap (l * sumF f k) = l * sumF f k := IntWalk.i64_in _ (by omega)
      have hw2 : IntKind.i64.wrap (c * sumF f k) = c * sumF f k := IntWalk.i64_in _ (by omega)
      have hfk := hf.below hB
      have hb' : ∀ i, i < k → -1099511627776 ≤ f i ∧ f i ≤ 1099511627776 := fun i hi => by have := hb i hi; omega
      have hsum := fun (x : Later wr) => sum_c b k cap2 f x.w (hfk.below x.h) (by omega) hb'
      have HS := Lib.hid hsum
      by_cases h1 : leadF s m f k ≤ l * sumF f k
      · have h1' : decide (leadF s m f k ≤ l * sumF f k) = true := by simpa using h1
        clear hb hF hL hC hm hf hb' hfk hsum ht0 ht1
        have hlc := fun (x : Later wr) => later_cell x
        go_wp2
        refine wp_region_later (by kernel_rfl) (by kernel_rfl) ?_
        repeat (go_big_quiet_step ((refine calls_later_same (HS.out _))))
        refine wpQuiet_nil ?_
        clear hlc
        rintro ⟨w2, hb2⟩
        go_wp2
        go_ret
        exact ⟨ret_b (by unfold goodB; rw [Bool.eq_iff_iff]; simp; omega), (hB0.trans (hB.mono (Nat.le_of_lt hz0))).trans (hb2.mono (Nat.le_of_lt hzz))⟩
      · have h1' : decide (leadF s m f k ≤ l * sumF f k) = false := by simpa using h1
        clear hb hF hL hC hm hf hb' hfk hsum ht0 ht1
        have hlc := fun (x : Later wr) => later_cell x
        go_wp2
        refine wp_region_later (by kernel_rfl) (by kernel_rfl) ?_
        repeat (go_big_quiet_step ((refine calls_later_same (HS.out _))))
        refine wpQuiet_nil ?_
        clear hlc
        rintro ⟨w2, hb2⟩
        go_wp2
        go_ret
        exact ⟨ret_b (by unfold goodB; rw [Bool.eq_iff_iff]; simp; omega), (hB0.trans (hB.mono (Nat.le_of_lt hz0))).trans (hb2.mono (Nat.le_of_lt hzz))⟩

end Go.Proofs.YtehafggcncbnkaaGreat

namespace Go.Proofs.YtehafggcncbnkaaGreat
open Go.RowKit

set_option maxHeartbeats 1000000 in
theorem rcost_c (a b : Option Addr) (n cap len cap2 : Nat) (m : Nat → M5) (f : Nat → Int) (w : World) (hm : Metals w a n m) (hf : Ints w b len f) (hn : n ≤ 1048576) (hl : len ≤ 1048576) :
    Calls Tryz.prog 20 #[.slice a n cap, .slice b len cap2] w fun e w' => e = .returned (re2 (costR n m len f)) ∧ Below w.heap.size w w' := by
  have hB0 : Below w.heap.size w (w.alloc (.cells #[.int .i64 0, .int .i64 0] 29)) := (Below.refl _ _).alloc (Nat.le_refl _) _
  have hm0 := hm.below hB0
  have hf0 := hf.below hB0
  clear hm hf
  by_cases h0 : metalsE n m = 0
  · have h0' : (metalsE n m != 0) = false := by simp [h0]
    have H0 := Lib.hid h0
    clear h0
    by_cases h1 : mixE n len f = 0
    · have h1' : (mixE n len f != 0) = false := by simp [h1]
      have H1 := Lib.hid h1
      obtain ⟨e, hfb, hs⟩ := mix_ok h1
      subst e
      clear h1
      go_enter Tryz.func20, Tryz.ntmps20
      go_wp2_with fail
      refine (rcheckMetals_c a len cap m _ hm0 (by omega)).mono ?_
      rintro e w1 ⟨rfl, hb1⟩
      go_wp2_with fail
      refine (rmix_c a b len cap len cap2 f _ (hf0.below hb1) (by omega) (by omega)).mono ?_
      rintro e w2 ⟨rfl, q, rfl⟩
      go_wp2_with fail
      refine (rcostOf_c a b len cap cap2 m f _ ((hm0.below hb1).drewN q) (Cells.drewN (hf0.below hb1) q) (fine_of H0.out) (fun i hi => by have := hfb i hi; omega) hs).mono ?_
      rintro e w3 ⟨rfl, hb3⟩
      have hb13 := bup (below_drewN hb1 q) hb3
      obtain ⟨hc, hff⟩ := bcell hb13
      have hz := hb13.size
      go_wp2_with fail
      have ev : costR len m len f = (ratN (priceF m f len) (sumF f len), ratD (priceF m f len) (sumF f len), 0) := by
        unfold costR; rw [if_neg (by simp [H0.out]), if_neg (by simp [H1.out])]
      rw [ev]
      refine bodyPost_ret (v := re2 (ratN (priceF m f len) (sumF f len), ratD (priceF m f len) (sumF f len), 0)) (by simp [results, Tryz.results20, go_sem, hc]) rfl ⟨rfl, ?_⟩
      exact (bup hB0 hb13).setCell (Nat.le_refl _) _ |>.setCell (Nat.le_refl _) _
    · have h1' : (mixE n len f != 0) = true := by simp [h1]
      have H1 := Lib.hid h1
      clear h1
      go_enter Tryz.func20, Tryz.ntmps20
      go_wp2_with fail
      refine (rcheckMetals_c a n cap m _ hm0 (by omega)).mono ?_
      rintro e w1 ⟨rfl, hb1⟩
      go_wp2_with fail
      refine (rmix_c a b n cap len cap2 f _ (hf0.below hb1) (by omega) (by omega)).mono ?_
      rintro e w2 ⟨rfl, q, rfl⟩
      go_wp2_with fail
      refine (rmix_c a b n cap len cap2 f _ (Cells.drewN (hf0.below hb1) q) (by omega) (by omega)).mono ?_
      rintro e w2 ⟨rfl, q2, rfl⟩
      obtain ⟨hc, hff⟩ := bcell hb1
      have hz := hb1.size
      go_wp2_with fail
      have ev : costR n m len f = (0, 0, mixE n len f) := by
        unfold costR; rw [if_neg (by simp [H0.out]), if_pos H1.out]
      rw [ev]
      refine bodyPost_ret (v := re2 (0, 0, mixE n len f)) (by simp [results, Tryz.results20, go_sem, hc]) rfl ⟨rfl, ?_⟩
      exact below_drewN ((bup hB0 hb1).setCell (Nat.le_refl _) _ |>.setCell (Nat.le_refl _) _) _
  · have h0' : (metalsE n m != 0) = true := by simp [h0]
    have H0 := Lib.hid h0
    clear h0
    go_enter Tryz.func20, Tryz.ntmps20
    go_wp2_with fail
    refine (rcheckMetals_c a n cap m _ hm0 (by omega)).mono ?_
    rintro e w1 ⟨rfl, hb1⟩
    go_wp2_with fail
    refine (rcheckMetals_c a n cap m _ (hm0.below hb1) (by omega)).mono ?_
    rintro e w2 ⟨rfl, hb2⟩
    have hb12 := bup hb1 hb2
    obtain ⟨hc, hff⟩ := bcell hb12
    have hz := hb12.size
    go_wp2_with fail
    have ev : costR n m len f = (0, 0, metalsE n m) := by unfold costR; rw [if_pos H0.out]
    rw [ev]
    refine bodyPost_ret (v := re2 (0, 0, metalsE n m)) (by simp [results, Tryz.results20, go_sem, hc]) rfl ⟨rfl, ?_⟩
    exact (bup hB0 hb12).setCell (Nat.le_refl _) _ |>.setCell (Nat.le_refl _) _

set_option maxHeartbeats 1000000 in
theorem rdeserves_c (a b : Option Addr) (n cap len cap2 : Nat) (m : Nat → M5) (f : Nat → Int) (l c : Int) (s : Bool) (w : World) (hm : Metals w a n m) (hf : Ints w b len f) (hn : n ≤ 1048576) (hl : len ≤ 1048576) :
    Calls Tryz.prog 28 #[.slice a n cap, .agg #[.int .i64 l, .int .i64 c], .bool s, .slice b len cap2] w fun e w' => e = .returned (.int .i64 (deservesE n m l c s len f)) ∧ Below w.heap.size w w' := by
  have hB0 : Below w.heap.size w (w.alloc (.cells #[.int .i64 l, .int .i64 c] 24)) := (Below.refl _ _).alloc (Nat.le_refl _) _
  have hm0 := hm.below hB0
  have hf0 := hf.below hB0
  clear hm hf
  by_cases h0 : bothE n m l c = 0
  · have h0' : (bothE n m l c != 0) = false := by simp [h0]
    obtain ⟨hM, ht⟩ := both_ok h0
    have H0 := Lib.hid h0
    have HM := Lib.hid hM
    clear hM
    clear h0
    by_cases h1 : mixE n len f = 0
    · have h1' : (mixE n len f != 0) = false := by simp [h1]
      have H1 := Lib.hid h1
      obtain ⟨e, hfb, hs⟩ := mix_ok h1
      subst e
      clear h1
      have Hfb := Lib.hid hfb
      clear hfb
      by_cases h2 : goodB s len m l c f = true
      all_goals
        go_enter Tryz.func28, Tryz.ntmps28
        go_wp2_with fail
        refine (rboth_c a len cap m l c _ hm0 (by omega)).mono ?_
        rintro e w1 ⟨rfl, hb1⟩
        go_wp2_with fail
        refine (rmix_c a b len cap len cap2 f _ (hf0.below hb1) (by omega) (by omega)).mono ?_
        rintro e w2 ⟨rfl, q, rfl⟩
        obtain ⟨hc, hff⟩ := bcell hb1
        have hz := hb1.size
        go_wp2_with fail
        refine (risGood_c a b len cap cap2 m f l c s _ ((hm0.below hb1).drewN q) (Cells.drewN (hf0.below hb1) q) (fine_of HM.out) (fun i hi => by have := Hfb.out i hi; omega) ht).mono ?_
        rintro e w3 ⟨rfl, hb3⟩
        go_wp2_with fail
        go_ret
        exact ⟨ret_i (by unfold deservesE; rw [if_neg (by simp [H0.out]), if_neg (by simp [H1.out])]; simp [h2]), bup (below_drewN (bup hB0 hb1) q) hb3⟩
    · have h1' : (mixE n len f != 0) = true := by simp [h1]
      have H1 := Lib.hid h1
      clear h1
      go_enter Tryz.func28, Tryz.ntmps28
      go_wp2_with fail
      refine (rboth_c a n cap m l c _ hm0 (by omega)).mono ?_
      rintro e w1 ⟨rfl, hb1⟩
      go_wp2_with fail
      refine (rmix_c a b n cap len cap2 f _ (hf0.below hb1) (by omega) (by omega)).mono ?_
      rintro e w2 ⟨rfl, q, rfl⟩
      go_wp2_with fail
      refine (rmix_c a b n cap len cap2 f _ (Cells.drewN (hf0.below hb1) q) (by omega) (by omega)).mono ?_
      rintro e w2 ⟨rfl, q2, rfl⟩
      go_wp2_with fail
      go_ret
      exact ⟨ret_i (by unfold deservesE; rw [if_neg (by simp [H0.out]), if_pos H1.out]), below_drewN (bup hB0 hb1) _⟩
  · have h0' : (bothE n m l c != 0) = true := by simp [h0]
    have H0 := Lib.hid h0
    clear h0
    go_enter Tryz.func28, Tryz.ntmps28
    go_wp2_with fail
    refine (rboth_c a n cap m l c _ hm0 (by omega)).mono ?_
    rintro e w1 ⟨rfl, hb1⟩
    obtain ⟨hc, hff⟩ := bcell hb1
    have hz := hb1.size
    go_wp2_with fail
    refine (rboth_c a n cap m l c _ (hm0.below hb1) (by omega)).mono ?_
    rintro e w2 ⟨rfl, hb2⟩
    go_wp2_with fail
    go_ret
    exact ⟨ret_i (by unfold deservesE; rw [if_pos H0.out]), bup (bup hB0 hb1) hb2⟩

end Go.Proofs.YtehafggcncbnkaaGreat

namespace Go.Proofs.YtehafggcncbnkaaGreat
open Go.RowKit

set_option maxRecDepth 100000 in
set_option maxHeartbeats 4000000 in
theorem rEnds_c (a b : Option Addr) (n cap len cap2 : Nat) (m : Nat → M5) (f : Nat → Int) (copper : Bool) (w : World) (hm : Metals w a n m) (hf : Ints w b len f) (hn : n ≤ 1048576) (hl : len ≤ 1048576) :
    Calls Tryz.prog 22 #[.slice a n cap, .slice b len cap2, .bool copper] w fun e w' => e = .returned (re3 (endsR n m len f copper)) ∧ Below w.heap.size w w' := by
  obtain ⟨W, hW⟩ : ∃ W, (w.alloc (.cells #[.int .i64 0, .int .i64 0] 29)).alloc (.cells #[.int .i64 0, .int .i64 0] 29) = W := ⟨_, rfl⟩
  have hB0 : Below w.heap.size w W := by rw [← hW]; exact ((Below.refl _ _).alloc (Nat.le_refl _) _).alloc (by simp) _
  have hr0 : RowIs W w.heap.size #[.int .i64 0, .int .i64 0] 29 := by rw [← hW]; exact RowIs.alloc (heap_new_at _ _ _ rfl) _
  have hr1 : RowIs W (w.heap.size + 1) #[.int .i64 0, .int .i64 0] 29 := by rw [← hW]; exact heap_new_at _ _ _ (by simp)
  have hWs : w.heap.size + 1 < W.heap.size := (Array.getElem?_eq_some_iff.1 hr1).1
  have hm0 := hm.below hB0
  have hf0 := hf.below hB0
  have HR0 := Lib.hid hr0
  have HR1 := Lib.hid hr1
  clear hm hf hr0 hr1
  by_cases h0 : metalsE n m = 0
  · have h0' : (metalsE n m != 0) = false := by simp [h0]
    have H0 := Lib.hid h0
    by_cases h1 : mixE n len f = 0
    · have h1' : (mixE n len f != 0) = false := by simp [h1]
      obtain ⟨e, hfb, hs⟩ := mix_ok h1
      subst e
      have hFine := fine_of h0
      have ev : endsR len m len f copper = ((ratN (lowF copper m f len) (sumF f len), ratD (lowF copper m f len) (sumF f len)), (ratN (highF copper m f len) (sumF f len), ratD (highF copper m f len) (sumF f len)), 0) := by
        unfold endsR; rw [if_neg (by simp [h0]), if_neg (by simp [h1])]
      rw [ev]
      have hn6 := hFine.2.1
      have hL : ∀ k, k ≤ len → 0 ≤ lowF copper m f k ∧ lowF copper m f k ≤ 1000000000 * k := fun k hk => sumF_nn _ _ k fun i hi => by
        have h1 := hfb i (by omega)
        have h2 := (ends_bd hFine copper i (by omega)).1
        have := mul_bd h1.1 h1.2 h2.1 h2.2
        omega
      have hH : ∀ k, k ≤ len → 0 ≤ highF copper m f k ∧ highF copper m f k ≤ 1000000000 * k := fun k hk => sumF_nn _ _ k fun i hi => by
        have h1 := hfb i (by omega)
        have h2 := (ends_bd hFine copper i (by omega)).2
        have := mul_bd h1.1 h1.2 h2.1 h2.2
        omega
      have hS := sumF_nn f 1000000 len hfb
      have H1 := Lib.hid h1
      clear h1 ev h0
      go_enter Tryz.func22, Tryz.ntmps22
      go_wp2_with fail
      refine (rcheckMetals_c a len cap m _ hm0 (by omega)).mono ?_
      rintro e w1 ⟨rfl, hb1⟩
      go_wp2_with fail
      refine (rmix_c a b len cap len cap2 f _ (hf0.below hb1) (by omega) (by omega)).mono ?_
      rintro e w2 ⟨rfl, q, rfl⟩
      have hbq := below_drewN hb1 q
      go_wp2_with fail
      go_loopw [9, 10, 11] (fun x y i wr => ∃ k : Nat, k ≤ len ∧ i = .int .i64 k ∧ x = .int .i64 (lowF copper m f k) ∧ y = .int .i64 (highF copper m f k) ∧ Below W.heap.size W wr) (fun _ _ i _ => len - (intOf i).toNat)
      case atStart => exact ⟨0, Nat.zero_le _, rfl, rfl, rfl, hbq⟩
      case round =>
        obtain ⟨k, hk, rfl, rfl, rfl, hB⟩ := hrel
        have hLk := hL k hk
        have hHk := hH k hk
        by_cases hlt : k < len
        · obtain ⟨bb, bo, rfl, hbs, hc⟩ := Cells.at (hf0.below hB) k hlt
          obtain ⟨ab, ao, rfl, has, c0, c1, c2, c3, c4⟩ := Metals.at (hm0.below hB) k hlt
          have hck := hc k hlt
          have hLk1 := hL (k + 1) hlt
          have hHk1 := hH (k + 1) hlt
          have hfk := hfb k hlt
          have hek := ends_bd hFine copper k hlt
          have hm1 := mul_bd hfk.1 hfk.2 hek.1.1 hek.1.2
          have hm2 := mul_bd hfk.1 hfk.2 hek.2.1 hek.2.2
          have hw1 : IntKind.i64.wrap (f k * loOf copper (m k)) = f k * loOf copper (m k) := IntWalk.i64_in _ (by omega)
          have hw2 : IntKind.i64.wrap (lowF copper m f k + f k * loOf copper (m k)) = lowF copper m f k + f k * loOf copper (m k) := IntWalk.i64_in _ (by omega)
          have hw3 : IntKind.i64.wrap (f k * hiOf copper (m k)) = f k * hiOf copper (m k) := IntWalk.i64_in _ (by omega)
          have hw4 : IntKind.i64.wrap (highF copper m f k + f k * hiOf copper (m k)) = highF copper m f k + f k * hiOf copper (m k) := IntWalk.i64_in _ (by omega)
          clear hc hb1 hbq hL hH hm0 hf0 hLk1 hHk1 hfb hFine
          cases copper
          all_goals
            simp only [loOf, hiOf, Bool.false_eq_true, if_false, if_true] at hw1 hw2 hw3 hw4
            go_wp2
            go_quiet (fail)
            go_wp2
            go_roundw
            case rel => exact ⟨k + 1, by omega, by go_num, rfl, rfl, by repeat (first | with_reducible exact hB | refine below_drewN ?_ _ | refine Below.setCell ?_ hB.size _ | refine Below.alloc1 ?_ _ (Nat.le_refl _))⟩
            case measure => simp [intOf]; omega
        · obtain rfl : k = len := by omega
          have hLn := hL k (Nat.le_refl _)
          have hHn := hH k (Nat.le_refl _)
          have hb' : ∀ i, i < k → -1099511627776 ≤ f i ∧ f i ≤ 1099511627776 := fun i hi => by have := hfb i hi; omega
          clear hb1 hbq hL hH hm0 hfb hFine
          go_wp2_with fail
          refine (sum_c b k cap2 f _ (hf0.below hB) (by omega) hb').mono ?_
          rintro e w3 ⟨rfl, rfl⟩
          go_wp2_with fail
          refine (by_c _ _ _ (by omega) (by omega) hs (by omega)).mono ?_
          rintro e w4 ⟨rfl, hb4⟩
          have hB4 := bup hB hb4
          go_wp2_with fail
          refine (sum_c b k cap2 f _ (hf0.below hB4) (by omega) hb').mono ?_
          rintro e w5 ⟨rfl, rfl⟩
          go_wp2_with fail
          refine (by_c _ _ _ (by omega) (by omega) hs (by omega)).mono ?_
          rintro e w6 ⟨rfl, hb6⟩
          have hB6 := bup hB4 hb6
          have hq0 : RowIs w6 w.heap.size #[.int .i64 0, .int .i64 0] 29 := (hB6.block _ (by omega)).trans HR0.out
          have hq1 : RowIs w6 (w.heap.size + 1) #[.int .i64 0, .int .i64 0] 29 := (hB6.block _ (by omega)).trans HR1.out
          have r0 := hq0.cell 0
          have r1 := hq0.cell 1
          have r2 := hq1.cell 0
          have r3 := hq1.cell 1
          have z0 := hq0.frozen 0
          have z1 := hq0.frozen 1
          have z2 := hq1.frozen 0
          have z3 := hq1.frozen 1
          simp at r0 r1 r2 r3
          clear hq0 hq1
          go_wp2_with fail
          refine bodyPost_ret (v := re3 ((ratN (lowF copper m f k) (sumF f k), ratD (lowF copper m f k) (sumF f k)), (ratN (highF copper m f k) (sumF f k), ratD (highF copper m f k) (sumF f k)), 0)) (by simp [results, Tryz.results22, go_sem, r0, r1, r2, r3]) rfl ⟨rfl, ?_⟩
          exact ((((bup hB0 hB6).setCell (p := ⟨w.heap.size, 0, none⟩) (Nat.le_refl _) _).setCell (p := ⟨w.heap.size, 1, none⟩) (Nat.le_refl _) _).setCell (p := ⟨w.heap.size + 1, 0, none⟩) (Nat.le_succ _) _).setCell (p := ⟨w.heap.size + 1, 1, none⟩) (Nat.le_succ _) _
    · have h1' : (mixE n len f != 0) = true := by simp [h1]
      have ev : endsR n m len f copper = ((0, 0), (0, 0), mixE n len f) := by
        unfold endsR; rw [if_neg (by simp [h0]), if_pos h1]
      rw [ev]
      clear h1 ev h0
      go_enter Tryz.func22, Tryz.ntmps22
      go_wp2_with fail
      refine (rcheckMetals_c a n cap m _ hm0 (by omega)).mono ?_
      rintro e w1 ⟨rfl, hb1⟩
      go_wp2_with fail
      refine (rmix_c a b n cap len cap2 f _ (hf0.below hb1) (by omega) (by omega)).mono ?_
      rintro e w2 ⟨rfl, q, rfl⟩
      have hbq := below_drewN hb1 q
      go_wp2_with fail
      refine (rmix_c a b n cap len cap2 f _ (hf0.below hbq) (by omega) (by omega)).mono ?_
      rintro e w2 ⟨rfl, q2, rfl⟩
      have hq0 : RowIs w1 w.heap.size #[.int .i64 0, .int .i64 0] 29 := (hb1.block _ (by omega)).trans HR0.out
      have hq1 : RowIs w1 (w.heap.size + 1) #[.int .i64 0, .int .i64 0] 29 := (hb1.block _ (by omega)).trans HR1.out
      have r0 := hq0.cell 0
      have r1 := hq0.cell 1
      have r2 := hq1.cell 0
      have r3 := hq1.cell 1
      have z0 := hq0.frozen 0
      have z1 := hq0.frozen 1
      have z2 := hq1.frozen 0
      have z3 := hq1.frozen 1
      simp at r0 r1 r2 r3
      clear hq0 hq1
      go_wp2_with fail
      refine bodyPost_ret (v := re3 ((0, 0), (0, 0), mixE n len f)) (by simp [results, Tryz.results22, go_sem, r0, r1, r2, r3]) rfl ⟨rfl, ?_⟩
      exact ((((bup hB0 (below_drewN hb1 _)).setCell (p := ⟨w.heap.size, 0, none⟩) (Nat.le_refl _) _).setCell (p := ⟨w.heap.size, 1, none⟩) (Nat.le_refl _) _).setCell (p := ⟨w.heap.size + 1, 0, none⟩) (Nat.le_succ _) _).setCell (p := ⟨w.heap.size + 1, 1, none⟩) (Nat.le_succ _) _
  · have h0' : (metalsE n m != 0) = true := by simp [h0]
    have ev : endsR n m len f copper = ((0, 0), (0, 0), metalsE n m) := by unfold endsR; rw [if_pos h0]
    rw [ev]
    clear h0 ev
    go_enter Tryz.func22, Tryz.ntmps22
    go_wp2_with fail
    refine (rcheckMetals_c a n cap m _ hm0 (by omega)).mono ?_
    rintro e w1 ⟨rfl, hb1⟩
    go_wp2_with fail
    refine (rcheckMetals_c a n cap m _ (hm0.below hb1) (by omega)).mono ?_
    rintro e w2 ⟨rfl, hb2⟩
    have hb12 := bup hb1 hb2
    have hq0 : RowIs w2 w.heap.size #[.int .i64 0, .int .i64 0] 29 := (hb12.block _ (by omega)).trans HR0.out
    have hq1 : RowIs w2 (w.heap.size + 1) #[.int .i64 0, .int .i64 0] 29 := (hb12.block _ (by omega)).trans HR1.out
    have r0 := hq0.cell 0
    have r1 := hq0.cell 1
    have r2 := hq1.cell 0
    have r3 := hq1.cell 1
    have z0 := hq0.frozen 0
    have z1 := hq0.frozen 1
    have z2 := hq1.frozen 0
    have z3 := hq1.frozen 1
    simp at r0 r1 r2 r3
    clear hq0 hq1
    go_wp2_with fail
    refine bodyPost_ret (v := re3 ((0, 0), (0, 0), metalsE n m)) (by simp [results, Tryz.results22, go_sem, r0, r1, r2, r3]) rfl ⟨rfl, ?_⟩
    exact ((((bup hB0 hb12).setCell (p := ⟨w.heap.size, 0, none⟩) (Nat.le_refl _) _).setCell (p := ⟨w.heap.size, 1, none⟩) (Nat.le_refl _) _).setCell (p := ⟨w.heap.size + 1, 0, none⟩) (Nat.le_succ _) _).setCell (p := ⟨w.heap.size + 1, 1, none⟩) (Nat.le_succ _) _

end Go.Proofs.YtehafggcncbnkaaGreat

namespace Go.Proofs.YtehafggcncbnkaaGreat
open Go Go.RowKit

def noDefer (ops : Array Oper) : Bool := ops.toList.all fun o => match o.op with
  | .defer _ => false
  | _ => true

theorem noDefer_at {ops : Array Oper} (h : noDefer ops = true) {i : Nat} {o : Oper} (hi : ops[i]? = some o) (c : Call) : o.op ≠ .defer c := by
  intro e
  have hm : o ∈ ops.toList := by
    rw [Array.mem_toList_iff]
    exact Array.mem_of_getElem? hi
  have := List.all_eq_true.1 h o hm
  rw [e] at this
  cases this

section
variable {P : Program} {ops : Array Oper} {md : Region.Mode} {Q : Exit → Act → World → Prop} {l n : Nat}

theorem rowsIn_wide {F : Fence} {P : Program} {row : String} {args : Array Value} {w : World} {R : Value → World → Prop} (hF : F = Fence.wide.inRound l) (h : Rows P row args w R) : RowsIn F n P row args w R := fun c cs _ => by
  subst hF
  obtain ⟨v, w', r, s⟩ := h c cs
  exact ⟨v, w', r, stepsIn_wide.2 s⟩

theorem opIn_of_op {o : Oper} {a : Act} {w : World} {K K' : Act → World → Prop} (ho : ∀ c, o.op ≠ .defer c) (hK : ∀ a w, K a w → K' a w) (h : o.wp P a w K Q) : o.wpIn (Fence.wide.inRound l) n P a w K' Q := by
  refine ⟨fun _ _ => trivial, ?_⟩
  rw [Oper.semAt_eq _ _ _ ho]
  unfold Oper.wp at h
  generalize (execOp a.eval o).run P w = r at h ⊢
  have hd : ¬ (Fence.wide.inRound l).depth.isSome = true := by simp [Fence.wide]
  cases r with
  | ok x w' =>
    cases x <;> simp only [Oper.upon] at h <;> simp only [Oper.uponIn]
    case value => exact hK _ _ h
    case skip => exact hK _ _ h
    case defer => exact hK _ _ h
    case enter f args =>
      refine ⟨fun h => absurd h hd, CallsIn.inRound l (callsIn_wide.2 (h.mono fun e w'' he => ?_))⟩
      cases e with
      | returned v => exact hK _ _ he
      | panicked chain => exact he
      | outgrown => exact he
    case row => exact ⟨fun h => absurd h hd, rowsIn_wide rfl (h.mono fun v w'' he => hK _ _ he)⟩
  | halt x w' => cases x <;> simp only [Oper.upon] at h <;> simp only [Oper.uponIn] <;> exact h

theorem wpAnyIn_of_any (hd : noDefer ops = true) (hq : ¬ LetsOut Q) : ∀ (fuel : Nat) (listed : Array Bool) (a : Act) (w : World), wpAny P md ops Q fuel listed a w → wpAnyIn (Fence.wide.inRound l) n P md ops Q fuel listed a w
  | 0, _, _, _, h => h
  | fuel + 1, listed, a, w, h => ⟨h.1, fun i hi => by
      have hop := h.2 i hi
      unfold wpOp at hop
      unfold wpOpIn
      cases ho : ops[i]? with
      | none =>
        simp only [ho] at hop
        exact wpAnyIn_of_any hd hq fuel _ _ _ hop
      | some o =>
        simp only [ho] at hop ⊢
        split
        · rename_i hw
          rw [if_pos hw] at hop
          exact opIn_of_op (noDefer_at hd ho) (fun a w => wpAnyIn_of_any hd hq fuel _ a w) (hop.resolve_right fun h => hq h.2)
        · rename_i hw
          rw [if_neg hw] at hop
          exact ⟨fun _ _ => trivial, wpAnyIn_of_any hd hq fuel _ _ _ hop⟩⟩

theorem wpIn_region_anyR {id : Nat} {a : Act} {w : World} (hm : P.follows .mixedOrders = true) (hd : noDefer ops = true) (hq : ¬ LetsOut Q)
    (h : wpAny P .any ops Q ops.size (Array.replicate ops.size false) a { w with drawn := w.drawn + 1 }) : (Code.region id ops true).wpIn (Fence.wide.inRound l) n P Q a w :=
  wpIn_region_any hm (wpAnyIn_of_any hd hq _ _ _ _ h)

/-- As wp_region_later, within a round. -/
theorem wpIn_region_laterR {id : Nat} {a : Act} {w : World} {os : List Oper} (hm : P.follows .mixedOrders = true) (hB : Region.lexB .any os.toArray = true) (hd : noDefer os.toArray = true) (hq : ¬ LetsOut Q)
    (h : wpQuiet P os.toArray (fun w' => ∃ x : Later w, w' = x.w) (fun a' => ∀ x : Later w, Q .normal a' x.w) os a) : (Code.region id os.toArray true).wpIn (Fence.wide.inRound l) n P Q a w := by
  simp only [Region.lexB, Bool.and_eq_true] at hB
  refine wpIn_region_anyR hm hd hq (wpAny_of_quiet (C := fun w' => ∃ x : Later w, w' = x.w) (Q := fun a' => ∀ x : Later w, Q .normal a' x.w) (fun _ w' hw' h => by obtain ⟨x, rfl⟩ := hw'; exact h x) _ _ _ _ ⟨⟨_, (Below.refl _ w).drew⟩, rfl⟩ ?_)
  have := wpAnyQ_lex (C := fun w' => ∃ x : Later w, w' = x.w) (md := .any) hB.1 os 0 (Array.replicate os.toArray.size false) a (by simp) (by simpa using hB.2) h
  simpa using this

/-- As wp_region_quiet_lit, within a round. -/
theorem wpIn_region_quietR {id : Nat} {a : Act} {w : World} {os : List Oper} (hm : P.follows .mixedOrders = true) (hB : Region.lexB .any os.toArray = true) (hd : noDefer os.toArray = true) (hq : ¬ LetsOut Q)
    (h : wpQuiet P os.toArray (fun w' => ∃ q, w' = w.drewN q) (fun a' => ∀ w', (∃ q, w' = w.drewN q) → Q .normal a' w') os a) : (Code.region id os.toArray true).wpIn (Fence.wide.inRound l) n P Q a w := by
  simp only [Region.lexB, Bool.and_eq_true] at hB
  refine wpIn_region_anyR hm hd hq (wpAny_of_quiet (C := fun w' => ∃ q, w' = w.drewN q) (Q := fun a' => ∀ w', (∃ q, w' = w.drewN q) → Q .normal a' w') (fun _ w' hw' h => h w' hw') _ _ _ _ ⟨1, rfl⟩ ?_)
  have := wpAnyQ_lex (C := fun w' => ∃ q, w' = w.drewN q) (md := .any) hB.1 os 0 (Array.replicate os.toArray.size false) a (by simp) (by simpa using hB.2) h
  simpa using this

theorem any_later_tail {Q : Exit → Act → World → Prop} {a : Act} {w : World} {l : List Oper} (n : Nat) (hB : Region.lexTailB .any l.toArray n = true)
    (h : wpQuiet P l.toArray (fun w' => ∃ x : Later w, w' = x.w) (fun a' => ∀ x : Later w, wpList P l.toArray Q (l.drop n) a' x.w) (l.take n) a) :
    wpAny P .any l.toArray Q l.toArray.size (Array.replicate l.toArray.size false) a { w with drawn := w.drawn + 1 } := by
  simp only [Region.lexTailB, Bool.and_eq_true, decide_eq_true_eq] at hB
  obtain ⟨⟨⟨⟨hsel, hn⟩, hs⟩, hc⟩, hlex⟩ := hB
  have hn' : n < l.length := by simpa using hn
  have htl : (l.take n).length = n := by simp; omega
  have hdl : (l.drop n).length = l.toArray.size - n := by simp
  have inv0 : HeadInv .any l.toArray n (Array.replicate l.toArray.size false) :=
    ⟨by simp, fun j oj _ hl => (by rw [getD_replicate_false] at hl; cases hl), fun t _ ht => getD_in (by simpa using ht) (getD_replicate_false _ _)⟩
  have H := headQ_lex (md := .any) (g := l.toArray.size - n) hsel hs hc hn (l.take n) 0 _ a (fun j hj => by
    rw [htl] at hj
    simp [hj]) (by simpa using htl) inv0 (by rw [htl]; exact hlex) h
  have := headQ_any (Q := Q) (g := l.toArray.size - n) (fun done a' w' hw' hL => by
    obtain ⟨x, rfl⟩ := hw'
    have := wpAny_of_seq (md := .any) (Q' := Q) (l.drop n) n done a' x.w (fun j => by simp [List.getElem?_drop]) (by rw [hdl]; exact hL.1) (hL.2 x)
    rwa [hdl] at this) _ _ _ { w with drawn := w.drawn + 1 } ⟨⟨_, (Below.refl _ w).drew⟩, rfl⟩ H
  rw [htl, show n + (l.toArray.size - n) = l.toArray.size by omega] at this
  exact this

/-- As wp_region_later_tail, within a round. -/
theorem wpIn_region_later_tailR {id : Nat} {a : Act} {w : World} {os : List Oper} (m : Nat) (hm : P.follows .mixedOrders = true) (hB : Region.lexTailB .any os.toArray m = true) (hd : noDefer os.toArray = true) (hq : ¬ LetsOut Q)
    (h : wpQuiet P os.toArray (fun w' => ∃ x : Later w, w' = x.w) (fun a' => ∀ x : Later w, wpList P os.toArray Q (os.drop m) a' x.w) (os.take m) a) : (Code.region id os.toArray true).wpIn (Fence.wide.inRound l) n P Q a w :=
  wpIn_region_anyR hm hd hq (any_later_tail m hB h)
end

end Go.Proofs.YtehafggcncbnkaaGreat

namespace Go.Proofs.YtehafggcncbnkaaGreat
open Go Go.RowKit

section
variable {P : Program} {ops : Array Oper} {md : Region.Mode} {w0 : World}

theorem later_cell2 {W w1 : World} (hb : Below W.heap.size W w1) (x : Later w1) (b o : Nat) (h : b < W.heap.size) : x.w.cell? ⟨b, o, none⟩ = W.cell? ⟨b, o, none⟩ :=
  ((x.h.cell (p := ⟨b, o, none⟩) (Nat.lt_of_lt_of_le h hb.size))).trans (hb.cell (p := ⟨b, o, none⟩) h)

/-- What an operation gives, and that it leaves what lay there. -/
def growUpon (P : Program) (w : World) (v : Value) : Result Next → Prop
  | .ok (.value u) w' => w' = w ∧ u = v
  | .ok .skip w' => w' = w ∧ v = undef
  | .ok (.enter f args) w' => w' = w ∧ Calls P f args w (fun e w'' => e = .returned v ∧ Below w.heap.size w w'')
  | _ => False

def Grows (P : Program) (ops : Array Oper) (w0 : World) (o : Oper) (v : Value) (a : Act) : Prop :=
  (Region.wanted o (yielded ops a.tmps) = true ∧ ∀ w, Below w0.heap.size w0 w → growUpon P w v ((execOp a.eval o).run P w)) ∨
  (Region.wanted o (yielded ops a.tmps) = false ∧ v = undef)

theorem Grows.of_same {o : Oper} {v : Value} {a a' : Act} (h : Grows P ops w0 o v a) (he : execOp a'.eval o = execOp a.eval o) (hw : Region.wanted o (yielded ops a'.tmps) = Region.wanted o (yielded ops a.tmps)) : Grows P ops w0 o v a' := by
  unfold Grows at *
  rw [he, hw]
  exact h

abbrev ptrTo (b : Nat) : Value := .pointer (some ⟨b, 0, none⟩)

/-- The first n operations in whatever order, of which number m makes the variable. -/
def HeadG (P : Program) (md : Region.Mode) (ops : Array Oper) (w0 : World) (n m ta : Nat) (L : Array Bool → Act → Prop) : Nat → Array Bool → Act → Prop
  | 0, done, a => L done a
  | f + 1, done, a => Region.ready md ops done ≠ [] ∧ ∀ i ∈ Region.ready md ops done, i < n ∧
      ((i = m ∧ ∀ b, w0.heap.size ≤ b → HeadG P md ops w0 n m ta L f (done.setIfInBounds i true) (a.put (some ta) (ptrTo b))) ∨
       (i ≠ m ∧ ∃ o v, ops[i]? = some o ∧ Grows P ops w0 o v a ∧ HeadG P md ops w0 n m ta L f (done.setIfInBounds i true) (a.put o.dst v)))

/-- All that lay there lies as it lay; the variable, if it is made, is as it was made. -/
def Fresh (w0 : World) (ta : Nat) (z : Obj) (a : Act) (w : World) : Prop :=
  Below w0.heap.size w0 w ∧ ∀ b, a.tmps[ta]? = some (ptrTo b) → w0.heap.size ≤ b ∧ w.heap[b]? = some z

theorem put_other {a : Act} {d : Option Tmp} {v : Value} {ta : Nat} (h : d ≠ some ta) : (a.put d v).tmps[ta]? = a.tmps[ta]? := by
  cases d with
  | none => rfl
  | some d =>
    have : d ≠ ta := fun e => h (by rw [e])
    simp [Act.put, this]

theorem headG_any {n m ta g : Nat} {z : Obj} {om : Oper} {L : Array Bool → Act → Prop} {Q : Exit → Act → World → Prop} (hm : ops[m]? = some om) (hgd : om.guard = none) (hdm : om.dst = some ta)
    (hal : ∀ (a : Act) (w : World), (execOp a.eval om).run P w = .ok (.value (ptrTo w.heap.size)) (w.alloc z)) (hdst : ∀ i o, i ≠ m → ops[i]? = some o → o.dst ≠ some ta)
    (hL : ∀ done a w, Fresh w0 ta z a w → L done a → wpAny P md ops Q g done a w) :
    ∀ (f : Nat) (done : Array Bool) (a : Act) (w : World), Fresh w0 ta z a w → HeadG P md ops w0 n m ta L f done a → wpAny P md ops Q (f + g) done a w := by
  intro f
  induction f with
  | zero => intro done a w hw h; rw [Nat.zero_add]; exact hL _ _ _ hw h
  | succ f ih =>
    intro done a w hw h
    rw [Nat.succ_add]
    refine ⟨fun e => absurd e h.1, fun i hi => ?_⟩
    rcases (h.2 i hi).2 with ⟨rfl, hb⟩ | ⟨hne, o, v, ho, hg, hK⟩
    · unfold wpOp
      simp only [hm]
      rw [if_pos (by simp [Region.wanted, hgd])]
      refine .inl ?_
      unfold Oper.wp
      rw [hal, Oper.upon_value, hdm]
      refine ih _ _ _ ⟨hw.1.alloc hw.1.size z, fun b hb' => ?_⟩ (hb _ hw.1.size)
      by_cases hlt : ta < a.tmps.size
      · simp [Act.put, hlt] at hb'
        subst hb'
        exact ⟨hw.1.size, World.alloc_heap_new w z⟩
      · simp [Act.put, hlt] at hb'
    · have fr : ∀ w'', Below w.heap.size w w'' → Fresh w0 ta z (a.put o.dst v) w'' := fun w'' hb => ⟨hw.1.trans (hb.mono hw.1.size), fun b hb' => by
        rw [put_other (hdst i o hne ho)] at hb'
        have := hw.2 b hb'
        exact ⟨this.1, (hb.block b (Array.getElem?_eq_some_iff.1 this.2).1).trans this.2⟩⟩
      unfold wpOp
      simp only [ho]
      rcases hg with ⟨hwt, hg⟩ | ⟨hwt, rfl⟩
      · rw [if_pos hwt]
        refine .inl ?_
        have h3 := hg w hw.1
        unfold Oper.wp
        generalize (execOp a.eval o).run P w = r at h3 ⊢
        cases r with
        | ok x w' =>
          cases x <;> simp only [growUpon] at h3 <;> simp only [Oper.upon]
          case value u =>
            obtain ⟨e1, e2⟩ := h3
            rw [e1, e2]
            exact ih _ _ _ (fr w (Below.refl _ _)) hK
          case skip =>
            obtain ⟨e1, e2⟩ := h3
            rw [e1, ← e2]
            exact ih _ _ _ (fr w (Below.refl _ _)) hK
          case enter f' args =>
            obtain ⟨e1, hc⟩ := h3
            rw [e1]
            exact hc.mono fun e w'' ⟨he, hb⟩ => by subst he; exact ih _ _ _ (fr w'' hb) hK
        | halt x w' => simp only [growUpon] at h3
      · rw [if_neg (by simp [hwt])]
        exact ih _ _ _ (fr w (Below.refl _ _)) hK

theorem headG_first {n m ta i : Nat} {oi om : Oper} {v : Value} {L : Array Bool → Act → Prop} (hm : ops[m]? = some om) (hdm : om.dst = some ta) (hi : ops[i]? = some oi) (him : i ≠ m) (hsel : ∀ (j : Nat) (o : Oper) cs b, ops[j]? = some o → o.op ≠ .select cs b)
    (hs : Region.sinkB md ops n = true) (hc : Region.chainB md ops n = true) (hn : n < ops.size) (hin : i < n) (hend : ∀ done a, L done a → ∀ j ∈ Region.ready md ops done, n ≤ j) :
    ∀ (f : Nat) (done : Array Bool) (a : Act), HeadInv md ops n done →
      (∀ j oj, ops[j]? = some oj → j ≠ i → done.getD j true = false → (∀ e ∈ oj.after, Region.binds md e = true → e.on ≠ i) → oi.apart ops oj = true) →
      i ∈ Region.ready md ops done → Grows P ops w0 oi v a →
      HeadG P md ops w0 n m ta L f (done.setIfInBounds i true) (a.put oi.dst v) → HeadG P md ops w0 n m ta L (f + 1) done a := by
  intro f
  induction f with
  | zero =>
    intro done a inv _ hr hy H
    have open_ := (mem_ready.1 hr).1
    refine ⟨List.ne_nil_of_mem hr, fun j hj => ?_⟩
    have hjn : j < n := Nat.lt_of_not_le fun h => tail_waits hs hc hn inv _ i rfl hin open_ j h hj
    refine ⟨hjn, ?_⟩
    rcases Nat.decEq j i with h | h
    · exact absurd (hend _ _ H j (ready_mono hj h)) (Nat.not_le_of_lt hjn)
    · subst h
      exact .inr ⟨him, oi, v, hi, hy, H⟩
  | succ f ih =>
    intro done a inv free hr hy H
    have open_ := (mem_ready.1 hr).1
    refine ⟨List.ne_nil_of_mem hr, fun j hj => ?_⟩
    have hjn : j < n := Nat.lt_of_not_le fun h => tail_waits hs hc hn inv _ i rfl hin open_ j h hj
    refine ⟨hjn, ?_⟩
    rcases Nat.decEq j i with h | h
    · obtain ⟨jopen, oj, hoj, hall⟩ := mem_ready.1 hj
      have waits : ∀ e ∈ oj.after, Region.binds md e = true → e.on ≠ i := by
        intro e he hb heq
        have := hall e he hb
        rw [heq, getD_both open_] at this
        cases this
      obtain ⟨p1, p2, p3⟩ := Oper.apart_spec (free j oj hoj h jopen waits)
      have keep : ∀ u, Grows P ops w0 oi v (a.put oj.dst u) := fun u => hy.of_same (execOp_put oi (fun cs b => hsel i oi cs b hi) a oj.dst u p3) (wanted_put oi a oj.dst u p3)
      have free' : ∀ k ok, ops[k]? = some ok → k ≠ i → (done.setIfInBounds j true).getD k true = false → (∀ e ∈ ok.after, Region.binds md e = true → e.on ≠ i) → oi.apart ops ok = true := by
        intro k ok hk hki kopen hno
        refine free k ok hk hki ?_ hno
        rcases Nat.decEq j k with e | e
        · rwa [getD_set_ne true e] at kopen
        · rw [← e]; exact jopen
      rcases (H.2 j (ready_mono hj h)).2 with ⟨rfl, hb⟩ | ⟨hjm, o, u, ho, hg, hK⟩
      · obtain rfl : oj = om := Option.some.inj (hoj.symm.trans hm)
        refine .inl ⟨rfl, fun b hbb => ih _ _ (inv.set hj hjn) free' (ready_mono hr (Ne.symm h)) ?_ ?_⟩
        · rw [← hdm]; exact keep _
        · have := hb b hbb
          rw [← hdm, Act.put_comm a v _ p2] at this
          rw [← hdm, Array.setIfInBounds_comm _ _ h]
          exact this
      · obtain rfl : oj = o := Option.some.inj (hoj.symm.trans ho)
        refine .inr ⟨hjm, oj, u, hoj, ?_, ih _ _ (inv.set hj hjn) free' (ready_mono hr (Ne.symm h)) (keep u) ?_⟩
        · exact hg.of_same (execOp_put oj (fun cs b => hsel j oj cs b hoj) a oi.dst v p1).symm (wanted_put oj a oi.dst v p1).symm
        · rw [Act.put_comm a v u p2] at hK
          rw [Array.setIfInBounds_comm _ _ h]
          exact hK
    · subst h
      exact .inr ⟨him, oi, v, hi, hy, H⟩

/-- The walk in the order of the text; the variable is made last. -/
def WalkG (P : Program) (ops : Array Oper) (w0 : World) (K : Act → Prop) : List Oper → Act → Prop
  | [], a => K a
  | o :: rest, a => ∃ v, Grows P ops w0 o v a ∧ WalkG P ops w0 K rest (a.put o.dst v)

theorem headG_lex {m ta g : Nat} {om : Oper} {Lq : Act → Prop} (hm : ops[m]? = some om) (hdm : om.dst = some ta) (hsel : Region.noSelect ops = true) (hs : Region.sinkB md ops (m + 1) = true) (hc : Region.chainB md ops (m + 1) = true) (hn : m + 1 < ops.size) :
    ∀ (l : List Oper) (k : Nat) (done : Array Bool) (a : Act), (∀ j, j < l.length → l[j]? = ops[k + j]?) → k + l.length = m → HeadInv md ops (m + 1) done → (∀ j, j < k → done.getD j true = true) →
    Region.lexHead md ops g (l.length + 1) k done = true → WalkG P ops w0 (fun a' => ∀ b, w0.heap.size ≤ b → Lq (a'.put (some ta) (ptrTo b))) l a →
    HeadG P md ops w0 (m + 1) m ta (fun done' a' => Region.seqB md ops g (m + 1) done' = true ∧ Lq a') (l.length + 1) done a := by
  intro l
  induction l with
  | nil =>
    intro k done a _ hk inv hd hB h
    obtain rfl : k = m := by simpa using hk
    simp only [List.length_nil, Region.lexHead, Bool.and_eq_true] at hB
    have hr : k ∈ Region.ready md ops done := by simpa using hB.1.1
    have open_ := (mem_ready.1 hr).1
    refine ⟨List.ne_nil_of_mem hr, fun j hj => ?_⟩
    have hjn : j < k + 1 := Nat.lt_of_not_le fun h => tail_waits hs hc hn inv _ k rfl (Nat.lt_succ_self k) open_ j h hj
    obtain rfl : j = k := by
      rcases Nat.lt_or_ge j k with h | h
      · have h1 := hd j h
        rw [(mem_ready.1 hj).1] at h1
        cases h1
      · omega
    exact ⟨hjn, .inl ⟨rfl, fun b hb => ⟨hB.2, h b hb⟩⟩⟩
  | cons o l ih =>
    intro k done a hl hk inv hd hB h
    have h0 : ops[k]? = some o := by simpa using (hl 0 (by simp)).symm
    rw [List.length_cons] at hk
    rw [List.length_cons, Region.lexHead] at hB
    simp only [Bool.and_eq_true] at hB
    have hkn : k < m + 1 := by omega
    have hr : k ∈ Region.ready md ops done := by simpa using hB.1.1
    obtain ⟨v, hy, hK⟩ := h
    have hsz : k < done.size := by rw [inv.size]; exact (Array.getElem?_eq_some_iff.1 h0).1
    refine headG_first hm hdm h0 (by omega) (Region.noSelect_spec hsel) hs hc hn hkn (fun _ _ hL => seqB_ready hL.1) (l.length + 1) done a inv (Region.free_spec h0 hB.1.2) hr hy (ih (k + 1) _ _ ?_ (by omega) (inv.set hr hkn) ?_ hB.2 hK)
    · intro j hj
      have := hl (j + 1) (by simp; omega)
      simpa [Nat.add_assoc, Nat.add_comm 1 j] using this
    · intro j hj
      by_cases e : j = k
      · subst e; simp [hsz]
      · rw [getD_set_ne true (Ne.symm e)]; exact hd j (by omega)

/-- The values of the walk are those that its end holds. -/
theorem end_holds {C : World → Prop} {af : Act} : ∀ (l : List Oper) (a : Act) (d : Nat), (∀ o ∈ l, o.dst ≠ some d) → wpQuiet P ops C (fun a' => a' = af) l a → af.tmps[d]? = a.tmps[d]?
  | [], a, d, _, h => by rw [← (show a = af from h)]
  | o :: l, a, d, hd, h => by
    have h1 := hd o (by simp)
    have h2 : ∀ o ∈ l, o.dst ≠ some d := fun x hx => hd x (by simp [hx])
    simp only [wpQuiet] at h
    split at h
    · obtain ⟨v, _, hK⟩ := h
      rw [end_holds l _ d h2 hK, put_other h1]
    · rw [end_holds l _ d h2 h, put_other h1]

/-- Each operation has a temporary of its own, within the frame. -/
def ownDst (s : Nat) : List Oper → Bool
  | [] => true
  | o :: l => (match o.dst with
    | some d => decide (d < s) && l.all fun x => decide (x.dst ≠ some d)
    | none => false) && ownDst s l

theorem walkG_of {af : Act} {s : Nat} {K : Act → Prop} (hK : K af) : ∀ (l : List Oper) (a : Act), a.tmps.size = s → ownDst s l = true →
    (∀ w1, Below w0.heap.size w0 w1 → wpQuiet P ops (fun w' => ∃ x : Later w1, w' = x.w) (fun a' => a' = af) l a) → WalkG P ops w0 K l a
  | [], a, _, _, h => by
    have : a = af := h w0 (Below.refl _ _)
    rw [this]; exact hK
  | o :: l, a, hs, ho, h => by
    simp only [ownDst, Bool.and_eq_true] at ho
    cases hd : o.dst with
    | none => simp [hd] at ho
    | some d =>
      simp only [hd, Bool.and_eq_true, decide_eq_true_eq, List.all_eq_true] at ho
      obtain ⟨⟨hds, hall⟩, hrest⟩ := ho
      by_cases hw : Region.wanted o (yielded ops a.tmps) = true
      · have step : ∀ w1, Below w0.heap.size w0 w1 → growUpon P w1 ((af.tmps[d]?).getD undef) ((execOp a.eval o).run P w1) ∧
            wpQuiet P ops (fun w' => ∃ x : Later w1, w' = x.w) (fun a' => a' = af) l (a.put o.dst ((af.tmps[d]?).getD undef)) := fun w1 hb => by
          have h1 := h w1 hb
          simp only [wpQuiet] at h1
          rw [if_pos hw] at h1
          obtain ⟨v, hv, hq⟩ := h1
          have hve : (af.tmps[d]?).getD undef = v := by
            rw [end_holds l _ d hall hq, hd]
            simp [Act.put, hs, hds]
          rw [hve]
          refine ⟨?_, hq⟩
          have h2 := hv w1 ⟨⟨w1, Below.refl _ _⟩, rfl⟩
          unfold Oper.quietAt at h2
          generalize (execOp a.eval o).run P w1 = r at h2 ⊢
          cases r with
          | ok x w' =>
            cases x <;> simp only [Oper.quietUpon] at h2 <;> simp only [growUpon]
            case value => exact h2
            case skip => exact h2
            case enter f args => exact ⟨h2.1, h2.2.mono fun e w'' ⟨he, y, hy⟩ => ⟨he, hy ▸ y.h⟩⟩
          | halt x w' => simp only [Oper.quietUpon] at h2
        exact ⟨_, .inl ⟨hw, fun w1 hb => (step w1 hb).1⟩, walkG_of hK l _ (by rw [hd]; simp [Act.put, hs]) hrest fun w1 hb => (step w1 hb).2⟩
      · have hw' : Region.wanted o (yielded ops a.tmps) = false := by simpa using hw
        refine ⟨undef, .inr ⟨hw', rfl⟩, walkG_of hK l _ (by rw [hd]; simp [Act.put, hs]) hrest fun w1 hb => ?_⟩
        have h1 := h w1 hb
        simp only [wpQuiet] at h1
        rwa [if_neg hw] at h1

/-- All but one operation have other temporaries than ta. -/
def offDst (ta m : Nat) (l : List Oper) : Bool := (List.range l.length).all fun i => i == m || decide ((l[i]?.bind (·.dst)) ≠ some ta)

theorem any_float {Q : Exit → Act → World → Prop} {a : Act} {w : World} {l : List Oper} (m ta s : Nat) (z : Obj) (om : Oper) (hB : Region.lexTailB .any l.toArray (m + 1) = true) (hm : l[m]? = some om) (hgd : om.guard = none) (hdm : om.dst = some ta)
    (hal : ∀ (a : Act) (w : World), (execOp a.eval om).run P w = .ok (.value (ptrTo w.heap.size)) (w.alloc z)) (hoff : offDst ta m l = true) (hown : ownDst s (l.take m) = true) (hs : a.tmps.size = s) (hta : a.tmps[ta]? = some undef)
    (h : ∃ af, (∀ w1, Below w.heap.size w w1 → ∀ K : Act → Prop, K af → wpQuiet P l.toArray (fun w' => ∃ x : Later w1, w' = x.w) K (l.take m) a) ∧
      ∀ (b : Nat) (w' : World), w.heap.size ≤ b → Below w.heap.size w w' → w'.heap[b]? = some z → wpList P l.toArray Q (l.drop (m + 1)) (af.put (some ta) (ptrTo b)) w') :
    wpAny P .any l.toArray Q l.toArray.size (Array.replicate l.toArray.size false) a { w with drawn := w.drawn + 1 } := by
  obtain ⟨af, h1', h2⟩ := h
  have h1 := fun w1 hb => h1' w1 hb (fun a' => a' = af) rfl
  simp only [Region.lexTailB, Bool.and_eq_true, decide_eq_true_eq] at hB
  obtain ⟨⟨⟨⟨hsel, hn⟩, hsk⟩, hc⟩, hlex⟩ := hB
  have hn' : m + 1 < l.length := by simpa using hn
  have htl : (l.take m).length = m := by simp; omega
  have hdl : (l.drop (m + 1)).length = l.toArray.size - (m + 1) := by simp
  have hm' : l.toArray[m]? = some om := by simpa using hm
  have inv0 : HeadInv .any l.toArray (m + 1) (Array.replicate l.toArray.size false) :=
    ⟨by simp, fun j oj _ hl => (by rw [getD_replicate_false] at hl; cases hl), fun t _ ht => getD_in (by simpa using ht) (getD_replicate_false _ _)⟩
  have hW := walkG_of (K := fun a' => ∀ b, w.heap.size ≤ b → (fun a'' => ∃ b, a'' = af.put (some ta) (ptrTo b)) (a'.put (some ta) (ptrTo b))) (fun b _ => ⟨b, rfl⟩) (l.take m) a hs hown h1
  have H := headG_lex (md := .any) (g := l.toArray.size - (m + 1)) (Lq := fun a'' => ∃ b, a'' = af.put (some ta) (ptrTo b)) hm' hdm hsel hsk hc hn (l.take m) 0 _ a (fun j hj => by
    rw [htl] at hj
    simp [hj]) (by simpa using htl) inv0 (fun j hj => absurd hj (Nat.not_lt_zero _)) (by rw [htl]; exact hlex) hW
  have hta' : ta < a.tmps.size := (Array.getElem?_eq_some_iff.1 hta).1
  have hsz : ∀ {w1}, Below w.heap.size w w1 → wpQuiet P l.toArray (fun w' => ∃ x : Later w1, w' = x.w) (fun a' => a' = af) (l.take m) a → af.tmps.size = s := fun {w1} hb hq => by
    have key : ∀ (l' : List Oper) (a' : Act), wpQuiet P l.toArray (fun w' => ∃ x : Later w1, w' = x.w) (fun a' => a' = af) l' a' → af.tmps.size = a'.tmps.size := by
      intro l'
      induction l' with
      | nil => intro a' h; rw [← (show a' = af from h)]
      | cons o l' ih =>
        intro a' h
        simp only [wpQuiet] at h
        split at h
        · obtain ⟨v, _, hK⟩ := h
          rw [ih _ hK]
          cases o.dst <;> simp [Act.put]
        · rw [ih _ h]
          cases o.dst <;> simp [Act.put]
    rw [key _ _ hq, hs]
  have hasz := hsz (Below.refl _ w) (h1 w (Below.refl _ w))
  have hdst : ∀ i o, i ≠ m → l.toArray[i]? = some o → o.dst ≠ some ta := fun i o hi ho => by
    have hil : i < l.length := by have := (Array.getElem?_eq_some_iff.1 ho).1; simpa using this
    have := List.all_eq_true.1 hoff i (by simpa using hil)
    have ho' : l[i]? = some o := by simpa using ho
    simpa [ho', hi] using this
  have := headG_any (Q := Q) (z := z) (g := l.toArray.size - (m + 1)) hm' hgd hdm hal hdst (fun done a' w' hw' hL => by
    obtain ⟨hq, b, rfl⟩ := hL
    have hf := hw'.2 b (by simp [Act.put, hasz, ← hs, hta'])
    have := wpAny_of_seq (md := .any) (Q' := Q) (l.drop (m + 1)) (m + 1) done _ w' (fun j => by simp [List.getElem?_drop]) (by rw [hdl]; exact hq) (h2 b w' hf.1 hw'.1 hf.2)
    rwa [hdl] at this) _ _ _ { w with drawn := w.drawn + 1 } ⟨(Below.refl _ w).drew, fun b hb => by rw [hta] at hb; cases hb⟩ H
  rw [htl, show m + 1 + (l.toArray.size - (m + 1)) = l.toArray.size by omega] at this
  exact this

theorem wp_region_float {id : Nat} {Q : Exit → Act → World → Prop} {a : Act} {w : World} {l : List Oper} (m ta s : Nat) (z : Obj) (om : Oper) (hmo : P.follows .mixedOrders = true) (hB : Region.lexTailB .any l.toArray (m + 1) = true) (hm : l[m]? = some om) (hgd : om.guard = none) (hdm : om.dst = some ta)
    (hal : ∀ (a : Act) (w : World), (execOp a.eval om).run P w = .ok (.value (ptrTo w.heap.size)) (w.alloc z)) (hoff : offDst ta m l = true) (hown : ownDst s (l.take m) = true) (hs : a.tmps.size = s) (hta : a.tmps[ta]? = some undef)
    (h : ∃ af, (∀ w1, Below w.heap.size w w1 → ∀ K : Act → Prop, K af → wpQuiet P l.toArray (fun w' => ∃ x : Later w1, w' = x.w) K (l.take m) a) ∧
      ∀ (b : Nat) (w' : World), w.heap.size ≤ b → Below w.heap.size w w' → w'.heap[b]? = some z → wpList P l.toArray Q (l.drop (m + 1)) (af.put (some ta) (ptrTo b)) w') :
    (Code.region id l.toArray true).wp P Q a w :=
  wp_region_any hmo (any_float m ta s z om hB hm hgd hdm hal hoff hown hs hta h)

theorem wpIn_region_floatR {id n r : Nat} {Q : Exit → Act → World → Prop} {a : Act} {w : World} {l : List Oper} (m ta s : Nat) (z : Obj) (om : Oper) (hmo : P.follows .mixedOrders = true) (hnd : noDefer l.toArray = true) (hq : ¬ LetsOut Q) (hB : Region.lexTailB .any l.toArray (m + 1) = true) (hm : l[m]? = some om) (hgd : om.guard = none) (hdm : om.dst = some ta)
    (hal : ∀ (a : Act) (w : World), (execOp a.eval om).run P w = .ok (.value (ptrTo w.heap.size)) (w.alloc z)) (hoff : offDst ta m l = true) (hown : ownDst s (l.take m) = true) (hs : a.tmps.size = s) (hta : a.tmps[ta]? = some undef)
    (h : ∃ af, (∀ w1, Below w.heap.size w w1 → ∀ K : Act → Prop, K af → wpQuiet P l.toArray (fun w' => ∃ x : Later w1, w' = x.w) K (l.take m) a) ∧
      ∀ (b : Nat) (w' : World), w.heap.size ≤ b → Below w.heap.size w w' → w'.heap[b]? = some z → wpList P l.toArray Q (l.drop (m + 1)) (af.put (some ta) (ptrTo b)) w') :
    (Code.region id l.toArray true).wpIn (Fence.wide.inRound r) n P Q a w :=
  wpIn_region_anyR hmo hnd hq (any_float m ta s z om hB hm hgd hdm hal hoff hown hs hta h)
end

end Go.Proofs.YtehafggcncbnkaaGreat
