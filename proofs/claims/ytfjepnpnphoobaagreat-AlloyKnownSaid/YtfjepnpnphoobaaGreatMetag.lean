/- Contracts of the plain functions of porringerref01: fractions, ranges, touches. -/
import Derived.Test.YtfjepnpnphoobaaGreatProg
import Derived.Test.YtfjepnpnphoobaaGreatMetaa
import Derived.Test.YtfjepnpnphoobaaGreatMetaf
import Derived.Test.YtfjepnpnphoobaaGreatMetab
namespace Go.Proofs.YtfjepnpnphoobaaGreat
open Go.RowKit


set_option maxHeartbeats 400000 in
theorem isRange_c (lo hi : Int) (w : World) :
    Calls Tryz.prog 65 #[.agg #[.int .i64 lo, .int .i64 hi]] w fun e w' => e = .returned (.bool (rangeB lo hi)) ∧ Below w.heap.size w w' := by
  by_cases h1 : 0 ≤ lo
  · by_cases h2 : lo ≤ hi
    · by_cases h3 : hi ≤ 1000
      all_goals
        go_enter Tryz.func65, Tryz.ntmps65
        go_wp2
        go_ret
        exact ⟨ret_b (by simp [rangeB]; omega), (Below.refl _ _).alloc (Nat.le_refl _) _⟩
    · go_enter Tryz.func65, Tryz.ntmps65
      go_wp2
      go_ret
      exact ⟨ret_b (by simp [rangeB]; omega), (Below.refl _ _).alloc (Nat.le_refl _) _⟩
  · go_enter Tryz.func65, Tryz.ntmps65
    go_wp2
    go_ret
    exact ⟨ret_b (by simp [rangeB]; omega), (Below.refl _ _).alloc (Nat.le_refl _) _⟩

set_option maxHeartbeats 400000 in
theorem rcheckTouch_c (l c : Int) (w : World) :
    Calls Tryz.prog 26 #[.agg #[.int .i64 l, .int .i64 c]] w fun e w' => e = .returned (.int .i64 (touchE l c)) ∧ Below w.heap.size w w' := by
  by_cases h : l < 0
  · go_enter Tryz.func26, Tryz.ntmps26
    go_wp2
    go_ret
    exact ⟨ret_i (by unfold touchE; rw [if_pos (by omega)]), (Below.refl _ _).alloc (Nat.le_refl _) _⟩
  by_cases h1 : 1000 < l
  · go_enter Tryz.func26, Tryz.ntmps26
    go_wp2
    go_ret
    exact ⟨ret_i (by unfold touchE; rw [if_pos (by omega)]), (Below.refl _ _).alloc (Nat.le_refl _) _⟩
  by_cases h2 : c < 0
  · go_enter Tryz.func26, Tryz.ntmps26
    go_wp2
    go_ret
    exact ⟨ret_i (by unfold touchE; rw [if_pos (by omega)]), (Below.refl _ _).alloc (Nat.le_refl _) _⟩
  by_cases h3 : 1000 < c
  all_goals
    go_enter Tryz.func26, Tryz.ntmps26
    go_wp2
    go_ret
    exact ⟨ret_i (by unfold touchE; first | rw [if_pos (by omega)] | rw [if_neg (by omega)]), (Below.refl _ _).alloc (Nat.le_refl _) _⟩

set_option maxHeartbeats 400000 in
theorem rcheckMetals_c (a : Option Addr) (len cap : Nat) (m : Nat → M5) (w : World) (hm : Metals w a len m) (hl : len ≤ 9223372036854775807) :
    Calls Tryz.prog 24 #[.slice a len cap] w fun e w' => e = .returned (.int .i64 (metalsE len m)) ∧ Below w.heap.size w w' := by
  by_cases h0 : len < 1
  · go_enter Tryz.func24, Tryz.ntmps24
    go_wp2
    go_ret
    exact ⟨ret_i (by unfold metalsE; rw [if_pos (by omega)]), Below.refl _ _⟩
  by_cases h6 : 6 < len
  · go_enter Tryz.func24, Tryz.ntmps24
    go_wp2
    go_ret
    exact ⟨ret_i (by unfold metalsE; rw [if_pos (by omega)]), Below.refl _ _⟩
  go_enter Tryz.func24, Tryz.ntmps24
  go_wp2
  go_loopw [3, 4] (fun i _ wr => ∃ k : Nat, k ≤ len ∧ i = .int .i64 k ∧ anyBad m k = false ∧ Below w.heap.size w wr) (fun i _ _ => len - (intOf i).toNat)
  case atStart => exact ⟨0, Nat.zero_le _, rfl, rfl, Below.refl _ _⟩
  case round =>
    obtain ⟨k, hk, rfl, hbad, hB⟩ := hrel
    have Hb := Lib.hid hbad
    clear hbad
    by_cases hlt : k < len
    · obtain ⟨b, off, rfl, hbs, c0, c1, c2, c3, c4⟩ := Metals.at (hm.below hB) k hlt
      go_wp2
      all_goals try simp only [Bool.not_eq_false', decide_eq_true_eq, Bool.not_eq_true', decide_eq_false_iff_not] at *
      case roundEnd =>
        exact ⟨⟨k + 1, by omega, by go_num, by simp only [anyBad, Hb.out, Bool.false_or]; simp [badB, rangeB]; omega, by repeat (first | exact hB | (refine Below.alloc1 ?_ _ (Nat.le_refl _)))⟩, by simp [intOf]; omega⟩
      all_goals
        go_ret
        exact ⟨ret_i (by unfold metalsE; rw [if_neg (by omega), anyBad_of m k len hlt (by simp [badB, rangeB]; omega)]; rfl), by repeat (first | exact hB | (refine Below.alloc1 ?_ _ (Nat.le_refl _)))⟩
    · go_wp2
      go_ret
      exact ⟨ret_i (by obtain rfl : k = len := by omega
                       unfold metalsE; rw [if_neg (by omega), Hb.out]; rfl), hB⟩

end Go.Proofs.YtfjepnpnphoobaaGreat

namespace Go.Proofs.YtfjepnpnphoobaaGreat
open Go.RowKit

set_option maxHeartbeats 400000 in
theorem by_c (n d : Int) (w : World) (hn : -4611686018427387904 ≤ n) (hn' : n ≤ 4611686018427387904) (hd : 0 < d) (hd' : d ≤ 4611686018427387904) :
    Calls Tryz.prog 48 #[.int .i64 n, .int .i64 d] w fun e w' => e = .returned (ratV n d) ∧ Below w.heap.size w w' := by
  obtain ⟨g0, g1⟩ := gcd_bd n d hd
  unfold ratV ratN ratD
  have hmn : Int.gcd (-n) d = Int.gcd n d := by simp [Int.gcd]
  obtain ⟨g, hG⟩ : ∃ g : Int, (Int.gcd n d : Int) = g := ⟨_, rfl⟩
  rw [hG] at g0 g1 ⊢
  have HG := Lib.hid hG
  clear hG
  by_cases h : 0 ≤ n
  all_goals
    go_enter Tryz.func48, Tryz.ntmps48
    go_wp2_with fail
    refine (common_c _ _ _ (by omega) (by omega) (by omega) (by omega)).mono ?_
    rintro e w' ⟨q, he, rfl⟩
    try rw [hmn] at he
    rw [HG.out] at he
    subst he
    go_wp2_with fail
    go_region
    all_goals
      go_wp2
      refine bodyPost_ret (v := .agg #[.int .i64 (n.tdiv g), .int .i64 (d / g)]) (by simp [results, Tryz.results48, go_sem, Int.tdiv_eq_ediv_of_nonneg, *]) rfl ⟨rfl, ?_⟩
      repeat (first | exact Below.refl _ _ | exact Nat.le_refl _ | (refine Below.setCell ?_ ?_ _) | (refine Below.drew ?_) | (refine below_drewN ?_ _) | (refine Below.alloc1 ?_ _ (Nat.le_refl _)))
end Go.Proofs.YtfjepnpnphoobaaGreat

namespace Go.Proofs.YtfjepnpnphoobaaGreat
open Go.RowKit

set_option maxHeartbeats 400000 in
theorem rboth_c (a : Option Addr) (len cap : Nat) (m : Nat → M5) (l c : Int) (w : World) (hm : Metals w a len m) (hl : len ≤ 9223372036854775807) :
    Calls Tryz.prog 68 #[.slice a len cap, .agg #[.int .i64 l, .int .i64 c]] w fun e w' => e = .returned (.int .i64 (bothE len m l c)) ∧ Below w.heap.size w w' := by
  have hB0 : Below w.heap.size w (w.alloc (.cells #[.int .i64 l, .int .i64 c] 24)) := (Below.refl _ _).alloc (Nat.le_refl _) _
  have hm0 := hm.below hB0
  by_cases h0 : metalsE len m = 0
  · have h0' : (metalsE len m != 0) = false := by simp [h0]
    have H0 := Lib.hid h0
    clear h0
    go_enter Tryz.func68, Tryz.ntmps68
    go_wp2_with fail
    refine (rcheckMetals_c a len cap m _ hm0 hl).mono ?_
    rintro e w1 ⟨rfl, hb⟩
    obtain ⟨hc, hf⟩ := bcell hb
    go_wp2_with fail
    refine (rcheckTouch_c l c _).mono ?_
    rintro e w2 ⟨rfl, hb2⟩
    go_wp2_with fail
    go_ret
    exact ⟨ret_i (by unfold bothE; rw [if_neg (by simp [H0.out])]), bup (bup hB0 hb) hb2⟩
  · have h0' : (metalsE len m != 0) = true := by simp [h0]
    go_enter Tryz.func68, Tryz.ntmps68
    go_wp2_with fail
    refine (rcheckMetals_c a len cap m _ hm0 hl).mono ?_
    rintro e w1 ⟨rfl, hb⟩
    have hm1 := hm0.below hb
    obtain ⟨hc, hf⟩ := bcell hb
    go_wp2_with fail
    refine (rcheckMetals_c a len cap m _ hm1 hl).mono ?_
    rintro e w2 ⟨rfl, hb2⟩
    go_wp2_with fail
    go_ret
    exact ⟨ret_i (by unfold bothE; rw [if_pos h0]), bup (bup hB0 hb) hb2⟩

set_option maxHeartbeats 400000 in
theorem rmix_c (a b : Option Addr) (n cap len cap2 : Nat) (f : Nat → Int) (w : World) (hf : Ints w b len f) (hl : len ≤ 1048576) (hn : n ≤ 1048576) :
    Calls Tryz.prog 60 #[.slice a n cap, .slice b len cap2] w fun e w' => e = .returned (.int .i64 (mixE n len f)) ∧ ∃ q, w' = w.drewN q := by
  by_cases hne : len = n
  · subst hne
    go_enter Tryz.func60, Tryz.ntmps60
    go_wp2
    go_loopw [5] (fun i wr => ∃ k : Nat, k ≤ len ∧ i = .int .i64 k ∧ anyOut f k = false ∧ ∃ q, wr = w.drewN q) (fun i _ => len - (intOf i).toNat)
    case atStart => exact ⟨0, Nat.zero_le _, rfl, rfl, 0, rfl⟩
    case round =>
      obtain ⟨k, hk, rfl, ho, q, rfl⟩ := hrel
      have Ho := Lib.hid ho
      clear ho
      by_cases hlt : k < len
      · obtain ⟨b, off, rfl, hbs, hc⟩ := Cells.at hf k hlt
        have hck := hc k hlt
        clear hc
        by_cases h1 : f k < 0
        · go_wp2
          go_ret
          exact ⟨ret_i (by unfold mixE; rw [if_neg (by simp), anyOut_of f k len hlt (.inl h1)]; rfl), q, rfl⟩
        by_cases h2 : 1000000 < f k
        · have h2' : decide (1000000 < f k) = true := by simpa using h2
          go_wp2
          go_ret
          exact ⟨ret_i (by unfold mixE; rw [if_neg (by simp), anyOut_of f k len hlt (.inr h2)]; rfl), q, rfl⟩
        have h2' : decide (1000000 < f k) = false := by simpa using h2
        go_wp2
        go_roundw
        case rel => exact ⟨k + 1, by omega, by go_num, by simp only [anyOut, Ho.out, Bool.false_or]; simp; omega, q, rfl⟩
        case measure => simp [intOf]; omega
      · obtain rfl : k = len := by omega
        have Hb := anyOut_no f k Ho.out
        by_cases hs : sumF f k = 0
        · have hs' : (sumF f k == 0) = true := by simpa using hs
          have Hs := Lib.hid hs
          clear hs
          go_wp2_with (go_at_call 49; refine (sum_c _ _ _ f _ (hf.drewN q) hl (fun i hi => by have := Hb i hi; omega)).mono ?_; rintro e w' ⟨rfl, rfl⟩)
          go_ret
          exact ⟨ret_i (by unfold mixE; rw [if_neg (by simp), Ho.out]; simp [Hs.out]), q, rfl⟩
        · have hs' : (sumF f k == 0) = false := by simpa using hs
          have Hs := Lib.hid hs
          clear hs
          go_wp2_with (go_at_call 49; refine (sum_c _ _ _ f _ (hf.drewN q) hl (fun i hi => by have := Hb i hi; omega)).mono ?_; rintro e w' ⟨rfl, rfl⟩)
          go_ret
          exact ⟨ret_i (by unfold mixE; rw [if_neg (by simp), Ho.out]; simp [Hs.out]), q, rfl⟩
  · have hne' : ((len : Int) != n) = true := by simp; omega
    go_enter Tryz.func60, Tryz.ntmps60
    go_wp2
    go_ret
    exact ⟨ret_i (by unfold mixE; rw [if_pos hne]), 0, rfl⟩


set_option maxHeartbeats 400000 in
theorem rcostOf_c (a b : Option Addr) (n cap cap2 : Nat) (m : Nat → M5) (f : Nat → Int) (w : World) (hm : Metals w a n m) (hf : Ints w b n f) (hF : Fine n m) (hb : ∀ i, i < n → 0 ≤ f i ∧ f i ≤ 2147483648) (hs : 0 < sumF f n) :
    Calls Tryz.prog 32 #[.slice a n cap, .slice b n cap2] w fun e w' => e = .returned (ratV (priceF m f n) (sumF f n)) ∧ Below w.heap.size w w' := by
  obtain ⟨hn1, hn6, hF⟩ := hF
  have hP : ∀ k, k ≤ n → 0 ≤ priceF m f k ∧ priceF m f k ≤ 2147483648000 * k := fun k hk => sumF_nn _ _ k fun i hi => by
    have h1 := hb i (by omega)
    have h2 := hF i (by omega)
    have := mul_bd h1.1 h1.2 h2.1 h2.2.1
    omega
  have hS := sumF_nn f 2147483648 n hb
  have hPn := hP n (Nat.le_refl _)
  have hB0 : Below w.heap.size w (w.alloc (.cells #[.int .i64 0, .int .i64 0] 29)) := (Below.refl _ _).alloc (Nat.le_refl _) _
  have hm := hm.below hB0
  have hf := hf.below hB0
  go_enter Tryz.func32, Tryz.ntmps32
  go_wp2
  go_loopw [5, 6] (fun s i wr => ∃ k : Nat, k ≤ n ∧ i = .int .i64 k ∧ s = .int .i64 (priceF m f k) ∧ ∃ q, wr = (w.alloc (.cells #[.int .i64 0, .int .i64 0] 29)).drewN q) (fun _ i _ => n - (intOf i).toNat)
  case atStart => exact ⟨0, Nat.zero_le _, rfl, rfl, 0, rfl⟩
  case round =>
    obtain ⟨k, hk, rfl, rfl, q, rfl⟩ := hrel
    have hPk := hP k hk
    by_cases hlt : k < n
    · obtain ⟨bb, bo, rfl, hbs, hc⟩ := Cells.at hf k hlt
      obtain ⟨ab, ao, rfl, has, c0, c1, c2, c3, c4⟩ := Metals.at hm k hlt
      have hck := hc k hlt
      have hPk1 := hP (k + 1) hlt
      have hm1 : 0 ≤ f k * (m k).p ∧ f k * (m k).p ≤ 2147483648 * 1000 := mul_bd (hb k hlt).1 (hb k hlt).2 (hF k hlt).1 (hF k hlt).2.1
      have hw1 : IntKind.i64.wrap (f k * (m k).p) = f k * (m k).p := IntWalk.i64_in _ (by omega)
      have hw2 : IntKind.i64.wrap (priceF m f k + f k * (m k).p) = priceF m f k + f k * (m k).p := IntWalk.i64_in _ (by omega)
      clear hc hb hF hP hm hf
      go_wp2
      go_quiet (fail)
      go_wp2
      go_roundw
      case rel => exact ⟨k + 1, by omega, by go_num, rfl, _, rfl⟩
      case measure => simp [intOf]; omega
    · obtain rfl : k = n := by omega
      go_wp2_with fail
      refine (sum_c _ _ _ f _ (hf.drewN q) (by omega) (fun i hi => by have := hb i hi; omega)).mono ?_
      rintro e w1 ⟨rfl, rfl⟩
      go_wp2_with fail
      refine (by_c _ _ _ (by omega) (by omega) hs (by omega)).mono ?_
      rintro e w1 ⟨rfl, hb1⟩
      obtain ⟨hc, hfr⟩ := bcell hb1
      have hz := hb1.size
      go_wp2_with fail
      refine bodyPost_ret (v := ratV (priceF m f k) (sumF f k)) (by simp [results, Tryz.results32, go_sem, hc]) rfl ⟨rfl, ?_⟩
      exact (bup (below_drewN hB0 q) hb1).setCell (Nat.le_refl _) _ |>.setCell (Nat.le_refl _) _
end Go.Proofs.YtfjepnpnphoobaaGreat

namespace Go.Proofs.YtfjepnpnphoobaaGreat
open Go.RowKit

abbrev metalV (m : M5) : Value := .agg #[.int .i64 m.p, .int .i64 m.l0, .int .i64 m.l1, .int .i64 m.c0, .int .i64 m.c1]

set_option maxHeartbeats 400000 in
theorem rbad_c (m : M5) (s : Bool) (w : World) :
    Calls Tryz.prog 93 #[metalV m, .bool s] w fun e w' => e = .returned (.int .i64 (bad s m)) ∧ Below w.heap.size w w' := by
  cases s
  all_goals
    go_enter Tryz.func93, Tryz.ntmps93
    go_wp2
    go_ret
    exact ⟨rfl, (Below.refl _ _).alloc (Nat.le_refl _) _⟩

set_option maxHeartbeats 400000 in
theorem rgood_c (m : M5) (s : Bool) (w : World) :
    Calls Tryz.prog 94 #[metalV m, .bool s] w fun e w' => e = .returned (.int .i64 (good s m)) ∧ Below w.heap.size w w' := by
  cases s
  all_goals
    go_enter Tryz.func94, Tryz.ntmps94
    go_wp2
    go_ret
    exact ⟨rfl, (Below.refl _ _).alloc (Nat.le_refl _) _⟩

theorem bad_bd {n : Nat} {m : Nat → M5} (h : Fine n m) (s : Bool) (i : Nat) (hi : i < n) : 0 ≤ bad s (m i) ∧ bad s (m i) ≤ 1000 := by
  have := h.2.2 i hi
  cases s <;> simp [bad] <;> omega

theorem good_bd {n : Nat} {m : Nat → M5} (h : Fine n m) (s : Bool) (i : Nat) (hi : i < n) : 0 ≤ good s (m i) ∧ good s (m i) ≤ 1000 := by
  have := h.2.2 i hi
  cases s <;> simp [good] <;> omega

set_option maxHeartbeats 1000000 in
theorem risGood_c (a b : Option Addr) (n cap cap2 : Nat) (m : Nat → M5) (f : Nat → Int) (l c : Int) (s : Bool) (w : World) (hm : Metals w a n m) (hf : Ints w b n f) (hF : Fine n m) (hb : ∀ i, i < n → 0 ≤ f i ∧ f i ≤ 2147483648)
    (ht : 0 ≤ l ∧ l ≤ 1000 ∧ 0 ≤ c ∧ c ≤ 1000) :
    Calls Tryz.prog 69 #[.slice a n cap, .agg #[.int .i64 l, .int .i64 c], .bool s, .slice b n cap2] w fun e w' => e = .returned (.bool (goodB s n m l c f)) ∧ Below w.heap.size w w' := by
  have hn1 := hF.1
  have hn6 := hF.2.1
  have hL : ∀ k, k ≤ n → 0 ≤ leadF s m f k ∧ leadF s m f k ≤ 2147483648000 * k := fun k hk => sumF_nn _ _ k fun i hi => by
    have h1 := hb i (by omega)
    have h2 := bad_bd hF s i (by omega)
    have := mul_bd h1.1 h1.2 h2.1 h2.2
    omega
  have hC : ∀ k, k ≤ n → 0 ≤ copperF s m f k ∧ copperF s m f k ≤ 2147483648000 * k := fun k hk => sumF_nn _ _ k fun i hi => by
    have h1 := hb i (by omega)
    have h2 := good_bd hF s i (by omega)
    have := mul_bd h1.1 h1.2 h2.1 h2.2
    omega
  have hS := sumF_nn f 2147483648 n hb
  have hB0 : Below w.heap.size w (w.alloc (.cells #[.int .i64 l, .int .i64 c] 24)) := (Below.refl _ _).alloc (Nat.le_refl _) _
  have hm := hm.below hB0
  have hf := hf.below hB0
  go_enter Tryz.func69, Tryz.ntmps69
  go_wp2
  obtain ⟨w0, hw0⟩ : ∃ w0, w.alloc (.cells #[.int .i64 l, .int .i64 c] 24) = w0 := ⟨_, rfl⟩
  have hz0 : w.heap.size < w0.heap.size := by rw [← hw0]; simp
  have ht0 : w0.cell? ⟨w.heap.size, 0, none⟩ = some (.int .i64 l) := by rw [← hw0]; simp
  have ht1 : w0.cell? ⟨w.heap.size, 1, none⟩ = some (.int .i64 c) := by rw [← hw0]; simp
  rw [hw0] at hB0 hm hf ⊢
  clear hw0
  go_loopw [9, 10, 11] (fun x y i wr => ∃ k : Nat, k ≤ n ∧ i = .int .i64 k ∧ x = .int .i64 (leadF s m f k) ∧ y = .int .i64 (copperF s m f k) ∧ Below w0.heap.size w0 wr) (fun _ _ i _ => n - (intOf i).toNat)
  case atStart => exact ⟨0, Nat.zero_le _, rfl, rfl, rfl, Below.refl _ _⟩
  case round =>
    obtain ⟨k, hk, rfl, rfl, rfl, hB⟩ := hrel
    have hLk := hL k hk
    have hCk := hC k hk
    by_cases hlt : k < n
    · obtain ⟨bb, bo, rfl, hbs, hc⟩ := Cells.at (hf.below hB) k hlt
      obtain ⟨ab, ao, rfl, has, c0, c1, c2, c3, c4⟩ := Metals.at (hm.below hB) k hlt
      have hck := hc k hlt
      have hLk1 := hL (k + 1) hlt
      have hCk1 := hC (k + 1) hlt
      have hm1 := mul_bd (hb k hlt).1 (hb k hlt).2 (bad_bd hF s k hlt).1 (bad_bd hF s k hlt).2
      have hm2 := mul_bd (hb k hlt).1 (hb k hlt).2 (good_bd hF s k hlt).1 (good_bd hF s k hlt).2
      have hw1 : IntKind.i64.wrap (f k * bad s (m k)) = f k * bad s (m k) := IntWalk.i64_in _ (by omega)
      have hw2 : IntKind.i64.wrap (leadF s m f k + f k * bad s (m k)) = leadF s m f k + f k * bad s (m k) := IntWalk.i64_in _ (by omega)
      have hw3 : IntKind.i64.wrap (f k * good s (m k)) = f k * good s (m k) := IntWalk.i64_in _ (by omega)
      have hw4 : IntKind.i64.wrap (copperF s m f k + f k * good s (m k)) = copperF s m f k + f k * good s (m k) := IntWalk.i64_in _ (by omega)
      clear hc hb hF hL hC hm hf ht0 ht1
      have hlc := fun (x : Later wr) => later_cell x
      go_wp2
      refine wp_region_later (by kernel_rfl) (by kernel_rfl) ?_
      repeat (go_big_quiet_step ((refine calls_later (rbad_c (m k) s _))))
      refine wpQuiet_nil ?_
      clear hlc
      rintro ⟨w1, hb1⟩
      have hbs1 := Nat.lt_of_lt_of_le hbs hb1.size
      have has1 := Nat.lt_of_lt_of_le has hb1.size
      obtain ⟨hcc, hff⟩ := bcell hb1
      go_wp2
      have hck1 := (hcc _ _ hbs).trans hck
      have hc0 := (hcc _ _ has).trans c0
      have hc1 := (hcc _ _ has).trans c1
      have hc2 := (hcc _ _ has).trans c2
      have hc3 := (hcc _ _ has).trans c3
      have hc4 := (hcc _ _ has).trans c4
      clear hcc hff
      have hlc := fun (x : Later w1) => later_cell x
      refine wp_region_later (by kernel_rfl) (by kernel_rfl) ?_
      repeat (go_big_quiet_step ((refine calls_later (rgood_c (m k) s _))))
      refine wpQuiet_nil ?_
      clear hlc
      rintro ⟨w2, hb2⟩
      go_wp2
      go_roundw
      case rel => exact ⟨k + 1, by omega, by go_num, rfl, rfl, bup (bup hB hb1) hb2⟩
      case measure => simp [intOf]; omega
    · obtain rfl : k = n := by omega
      obtain ⟨hcc, hff⟩ := bcell hB
      have hq0 := (hcc _ _ hz0).trans ht0
      have hq1 := (hcc _ _ hz0).trans ht1
      clear hcc hff
      have hzz := Nat.lt_of_lt_of_le hz0 hB.size
      have hm1 := mul_bd ht.1 ht.2.1 hS.1 hS.2
      have hm2 := mul_bd ht.2.2.1 ht.2.2.2 hS.1 hS.2
      have hw1 : IntKind.i64.wrap (l * sumF f k) = l * sumF f k := IntWalk.i64_in _ (by omega)
      have hw2 : IntKind.i64.wrap (c * sumF f k) = c * sumF f k := IntWalk.i64_in _ (by omega)
      have hfk := hf.below hB
      have hb' : ∀ i, i < k → -1099511627776 ≤ f i ∧ f i ≤ 1099511627776 := fun i hi => by have := hb i hi; omega
      have hsum := fun (x : Later wr) => sum_c b k cap2 f x.w (hfk.below x.h) (by omega) hb'
      have HS := Lib.hid hsum
      by_cases h1 : leadF s m f k ≤ l * sumF f k
      · have h1' : decide (leadF s m f k ≤ l * sumF f k) = true := by simpa using h1
        clear hb hF hL hC hm hf hb' hfk hsum ht0 ht1
        have hlc := fun (x : Later wr) => later_cell x
        go_wp2
        refine wp_region_later (by kernel_rfl) (by kernel_rfl) ?_
        repeat (go_big_quiet_step ((refine calls_later_same (HS.out _))))
        refine wpQuiet_nil ?_
        clear hlc
        rintro ⟨w2, hb2⟩
        go_wp2
        go_ret
        exact ⟨ret_b (by unfold goodB; rw [Bool.eq_iff_iff]; simp; omega), (hB0.trans (hB.mono (Nat.le_of_lt hz0))).trans (hb2.mono (Nat.le_of_lt hzz))⟩
      · have h1' : decide (leadF s m f k ≤ l * sumF f k) = false := by simpa using h1
        clear hb hF hL hC hm hf hb' hfk hsum ht0 ht1
        have hlc := fun (x : Later wr) => later_cell x
        go_wp2
        refine wp_region_later (by kernel_rfl) (by kernel_rfl) ?_
        repeat (go_big_quiet_step ((refine calls_later_same (HS.out _))))
        refine wpQuiet_nil ?_
        clear hlc
        rintro ⟨w2, hb2⟩
        go_wp2
        go_ret
        exact ⟨ret_b (by unfold goodB; rw [Bool.eq_iff_iff]; simp; omega), (hB0.trans (hB.mono (Nat.le_of_lt hz0))).trans (hb2.mono (Nat.le_of_lt hzz))⟩

end Go.Proofs.YtfjepnpnphoobaaGreat

namespace Go.Proofs.YtfjepnpnphoobaaGreat
open Go.RowKit

set_option maxHeartbeats 1000000 in
theorem rcost_c (a b : Option Addr) (n cap len cap2 : Nat) (m : Nat → M5) (f : Nat → Int) (w : World) (hm : Metals w a n m) (hf : Ints w b len f) (hn : n ≤ 1048576) (hl : len ≤ 1048576) :
    Calls Tryz.prog 20 #[.slice a n cap, .slice b len cap2] w fun e w' => e = .returned (re2 (costR n m len f)) ∧ Below w.heap.size w w' := by
  have hB0 : Below w.heap.size w (w.alloc (.cells #[.int .i64 0, .int .i64 0] 29)) := (Below.refl _ _).alloc (Nat.le_refl _) _
  have hm0 := hm.below hB0
  have hf0 := hf.below hB0
  clear hm hf
  by_cases h0 : metalsE n m = 0
  · have h0' : (metalsE n m != 0) = false := by simp [h0]
    have H0 := Lib.hid h0
    clear h0
    by_cases h1 : mixE n len f = 0
    · have h1' : (mixE n len f != 0) = false := by simp [h1]
      have H1 := Lib.hid h1
      obtain ⟨e, hfb, hs⟩ := mix_ok h1
      subst e
      clear h1
      go_enter Tryz.func20, Tryz.ntmps20
      go_wp2_with fail
      refine (rcheckMetals_c a len cap m _ hm0 (by omega)).mono ?_
      rintro e w1 ⟨rfl, hb1⟩
      go_wp2_with fail
      refine (rmix_c a b len cap len cap2 f _ (hf0.below hb1) (by omega) (by omega)).mono ?_
      rintro e w2 ⟨rfl, q, rfl⟩
      go_wp2_with fail
      refine (rcostOf_c a b len cap cap2 m f _ ((hm0.below hb1).drewN q) (Cells.drewN (hf0.below hb1) q) (fine_of H0.out) (fun i hi => by have := hfb i hi; omega) hs).mono ?_
      rintro e w3 ⟨rfl, hb3⟩
      have hb13 := bup (below_drewN hb1 q) hb3
      obtain ⟨hc, hff⟩ := bcell hb13
      have hz := hb13.size
      go_wp2_with fail
      have ev : costR len m len f = (ratN (priceF m f len) (sumF f len), ratD (priceF m f len) (sumF f len), 0) := by
        unfold costR; rw [if_neg (by simp [H0.out]), if_neg (by simp [H1.out])]
      rw [ev]
      refine bodyPost_ret (v := re2 (ratN (priceF m f len) (sumF f len), ratD (priceF m f len) (sumF f len), 0)) (by simp [results, Tryz.results20, go_sem, hc]) rfl ⟨rfl, ?_⟩
      exact (bup hB0 hb13).setCell (Nat.le_refl _) _ |>.setCell (Nat.le_refl _) _
    · have h1' : (mixE n len f != 0) = true := by simp [h1]
      have H1 := Lib.hid h1
      clear h1
      go_enter Tryz.func20, Tryz.ntmps20
      go_wp2_with fail
      refine (rcheckMetals_c a n cap m _ hm0 (by omega)).mono ?_
      rintro e w1 ⟨rfl, hb1⟩
      go_wp2_with fail
      refine (rmix_c a b n cap len cap2 f _ (hf0.below hb1) (by omega) (by omega)).mono ?_
      rintro e w2 ⟨rfl, q, rfl⟩
      go_wp2_with fail
      refine (rmix_c a b n cap len cap2 f _ (Cells.drewN (hf0.below hb1) q) (by omega) (by omega)).mono ?_
      rintro e w2 ⟨rfl, q2, rfl⟩
      obtain ⟨hc, hff⟩ := bcell hb1
      have hz := hb1.size
      go_wp2_with fail
      have ev : costR n m len f = (0, 0, mixE n len f) := by
        unfold costR; rw [if_neg (by simp [H0.out]), if_pos H1.out]
      rw [ev]
      refine bodyPost_ret (v := re2 (0, 0, mixE n len f)) (by simp [results, Tryz.results20, go_sem, hc]) rfl ⟨rfl, ?_⟩
      exact below_drewN ((bup hB0 hb1).setCell (Nat.le_refl _) _ |>.setCell (Nat.le_refl _) _) _
  · have h0' : (metalsE n m != 0) = true := by simp [h0]
    have H0 := Lib.hid h0
    clear h0
    go_enter Tryz.func20, Tryz.ntmps20
    go_wp2_with fail
    refine (rcheckMetals_c a n cap m _ hm0 (by omega)).mono ?_
    rintro e w1 ⟨rfl, hb1⟩
    go_wp2_with fail
    refine (rcheckMetals_c a n cap m _ (hm0.below hb1) (by omega)).mono ?_
    rintro e w2 ⟨rfl, hb2⟩
    have hb12 := bup hb1 hb2
    obtain ⟨hc, hff⟩ := bcell hb12
    have hz := hb12.size
    go_wp2_with fail
    have ev : costR n m len f = (0, 0, metalsE n m) := by unfold costR; rw [if_pos H0.out]
    rw [ev]
    refine bodyPost_ret (v := re2 (0, 0, metalsE n m)) (by simp [results, Tryz.results20, go_sem, hc]) rfl ⟨rfl, ?_⟩
    exact (bup hB0 hb12).setCell (Nat.le_refl _) _ |>.setCell (Nat.le_refl _) _

set_option maxHeartbeats 1000000 in
theorem rdeserves_c (a b : Option Addr) (n cap len cap2 : Nat) (m : Nat → M5) (f : Nat → Int) (l c : Int) (s : Bool) (w : World) (hm : Metals w a n m) (hf : Ints w b len f) (hn : n ≤ 1048576) (hl : len ≤ 1048576) :
    Calls Tryz.prog 28 #[.slice a n cap, .agg #[.int .i64 l, .int .i64 c], .bool s, .slice b len cap2] w fun e w' => e = .returned (.int .i64 (deservesE n m l c s len f)) ∧ Below w.heap.size w w' := by
  have hB0 : Below w.heap.size w (w.alloc (.cells #[.int .i64 l, .int .i64 c] 24)) := (Below.refl _ _).alloc (Nat.le_refl _) _
  have hm0 := hm.below hB0
  have hf0 := hf.below hB0
  clear hm hf
  by_cases h0 : bothE n m l c = 0
  · have h0' : (bothE n m l c != 0) = false := by simp [h0]
    obtain ⟨hM, ht⟩ := both_ok h0
    have H0 := Lib.hid h0
    have HM := Lib.hid hM
    clear hM
    clear h0
    by_cases h1 : mixE n len f = 0
    · have h1' : (mixE n len f != 0) = false := by simp [h1]
      have H1 := Lib.hid h1
      obtain ⟨e, hfb, hs⟩ := mix_ok h1
      subst e
      clear h1
      have Hfb := Lib.hid hfb
      clear hfb
      by_cases h2 : goodB s len m l c f = true
      all_goals
        go_enter Tryz.func28, Tryz.ntmps28
        go_wp2_with fail
        refine (rboth_c a len cap m l c _ hm0 (by omega)).mono ?_
        rintro e w1 ⟨rfl, hb1⟩
        go_wp2_with fail
        refine (rmix_c a b len cap len cap2 f _ (hf0.below hb1) (by omega) (by omega)).mono ?_
        rintro e w2 ⟨rfl, q, rfl⟩
        obtain ⟨hc, hff⟩ := bcell hb1
        have hz := hb1.size
        go_wp2_with fail
        refine (risGood_c a b len cap cap2 m f l c s _ ((hm0.below hb1).drewN q) (Cells.drewN (hf0.below hb1) q) (fine_of HM.out) (fun i hi => by have := Hfb.out i hi; omega) ht).mono ?_
        rintro e w3 ⟨rfl, hb3⟩
        go_wp2_with fail
        go_ret
        exact ⟨ret_i (by unfold deservesE; rw [if_neg (by simp [H0.out]), if_neg (by simp [H1.out])]; simp [h2]), bup (below_drewN (bup hB0 hb1) q) hb3⟩
    · have h1' : (mixE n len f != 0) = true := by simp [h1]
      have H1 := Lib.hid h1
      clear h1
      go_enter Tryz.func28, Tryz.ntmps28
      go_wp2_with fail
      refine (rboth_c a n cap m l c _ hm0 (by omega)).mono ?_
      rintro e w1 ⟨rfl, hb1⟩
      go_wp2_with fail
      refine (rmix_c a b n cap len cap2 f _ (hf0.below hb1) (by omega) (by omega)).mono ?_
      rintro e w2 ⟨rfl, q, rfl⟩
      go_wp2_with fail
      refine (rmix_c a b n cap len cap2 f _ (Cells.drewN (hf0.below hb1) q) (by omega) (by omega)).mono ?_
      rintro e w2 ⟨rfl, q2, rfl⟩
      go_wp2_with fail
      go_ret
      exact ⟨ret_i (by unfold deservesE; rw [if_neg (by simp [H0.out]), if_pos H1.out]), below_drewN (bup hB0 hb1) _⟩
  · have h0' : (bothE n m l c != 0) = true := by simp [h0]
    have H0 := Lib.hid h0
    clear h0
    go_enter Tryz.func28, Tryz.ntmps28
    go_wp2_with fail
    refine (rboth_c a n cap m l c _ hm0 (by omega)).mono ?_
    rintro e w1 ⟨rfl, hb1⟩
    obtain ⟨hc, hff⟩ := bcell hb1
    have hz := hb1.size
    go_wp2_with fail
    refine (rboth_c a n cap m l c _ (hm0.below hb1) (by omega)).mono ?_
    rintro e w2 ⟨rfl, hb2⟩
    go_wp2_with fail
    go_ret
    exact ⟨ret_i (by unfold deservesE; rw [if_pos H0.out]), bup (bup hB0 hb1) hb2⟩

end Go.Proofs.YtfjepnpnphoobaaGreat

namespace Go.Proofs.YtfjepnpnphoobaaGreat
open Go.RowKit

set_option maxRecDepth 100000 in
set_option maxHeartbeats 4000000 in
theorem rEnds_c (a b : Option Addr) (n cap len cap2 : Nat) (m : Nat → M5) (f : Nat → Int) (copper : Bool) (w : World) (hm : Metals w a n m) (hf : Ints w b len f) (hn : n ≤ 1048576) (hl : len ≤ 1048576) :
    Calls Tryz.prog 22 #[.slice a n cap, .slice b len cap2, .bool copper] w fun e w' => e = .returned (re3 (endsR n m len f copper)) ∧ Below w.heap.size w w' := by
  obtain ⟨W, hW⟩ : ∃ W, (w.alloc (.cells #[.int .i64 0, .int .i64 0] 29)).alloc (.cells #[.int .i64 0, .int .i64 0] 29) = W := ⟨_, rfl⟩
  have hB0 : Below w.heap.size w W := by rw [← hW]; exact ((Below.refl _ _).alloc (Nat.le_refl _) _).alloc (by simp) _
  have hr0 : RowIs W w.heap.size #[.int .i64 0, .int .i64 0] 29 := by rw [← hW]; exact RowIs.alloc (heap_new_at _ _ _ rfl) _
  have hr1 : RowIs W (w.heap.size + 1) #[.int .i64 0, .int .i64 0] 29 := by rw [← hW]; exact heap_new_at _ _ _ (by simp)
  have hWs : w.heap.size + 1 < W.heap.size := (Array.getElem?_eq_some_iff.1 hr1).1
  have hm0 := hm.below hB0
  have hf0 := hf.below hB0
  have HR0 := Lib.hid hr0
  have HR1 := Lib.hid hr1
  clear hm hf hr0 hr1
  by_cases h0 : metalsE n m = 0
  · have h0' : (metalsE n m != 0) = false := by simp [h0]
    have H0 := Lib.hid h0
    by_cases h1 : mixE n len f = 0
    · have h1' : (mixE n len f != 0) = false := by simp [h1]
      obtain ⟨e, hfb, hs⟩ := mix_ok h1
      subst e
      have hFine := fine_of h0
      have ev : endsR len m len f copper = ((ratN (lowF copper m f len) (sumF f len), ratD (lowF copper m f len) (sumF f len)), (ratN (highF copper m f len) (sumF f len), ratD (highF copper m f len) (sumF f len)), 0) := by
        unfold endsR; rw [if_neg (by simp [h0]), if_neg (by simp [h1])]
      rw [ev]
      have hn6 := hFine.2.1
      have hL : ∀ k, k ≤ len → 0 ≤ lowF copper m f k ∧ lowF copper m f k ≤ 1000000000 * k := fun k hk => sumF_nn _ _ k fun i hi => by
        have h1 := hfb i (by omega)
        have h2 := (ends_bd hFine copper i (by omega)).1
        have := mul_bd h1.1 h1.2 h2.1 h2.2
        omega
      have hH : ∀ k, k ≤ len → 0 ≤ highF copper m f k ∧ highF copper m f k ≤ 1000000000 * k := fun k hk => sumF_nn _ _ k fun i hi => by
        have h1 := hfb i (by omega)
        have h2 := (ends_bd hFine copper i (by omega)).2
        have := mul_bd h1.1 h1.2 h2.1 h2.2
        omega
      have hS := sumF_nn f 1000000 len hfb
      have H1 := Lib.hid h1
      clear h1 ev h0
      go_enter Tryz.func22, Tryz.ntmps22
      go_wp2_with fail
      refine (rcheckMetals_c a len cap m _ hm0 (by omega)).mono ?_
      rintro e w1 ⟨rfl, hb1⟩
      go_wp2_with fail
      refine (rmix_c a b len cap len cap2 f _ (hf0.below hb1) (by omega) (by omega)).mono ?_
      rintro e w2 ⟨rfl, q, rfl⟩
      have hbq := below_drewN hb1 q
      go_wp2_with fail
      go_loopw [9, 10, 11] (fun x y i wr => ∃ k : Nat, k ≤ len ∧ i = .int .i64 k ∧ x = .int .i64 (lowF copper m f k) ∧ y = .int .i64 (highF copper m f k) ∧ Below W.heap.size W wr) (fun _ _ i _ => len - (intOf i).toNat)
      case atStart => exact ⟨0, Nat.zero_le _, rfl, rfl, rfl, hbq⟩
      case round =>
        obtain ⟨k, hk, rfl, rfl, rfl, hB⟩ := hrel
        have hLk := hL k hk
        have hHk := hH k hk
        by_cases hlt : k < len
        · obtain ⟨bb, bo, rfl, hbs, hc⟩ := Cells.at (hf0.below hB) k hlt
          obtain ⟨ab, ao, rfl, has, c0, c1, c2, c3, c4⟩ := Metals.at (hm0.below hB) k hlt
          have hck := hc k hlt
          have hLk1 := hL (k + 1) hlt
          have hHk1 := hH (k + 1) hlt
          have hfk := hfb k hlt
          have hek := ends_bd hFine copper k hlt
          have hm1 := mul_bd hfk.1 hfk.2 hek.1.1 hek.1.2
          have hm2 := mul_bd hfk.1 hfk.2 hek.2.1 hek.2.2
          have hw1 : IntKind.i64.wrap (f k * loOf copper (m k)) = f k * loOf copper (m k) := IntWalk.i64_in _ (by omega)
          have hw2 : IntKind.i64.wrap (lowF copper m f k + f k * loOf copper (m k)) = lowF copper m f k + f k * loOf copper (m k) := IntWalk.i64_in _ (by omega)
          have hw3 : IntKind.i64.wrap (f k * hiOf copper (m k)) = f k * hiOf copper (m k) := IntWalk.i64_in _ (by omega)
          have hw4 : IntKind.i64.wrap (highF copper m f k + f k * hiOf copper (m k)) = highF copper m f k + f k * hiOf copper (m k) := IntWalk.i64_in _ (by omega)
          clear hc hb1 hbq hL hH hm0 hf0 hLk1 hHk1 hfb hFine
          cases copper
          all_goals
            simp only [loOf, hiOf, Bool.false_eq_true, if_false, if_true] at hw1 hw2 hw3 hw4
            go_wp2
            go_quiet (fail)
            go_wp2
            go_roundw
            case rel => exact ⟨k + 1, by omega, by go_num, rfl, rfl, by repeat (first | with_reducible exact hB | refine below_drewN ?_ _ | refine Below.setCell ?_ hB.size _ | refine Below.alloc1 ?_ _ (Nat.le_refl _))⟩
            case measure => simp [intOf]; omega
        · obtain rfl : k = len := by omega
          have hLn := hL k (Nat.le_refl _)
          have hHn := hH k (Nat.le_refl _)
          have hb' : ∀ i, i < k → -1099511627776 ≤ f i ∧ f i ≤ 1099511627776 := fun i hi => by have := hfb i hi; omega
          clear hb1 hbq hL hH hm0 hfb hFine
          go_wp2_with fail
          refine (sum_c b k cap2 f _ (hf0.below hB) (by omega) hb').mono ?_
          rintro e w3 ⟨rfl, rfl⟩
          go_wp2_with fail
          refine (by_c _ _ _ (by omega) (by omega) hs (by omega)).mono ?_
          rintro e w4 ⟨rfl, hb4⟩
          have hB4 := bup hB hb4
          go_wp2_with fail
          refine (sum_c b k cap2 f _ (hf0.below hB4) (by omega) hb').mono ?_
          rintro e w5 ⟨rfl, rfl⟩
          go_wp2_with fail
          refine (by_c _ _ _ (by omega) (by omega) hs (by omega)).mono ?_
          rintro e w6 ⟨rfl, hb6⟩
          have hB6 := bup hB4 hb6
          have hq0 : RowIs w6 w.heap.size #[.int .i64 0, .int .i64 0] 29 := (hB6.block _ (by omega)).trans HR0.out
          have hq1 : RowIs w6 (w.heap.size + 1) #[.int .i64 0, .int .i64 0] 29 := (hB6.block _ (by omega)).trans HR1.out
          have r0 := hq0.cell 0
          have r1 := hq0.cell 1
          have r2 := hq1.cell 0
          have r3 := hq1.cell 1
          have z0 := hq0.frozen 0
          have z1 := hq0.frozen 1
          have z2 := hq1.frozen 0
          have z3 := hq1.frozen 1
          simp at r0 r1 r2 r3
          clear hq0 hq1
          go_wp2_with fail
          refine bodyPost_ret (v := re3 ((ratN (lowF copper m f k) (sumF f k), ratD (lowF copper m f k) (sumF f k)), (ratN (highF copper m f k) (sumF f k), ratD (highF copper m f k) (sumF f k)), 0)) (by simp [results, Tryz.results22, go_sem, r0, r1, r2, r3]) rfl ⟨rfl, ?_⟩
          exact ((((bup hB0 hB6).setCell (p := ⟨w.heap.size, 0, none⟩) (Nat.le_refl _) _).setCell (p := ⟨w.heap.size, 1, none⟩) (Nat.le_refl _) _).setCell (p := ⟨w.heap.size + 1, 0, none⟩) (Nat.le_succ _) _).setCell (p := ⟨w.heap.size + 1, 1, none⟩) (Nat.le_succ _) _
    · have h1' : (mixE n len f != 0) = true := by simp [h1]
      have ev : endsR n m len f copper = ((0, 0), (0, 0), mixE n len f) := by
        unfold endsR; rw [if_neg (by simp [h0]), if_pos h1]
      rw [ev]
      clear h1 ev h0
      go_enter Tryz.func22, Tryz.ntmps22
      go_wp2_with fail
      refine (rcheckMetals_c a n cap m _ hm0 (by omega)).mono ?_
      rintro e w1 ⟨rfl, hb1⟩
      go_wp2_with fail
      refine (rmix_c a b n cap len cap2 f _ (hf0.below hb1) (by omega) (by omega)).mono ?_
      rintro e w2 ⟨rfl, q, rfl⟩
      have hbq := below_drewN hb1 q
      go_wp2_with fail
      refine (rmix_c a b n cap len cap2 f _ (hf0.below hbq) (by omega) (by omega)).mono ?_
      rintro e w2 ⟨rfl, q2, rfl⟩
      have hq0 : RowIs w1 w.heap.size #[.int .i64 0, .int .i64 0] 29 := (hb1.block _ (by omega)).trans HR0.out
      have hq1 : RowIs w1 (w.heap.size + 1) #[.int .i64 0, .int .i64 0] 29 := (hb1.block _ (by omega)).trans HR1.out
      have r0 := hq0.cell 0
      have r1 := hq0.cell 1
      have r2 := hq1.cell 0
      have r3 := hq1.cell 1
      have z0 := hq0.frozen 0
      have z1 := hq0.frozen 1
      have z2 := hq1.frozen 0
      have z3 := hq1.frozen 1
      simp at r0 r1 r2 r3
      clear hq0 hq1
      go_wp2_with fail
      refine bodyPost_ret (v := re3 ((0, 0), (0, 0), mixE n len f)) (by simp [results, Tryz.results22, go_sem, r0, r1, r2, r3]) rfl ⟨rfl, ?_⟩
      exact ((((bup hB0 (below_drewN hb1 _)).setCell (p := ⟨w.heap.size, 0, none⟩) (Nat.le_refl _) _).setCell (p := ⟨w.heap.size, 1, none⟩) (Nat.le_refl _) _).setCell (p := ⟨w.heap.size + 1, 0, none⟩) (Nat.le_succ _) _).setCell (p := ⟨w.heap.size + 1, 1, none⟩) (Nat.le_succ _) _
  · have h0' : (metalsE n m != 0) = true := by simp [h0]
    have ev : endsR n m len f copper = ((0, 0), (0, 0), metalsE n m) := by unfold endsR; rw [if_pos h0]
    rw [ev]
    clear h0 ev
    go_enter Tryz.func22, Tryz.ntmps22
    go_wp2_with fail
    refine (rcheckMetals_c a n cap m _ hm0 (by omega)).mono ?_
    rintro e w1 ⟨rfl, hb1⟩
    go_wp2_with fail
    refine (rcheckMetals_c a n cap m _ (hm0.below hb1) (by omega)).mono ?_
    rintro e w2 ⟨rfl, hb2⟩
    have hb12 := bup hb1 hb2
    have hq0 : RowIs w2 w.heap.size #[.int .i64 0, .int .i64 0] 29 := (hb12.block _ (by omega)).trans HR0.out
    have hq1 : RowIs w2 (w.heap.size + 1) #[.int .i64 0, .int .i64 0] 29 := (hb12.block _ (by omega)).trans HR1.out
    have r0 := hq0.cell 0
    have r1 := hq0.cell 1
    have r2 := hq1.cell 0
    have r3 := hq1.cell 1
    have z0 := hq0.frozen 0
    have z1 := hq0.frozen 1
    have z2 := hq1.frozen 0
    have z3 := hq1.frozen 1
    simp at r0 r1 r2 r3
    clear hq0 hq1
    go_wp2_with fail
    refine bodyPost_ret (v := re3 ((0, 0), (0, 0), metalsE n m)) (by simp [results, Tryz.results22, go_sem, r0, r1, r2, r3]) rfl ⟨rfl, ?_⟩
    exact ((((bup hB0 hb12).setCell (p := ⟨w.heap.size, 0, none⟩) (Nat.le_refl _) _).setCell (p := ⟨w.heap.size, 1, none⟩) (Nat.le_refl _) _).setCell (p := ⟨w.heap.size + 1, 0, none⟩) (Nat.le_succ _) _).setCell (p := ⟨w.heap.size + 1, 1, none⟩) (Nat.le_succ _) _

end Go.Proofs.YtfjepnpnphoobaaGreat
