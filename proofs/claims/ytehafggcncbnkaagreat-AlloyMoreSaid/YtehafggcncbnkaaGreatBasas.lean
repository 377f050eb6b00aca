/- Plain mathematics: the mixtures that the laws make by numbers, multiplied and poured together. It uses nothing of the program but words. -/
import Derived.Test.YtehafggcncbnkaaGreatBasaa
import Derived.Test.YtehafggcncbnkaaGreatBasae
import Derived.Test.YtehafggcncbnkaaGreatBasaf
import Derived.Test.YtehafggcncbnkaaGreatBasai
import Derived.Test.YtehafggcncbnkaaGreatBasar
import Derived.WalkKit
import Derived.Test.YtehafggcncbnkaaGreatProg
import Derived.Test.YtehafggcncbnkaaGreatBasak
import Derived.Test.YtehafggcncbnkaaGreatBasag
import Derived.Test.YtehafggcncbnkaaGreatBasad
import Derived.Test.YtehafggcncbnkaaGreatBasaq
namespace Go.Proofs.YtehafggcncbnkaaGreat
open Go Go.RowKit

/-- Numbers taken round, as many as are wanted. -/
def mixG (len : Nat) (f : Nat → Int) (i : Nat) : Int := if 0 < len then f (i % len) else 0
def mixedF (n len : Nat) (f : Nat → Int) : Nat → Int := if sumF (mixG len f) n = 0 then upd (mixG len f) 0 1 else mixG len f

theorem mixG_bd {len : Nat} {f : Nat → Int} {B : Int} (hB : 0 ≤ B) (hf : ∀ i, i < len → 0 ≤ f i ∧ f i ≤ B) (i : Nat) : 0 ≤ mixG len f i ∧ mixG len f i ≤ B := by
  unfold mixG
  split
  · exact hf _ (Nat.mod_lt _ ‹_›)
  · exact ⟨Int.le_refl _, hB⟩
theorem sumZ_all {f : Nat → Int} : ∀ {n : Nat}, (∀ i, i < n → 0 ≤ f i) → sumF f n = 0 → ∀ i, i < n → f i = 0
  | 0, _, _, _, h => absurd h (Nat.not_lt_zero _)
  | n + 1, h0, h, i, hi => by
    have h1 : sumF f n + f n = 0 := h
    have h2 := sumF_nonneg (f := f) (n := n) fun i hi => h0 i (by omega)
    have h3 := h0 n (by omega)
    by_cases e : i = n
    · subst e; omega
    · exact sumZ_all (n := n) (fun i hi => h0 i (by omega)) (by omega) i (by omega)
theorem mixed_bd {n len : Nat} {f : Nat → Int} {B : Int} (hB : 1 ≤ B) (hf : ∀ i, i < len → 0 ≤ f i ∧ f i ≤ B) (i : Nat) : 0 ≤ mixedF n len f i ∧ mixedF n len f i ≤ B := by
  have hg := mixG_bd (by omega) hf i
  unfold mixedF
  split
  · unfold upd
    split
    · omega
    · exact hg
  · exact hg
theorem mixed_pos {n len : Nat} {f : Nat → Int} {B : Int} (hn : 1 ≤ n) (hB : 0 ≤ B) (hf : ∀ i, i < len → 0 ≤ f i ∧ f i ≤ B) : 0 < sumF (mixedF n len f) n := by
  have hg := mixG_bd hB hf
  unfold mixedF
  split
  · rename_i h
    have hz := sumZ_all (fun i _ => (hg i).1) h
    rw [sumF_one (k := 0) (by omega) fun i hi hne => by unfold upd; rw [if_neg hne]; exact hz i hi]
    simp [upd]
  · rename_i h
    have := sumF_nonneg (f := mixG len f) (n := n) fun i _ => (hg i).1
    omega

/-- Parts that are in range, not all 0. -/
theorem mix_fine {n : Nat} {f : Nat → Int} (h : ∀ i, i < n → 0 ≤ f i ∧ f i ≤ 1000000) (hp : 0 < sumF f n) : mixE n n f = 0 := by
  have h1 : ∀ k, k ≤ n → anyOut f k = false := by
    intro k
    induction k with
    | zero => intro _; rfl
    | succ k ih =>
      intro hk
      unfold anyOut
      rw [ih (by omega), decide_eq_false (by have := h k (by omega); omega)]
      rfl
  unfold mixE
  rw [if_neg (by simp), h1 n (Nat.le_refl _), if_neg (by simp), if_neg (by omega)]

theorem cost_of {n : Nat} {m : Nat → M5} {f : Nat → Int} (hM : metalsE n m = 0) (h : ∀ i, i < n → 0 ≤ f i ∧ f i ≤ 1000000) (hp : 0 < sumF f n) : costR n m n f = (ratN (priceF m f n) (sumF f n), ratD (priceF m f n) (sumF f n), 0) := by
  unfold costR
  rw [mix_fine h hp, hM]
  rfl
theorem deserves_of {n : Nat} {m : Nat → M5} {f : Nat → Int} {l c : Int} {s : Bool} (hb : bothE n m l c = 0) (h : ∀ i, i < n → 0 ≤ f i ∧ f i ≤ 1000000) (hp : 0 < sumF f n) : deservesE n m l c s n f = if goodB s n m l c f then 0 else 17 := by
  unfold deservesE
  rw [mix_fine h hp, hb]
  rfl

theorem rat_times {k p q : Int} (hk : 0 < k) (hq : 0 < q) : ratN (k * p) (k * q) = ratN p q ∧ ratD (k * p) (k * q) = ratD p q :=
  rat_same (Int.mul_pos hk hq) hq (by grind)
theorem sumF_times (k : Int) (f : Nat → Int) (n : Nat) : sumF (fun i => k * f i) n = k * sumF f n := by
  have := sumF_lin k 0 f f n
  simpa using this
theorem sum_times (k : Int) (f g : Nat → Int) (n : Nat) : sumF (fun i => k * f i * g i) n = k * sumF (fun i => f i * g i) n := by
  rw [← sumF_times]
  exact sumC fun i _ => by grind
theorem good_times {k l c : Int} {s : Bool} {n : Nat} {m : Nat → M5} {f : Nat → Int} (hk : 0 < k) : goodB s n m l c (fun i => k * f i) = goodB s n m l c f := by
  unfold goodB leadF copperF
  rw [sum_times, sum_times, sumF_times]
  have e1 : k * sumF (fun i => f i * bad s (m i)) n ≤ l * (k * sumF f n) ↔ sumF (fun i => f i * bad s (m i)) n ≤ l * sumF f n := by
    have e : l * (k * sumF f n) = k * (l * sumF f n) := by grind
    rw [e]
    exact ⟨fun h => Int.le_of_mul_le_mul_left h hk, fun h => Int.mul_le_mul_of_nonneg_left h (Int.le_of_lt hk)⟩
  have e2 : c * (k * sumF f n) ≤ k * sumF (fun i => f i * good s (m i)) n ↔ c * sumF f n ≤ sumF (fun i => f i * good s (m i)) n := by
    have e : c * (k * sumF f n) = k * (c * sumF f n) := by grind
    rw [e]
    exact ⟨fun h => Int.le_of_mul_le_mul_left h hk, fun h => Int.mul_le_mul_of_nonneg_left h (Int.le_of_lt hk)⟩
  exact decide_eq_decide.2 (and_congr e1 e2)

theorem sum_both (f g h : Nat → Int) (n : Nat) : sumF (fun i => (f i + g i) * h i) n = sumF (fun i => f i * h i) n + sumF (fun i => g i * h i) n := by
  rw [← sumF_add]
  exact sumC fun i _ => by grind
theorem good_both {l c : Int} {s : Bool} {n : Nat} {m : Nat → M5} {f g : Nat → Int} (hf : goodB s n m l c f = true) (hg : goodB s n m l c g = true) : goodB s n m l c (fun i => f i + g i) = true := by
  obtain ⟨f1, f2⟩ := of_decide_eq_true hf
  obtain ⟨g1, g2⟩ := of_decide_eq_true hg
  refine decide_eq_true ?_
  unfold leadF copperF at *
  rw [sum_both, sum_both, sumF_add]
  exact ⟨by rw [Int.mul_add]; omega, by rw [Int.mul_add]; omega⟩

theorem price_bd {n : Nat} {m : Nat → M5} (hF : Fine n m) {f : Nat → Int} (h : ∀ i, i < n → 0 ≤ f i) : 0 ≤ priceF m f n ∧ priceF m f n ≤ 1000 * sumF f n := by
  have h1 := sumF_nonneg (f := fun i => f i * (m i).p) (n := n) fun i hi => Int.mul_nonneg (h i hi) (hF.2.2 i hi).1
  have h2 := sumF_nonneg (f := fun i => f i * (1000 * 1 - (m i).p)) (n := n) fun i hi => Int.mul_nonneg (h i hi) (by have := (hF.2.2 i hi).2.1; omega)
  refine ⟨h1, ?_⟩
  have e := sumF_lin 1000 (-1) f (fun i => f i * (m i).p) n
  rw [sumC (g := fun i => 1000 * f i + -1 * (f i * (m i).p)) fun i _ => by grind, e] at h2
  show sumF (fun i => f i * (m i).p) n ≤ _
  omega

/-- In least terms, and small enough for a cost or a share. -/
def smallB (x y : Int) : Bool := decide (1 ≤ y ∧ y ≤ 6000000 ∧ 0 ≤ x ∧ x ≤ 1000 * y ∧ Int.gcd x y = 1)
theorem small_in {p q a b g : Int} (hg : 0 < g) (e1 : p = a * g) (e2 : q = b * g) (hc : Int.gcd a b = 1) (hD : 0 < b) (hq' : q ≤ 6000000) (hp : 0 ≤ p) (hp' : p ≤ 1000 * q) : smallB a b = true := by
  have hb1 : b ≤ q := by
    have := Int.mul_le_mul_of_nonneg_left (show (1 : Int) ≤ g by omega) (Int.le_of_lt hD)
    omega
  have ha0 : 0 ≤ a := nonneg_of_mul hg (by rw [← e1]; exact hp)
  have ha1 : a ≤ 1000 * b := by
    have h1 : a * g ≤ (1000 * b) * g := by rw [← e1, Int.mul_assoc, ← e2]; exact hp'
    exact Int.le_of_mul_le_mul_right h1 hg
  exact decide_eq_true ⟨by omega, by omega, ha0, ha1, hc⟩
theorem small_rat {p q : Int} (hq : 0 < q) (hq' : q ≤ 6000000) (hp : 0 ≤ p) (hp' : p ≤ 1000 * q) : smallB (ratN p q) (ratD p q) = true := by
  obtain ⟨g, hg, e1, e2, hc⟩ := rat_parts p hq
  exact small_in hg e1 e2 hc (ratD_pos p hq) hq' hp hp'

end Go.Proofs.YtehafggcncbnkaaGreat

namespace Go.Proofs.YtehafggcncbnkaaGreat
open Go Go.RowKit

/-- A slice of uint16s. -/
def Shorts (w : World) (a : Option Addr) (n : Nat) (f : Nat → Int) : Prop := Cells w a n fun i => .int .u16 (f i)
theorem Shorts.below {w w' : World} {a : Option Addr} {n : Nat} {f : Nat → Int} (h : Shorts w a n f) (hb : Below w.heap.size w w') : Shorts w' a n f := Cells.below h hb

/-- The cells of so many numbers. -/
def intL (F : Nat → Int) (n : Nat) : List Value := (List.range n).map fun i => .int .i64 (F i)
theorem intL_succ (F : Nat → Int) (n : Nat) : intL F (n + 1) = intL F n ++ [.int .i64 (F n)] := by
  unfold intL
  rw [List.range_succ, List.map_append]
  rfl
theorem intL_length (F : Nat → Int) (n : Nat) : (intL F n).length = n := by simp [intL]
theorem intL_get (F : Nat → Int) {n i : Nat} (h : i < n) : (intL F n)[i]? = some (.int .i64 (F i)) := by
  unfold intL
  rw [List.getElem?_map, List.getElem?_range h]
  rfl
theorem intL_congr {F G : Nat → Int} {n : Nat} (h : ∀ i, i < n → F i = G i) : intL F n = intL G n := by
  unfold intL
  exact List.map_congr_left fun i hi => by rw [h i (List.mem_range.1 hi)]

/-- An owned row of int64s, as a slice of them. -/
theorem ints_of_own {w : World} {base : Nat} {e : TypeId} {g n cap : Nat} {F : Nat → Int} (h : w.ownsRow base e 1 (.slice (some ⟨g, 0, none⟩) n cap) n (intL F n)) : Ints w (some ⟨g, 0, none⟩) n F ∧ base ≤ g ∧ g < w.heap.size := by
  have hg : base ≤ g ∧ g < w.heap.size := by
    rcases h.2 with ⟨hv, _⟩ | ⟨g', cap', cur, hv, hb, hh, _⟩
    · cases hv
    · cases hv
      exact ⟨hb, (Array.getElem?_eq_some_iff.1 hh).1⟩
  refine ⟨.inr ⟨g, 0, rfl, hg.2, fun i hi => ?_⟩, hg⟩
  rw [Nat.zero_add, h.cellAt i (by omega)]
  exact intL_get F hi
theorem own_form {w : World} {base : Nat} {e : TypeId} {size n : Nat} {v : Value} {xs : List Value} (h : w.ownsRow base e size v n xs) (hn : 0 < n) : ∃ g cap, v = .slice (some ⟨g, 0, none⟩) n cap ∧ g < w.heap.size := by
  rcases h.2 with ⟨_, h0⟩ | ⟨g, cap, cur, hv, hb, hg, _⟩
  · omega
  · exact ⟨g, cap, hv, (Array.getElem?_eq_some_iff.1 hg).1⟩

theorem own_step {w w2 : World} {base : Nat} {e : TypeId} {v' : Value} {k len : Nat} {f : Nat → Int} {x : Int} (h : w2.ownsRow base e 1 v' (k + 1) (intL (mixG len f) k ++ [.int .i64 x])) (hx : x = mixG len f k) (_ : w = w) :
    w2.ownsRow base e 1 v' (k + 1) (intL (mixG len f) (k + 1)) := by
  rw [intL_succ, ← hx]
  exact h

set_option maxRecDepth 100000 in
set_option maxHeartbeats 4000000 in
theorem mixed_c (b : Option Addr) (n len cap : Nat) (f : Nat → Int) (w : World) (hf : Shorts w b len f) (hn : 1 ≤ n ∧ n ≤ 6) (hl : len ≤ 20) (hb : ∀ i, i < len → 0 ≤ f i ∧ f i ≤ 65535) :
    Calls Tryz.prog 43 #[.int .i64 n, .slice b len cap] w fun e w' => ∃ g cap', w.heap.size ≤ g ∧ g < w'.heap.size ∧ e = .returned (.slice (some ⟨g, 0, none⟩) n cap') ∧ Ints w' (some ⟨g, 0, none⟩) n (mixedF n len f) ∧ Below w.heap.size w w' := by
  obtain ⟨i0, hi, hz0, hz1, hz2⟩ := info_parts info64
  have Hb := Lib.hid hb
  have Hn := Lib.hid hn
  have hn0 : 0 < n := by omega
  have hn6 : n ≤ 6 := hn.2
  clear hb hn
  go_enter Tryz.func43, Tryz.ntmps43
  go_wp2
  go_loopw [5, 6] (fun v i wr => ∃ k : Nat, k ≤ n ∧ i = .int .i64 k ∧ wr.ownsRow w.heap.size 2 1 v k (intL (mixG len f) k) ∧ Below w.heap.size w wr) (fun _ i _ => n - (intOf i).toNat)
  case atStart => exact ⟨0, Nat.zero_le _, rfl, World.ownsRow_nil _ _ _ _, Below.refl _ _⟩
  case round =>
    obtain ⟨k, hk, rfl, hown, hB⟩ := hrel
    have hBs := hB.size
    by_cases hlt : k < n
    · by_cases hl0 : 0 < len
      · have hm : k % len < len := Nat.mod_lt _ hl0
        have hmod : Int.tmod (k : Int) (len : Int) = ((k % len : Nat) : Int) := rfl
        obtain ⟨bb, off, rfl, hbs, hc⟩ := Cells.at hf (k % len) hm
        have hck := (hB.cell (p := ⟨bb, off + k % len, none⟩) hbs).trans (hc _ hm)
        have hx := Hb.out (k % len) hm
        have hwr : IntKind.i64.wrap (f (k % len)) = f (k % len) := IntWalk.i64_in _ (by omega)
        have HB := Lib.hid hB
        clear hB hc
        go_wp2_with (at_builtin; refine wpList_append_own _ rfl _ _ 25 rfl w.heap.size 2 i0 (.int .i64 0) 1 8 Tryz.underlying25 hi hz0 hz1 hz2 rfl (by decide) _ _ _ rfl (hown.alloc _) ⟨wr.heap.size, 0, none⟩ 1 1 [.int .i64 (f (k % len))] rfl rfl (World.news_of_block (cs := #[.int .i64 (f (k % len))]) (t := 2) (fr := (0, 0)) (heap_new_at _ _ _ rfl)) (by simp [Value.oneCell']) (by unfold maxLen; omega) (by omega) (by simp; omega) ?_; intro v' w2 hown2 hgr2 _)
        go_roundw
        case rel =>
          refine ⟨k + 1, by omega, by go_num, ?_, (Below.alloc1 HB.out _ (Nat.le_refl _)).grown hgr2 (by simp; omega) (fun j h => (hown.lt j h).1)⟩
          exact own_step (w := w) hown2 (by unfold mixG; rw [if_pos hl0]) rfl
        case measure => simp [intOf]; omega
      · obtain rfl : len = 0 := by omega
        have HB := Lib.hid hB
        clear hB
        go_wp2_with (at_builtin; refine wpList_append_own _ rfl _ _ 25 rfl w.heap.size 2 i0 (.int .i64 0) 1 8 Tryz.underlying25 hi hz0 hz1 hz2 rfl (by decide) _ _ _ rfl (hown.alloc _) ⟨wr.heap.size, 0, none⟩ 1 1 [.int .i64 0] rfl rfl (World.news_of_block (cs := #[.int .i64 0]) (t := 2) (fr := (0, 0)) (heap_new_at _ _ _ rfl)) (by simp [Value.oneCell']) (by unfold maxLen; omega) (by omega) (by simp; omega) ?_; intro v' w2 hown2 hgr2 _)
        go_roundw
        case rel =>
          refine ⟨k + 1, by omega, by go_num, ?_, (Below.alloc1 HB.out _ (Nat.le_refl _)).grown hgr2 (by simp; omega) (fun j h => (hown.lt j h).1)⟩
          exact own_step (w := w) hown2 (by unfold mixG; rw [if_neg (by omega)]) rfl
        case measure => simp [intOf]; omega
    · obtain rfl : k = n := by omega
      obtain ⟨g, cap', rfl, hgz⟩ := own_form hown hn0
      obtain ⟨hI, hg1, hg2⟩ := ints_of_own hown
      have hf0 := hown.frozenAt 0
      have hc0 : wr.cell? ⟨g, 0, none⟩ = some (.int .i64 (mixG len f 0)) := by rw [hown.cellAt 0 (by omega)]; exact intL_get _ hn0
      have hG := mixG_bd (B := 65535) (by omega) Hb.out
      have Hown := Lib.hid hown
      have HB := Lib.hid hB
      clear hown hB
      by_cases h0 : sumF (mixG len f) k = 0
      · have hS := sum_c (some ⟨g, 0, none⟩) k cap' (mixG len f) wr hI (by omega) (fun i _ => by have := hG i; omega)
        rw [h0] at hS
        have H0 := Lib.hid h0
        have HG := Lib.hid hG
        clear h0 hG hI
        go_wp2_with fail
        refine hS.mono ?_
        rintro e w1 ⟨rfl, rfl⟩
        go_wp2
        go_ret
        obtain ⟨r1, r2⟩ := Hown.out.stored 0 (.int .i64 1)
        have e1 : (intL (mixG len f) k).set 0 (.int .i64 1) = intL (mixedF k len f) k := by
          have em : mixedF k len f = upd (mixG len f) 0 1 := by unfold mixedF; rw [if_pos H0.out]
          rw [em]
          refine List.ext_getElem? fun j => ?_
          rw [List.getElem?_set]
          by_cases hj : j < k
          · rw [intL_get _ hj, intL_get _ hj, intL_length]
            by_cases e : 0 = j
            · subst e
              simp [upd, hn0]
            · rw [if_neg e]
              simp [upd, (show ¬ j = 0 by omega)]
          · rw [List.getElem?_eq_none (by rw [intL_length]; omega), List.getElem?_eq_none (by rw [intL_length]; omega), if_neg (by omega)]
        rw [e1] at r1
        obtain ⟨q1, q2, q3⟩ := ints_of_own r1
        exact ⟨g, cap', q2, by simpa using hg2, rfl, q1, HB.out.setCell (p := ⟨g, 0, none⟩) hg1 _⟩
      · have hS := sum_c (some ⟨g, 0, none⟩) k cap' (mixG len f) wr hI (by omega) (fun i _ => by have := hG i; omega)
        have h0' : (sumF (mixG len f) k == 0) = false := by simpa using h0
        have H0 := Lib.hid h0
        have HI := Lib.hid hI
        clear h0 hG hI
        go_wp2_with fail
        refine hS.mono ?_
        rintro e w1 ⟨rfl, rfl⟩
        go_wp2
        go_ret
        have em : mixedF k len f = mixG len f := by unfold mixedF; rw [if_neg H0.out]
        exact ⟨g, cap', hg1, hg2, rfl, by rw [em]; exact HI.out, HB.out⟩

end Go.Proofs.YtehafggcncbnkaaGreat

namespace Go.Proofs.YtehafggcncbnkaaGreat
open Go Go.RowKit

set_option maxHeartbeats 2000000 in
theorem small_c (x y : Int) (w : World) (h : smallB x y = true) : Calls Tryz.prog 45 #[.agg #[.int .i64 x, .int .i64 y]] w fun e w' => e = .returned (.bool true) ∧ Below w.heap.size w w' := by
  obtain ⟨h1, h2, h3, h4, h5⟩ := of_decide_eq_true h
  obtain ⟨W, hW⟩ : ∃ W, w.alloc (.cells #[.int .i64 x, .int .i64 y] 29) = W := ⟨_, rfl⟩
  have hB : Below w.heap.size w W := by rw [← hW]; exact Below.alloc1 (Below.refl _ _) _ (Nat.le_refl _)
  have hR : RowIs W w.heap.size #[.int .i64 x, .int .i64 y] 29 := by rw [← hW]; exact heap_new_at _ _ _ rfl
  obtain ⟨r0, r1, _, _, rz⟩ := ratrow2 hR
  have g1 : decide (y < 1) = false := by simp; omega
  have g2 : decide (6000000 < y) = false := by simp; omega
  have g3 : decide (x < 0) = false := by simp; omega
  have hw1 : IntKind.i64.wrap (1000 * y) = 1000 * y := IntWalk.i64_in _ (by omega)
  have g4 : decide (1000 * y < x) = false := by simp; omega
  have hC := common_c x y W h3 (by omega) (by omega) (by omega)
  rw [h5] at hC
  clear h hR h1 h2 h3 h4 h5
  go_enter Tryz.func45, Tryz.ntmps45
  go_wp2_with fail
  clear hW
  refine hC.mono ?_
  rintro e w1 ⟨nq, rfl, rfl⟩
  go_wp2
  go_ret
  exact ⟨rfl, below_drewN hB nq⟩

set_option maxHeartbeats 2000000 in
theorem fine_c (a : Option Addr) (n cap : Nat) (m : Nat → M5) (l c : Int) (w : World) (hm : Metals w a n m) :
    Calls Tryz.prog 42 #[.slice a n cap, .agg #[.int .i64 l, .int .i64 c]] w fun e w' => e = .returned (.bool (decide (n ≤ 12 ∧ bothE n m l c = 0))) ∧ Below w.heap.size w w' := by
  obtain ⟨W, hW⟩ : ∃ W, w.alloc (.cells #[.int .i64 l, .int .i64 c] 24) = W := ⟨_, rfl⟩
  have hB : Below w.heap.size w W := by rw [← hW]; exact Below.alloc1 (Below.refl _ _) _ (Nat.le_refl _)
  have hT : RowIs W w.heap.size #[.int .i64 l, .int .i64 c] 24 := by rw [← hW]; exact heap_new_at _ _ _ rfl
  obtain ⟨t0, t1, _, _, tz⟩ := ratrow2 hT
  have hmW := hm.below hB
  have HG := Lib.hid (great_c a none n cap 0 0 W)
  have HTr := Lib.hid hT
  clear hT hm
  by_cases hn : n ≤ 12
  · have hg : (decide (12 < n) || decide (12 < 0)) = false := by simp; omega
    have HM := Lib.hid (rcheckMetals_c a n cap m W hmW (by omega))
    have HT := Lib.hid (fun (x : World) => rcheckTouch_c l c x)
    by_cases h0 : metalsE n m = 0
    · by_cases h1 : touchE l c = 0
      · have ev : decide (n ≤ 12 ∧ bothE n m l c = 0) = true := decide_eq_true ⟨hn, by unfold bothE; rw [if_neg (by omega)]; exact h1⟩
        rw [ev]
        go_enter Tryz.func42, Tryz.ntmps42
        go_wp2_with fail
        clear hW
        refine HG.out.mono ?_
        rintro e w1 ⟨rfl, rfl⟩
        rw [hg]
        go_wp2_with fail
        refine HM.out.mono ?_
        rintro e w2 ⟨rfl, hb2⟩
        rw [h0]
        clear t0 t1 tz
        obtain ⟨t0, t1, _, _, tz⟩ := ratrow2 (RowIs.below HTr.out hb2)
        go_wp2_with fail
        refine (HT.out _).mono ?_
        rintro e w3 ⟨rfl, hb3⟩
        go_wp2
        go_ret
        exact ⟨rfl, bup hB (bup hb2 hb3)⟩
      · have ev : decide (n ≤ 12 ∧ bothE n m l c = 0) = false := decide_eq_false fun h => h1 (by have := h.2; unfold bothE at this; rw [if_neg (by omega)] at this; exact this)
        rw [ev]
        have h1' : (touchE l c == 0) = false := by simpa using h1
        go_enter Tryz.func42, Tryz.ntmps42
        go_wp2_with fail
        clear hW
        refine HG.out.mono ?_
        rintro e w1 ⟨rfl, rfl⟩
        rw [hg]
        go_wp2_with fail
        refine HM.out.mono ?_
        rintro e w2 ⟨rfl, hb2⟩
        rw [h0]
        clear t0 t1 tz
        obtain ⟨t0, t1, _, _, tz⟩ := ratrow2 (RowIs.below HTr.out hb2)
        go_wp2_with fail
        refine (HT.out _).mono ?_
        rintro e w3 ⟨rfl, hb3⟩
        go_wp2
        go_ret
        exact ⟨rfl, bup hB (bup hb2 hb3)⟩
    · have ev : decide (n ≤ 12 ∧ bothE n m l c = 0) = false := decide_eq_false fun h => by have := h.2; unfold bothE at this; rw [if_pos h0] at this; exact h0 this
      rw [ev]
      have h0' : (metalsE n m == 0) = false := by simpa using h0
      go_enter Tryz.func42, Tryz.ntmps42
      go_wp2_with fail
      clear hW
      refine HG.out.mono ?_
      rintro e w1 ⟨rfl, rfl⟩
      rw [hg]
      go_wp2_with fail
      refine HM.out.mono ?_
      rintro e w2 ⟨rfl, hb2⟩
      go_wp2
      go_ret
      exact ⟨rfl, bup hB hb2⟩
  · have hg : (decide (12 < n) || decide (12 < 0)) = true := by simp; omega
    have ev : decide (n ≤ 12 ∧ bothE n m l c = 0) = false := decide_eq_false fun h => hn h.1
    rw [ev]
    go_enter Tryz.func42, Tryz.ntmps42
    go_wp2_with fail
    clear hW
    refine HG.out.mono ?_
    rintro e w1 ⟨rfl, rfl⟩
    rw [hg]
    go_wp2
    go_ret
    exact ⟨rfl, hB⟩

/-- least of the law: a fraction, whether there is a mixture, and that all is as it can be. -/
abbrev leastV (x : Int × Int) (is : Bool) : Value := .tuple #[.agg #[.int .i64 x.1, .int .i64 x.2], .bool is, .bool true]

set_option maxRecDepth 100000 in
set_option maxHeartbeats 4000000 in
theorem lawLeast_c (a : Option Addr) (n cap : Nat) (m : Nat → M5) (l c : Int) (s is : Bool) (x : Int × Int) (w : World) (hm : Metals w a n m) (hn : n ≤ 12)
    (hL : leastR n m l c s = (x.1, x.2, if is then 0 else 17)) (hx : if is then smallB x.1 x.2 = true else x = (0, 0)) :
    Calls Tryz.prog 44 #[.slice a n cap, .agg #[.int .i64 l, .int .i64 c], .bool s] w fun e w' => e = .returned (leastV x is) ∧ Below w.heap.size w w' := by
  obtain ⟨x1, x2⟩ := x
  obtain ⟨W, hW⟩ : ∃ W, (w.alloc (.cells #[.int .i64 l, .int .i64 c] 24)).alloc (.cells #[.int .i64 0, .int .i64 0] 29) = W := ⟨_, rfl⟩
  have hB : Below w.heap.size w W := by rw [← hW]; exact Below.alloc1 (Below.alloc1 (Below.refl _ _) _ (Nat.le_refl _)) _ (Nat.le_refl _)
  have hT : RowIs W w.heap.size #[.int .i64 l, .int .i64 c] 24 := by rw [← hW]; exact RowIs.alloc (heap_new_at _ _ _ rfl) _
  have hR : RowIs W (w.heap.size + 1) #[.int .i64 0, .int .i64 0] 29 := by rw [← hW]; exact heap_new_at _ _ _ (by simp)
  obtain ⟨t0, t1, _, _, tz⟩ := ratrow2 hT
  have hC := Least_c a n cap m l c s W (hm.below hB) (by omega)
  rw [hL] at hC
  try dsimp only [re2] at hC
  have HC := Lib.hid hC
  have HR := Lib.hid hR
  clear hT hR hm hC hL
  cases is with
  | false =>
    simp only [Bool.false_eq_true, if_false, Prod.mk.injEq] at hx HC
    obtain ⟨rfl, rfl⟩ := hx
    go_enter Tryz.func44, Tryz.ntmps44
    go_wp2_with fail
    clear hW
    refine HC.out.mono ?_
    rintro e w1 ⟨rfl, hb1⟩
    obtain ⟨Y, hY⟩ : ∃ Y, w1.alloc (.cells #[.int .i64 0, .int .i64 0] 29) = Y := ⟨_, rfl⟩
    have hb2 : Below w1.heap.size w1 Y := by rw [← hY]; exact Below.alloc1 (Below.refl _ _) _ (Nat.le_refl _)
    have hB2 := bup hB (bup hb1 hb2)
    have hR2 := RowIs.below HR.out (bup hb1 hb2)
    have hQ : RowIs Y w1.heap.size #[.int .i64 0, .int .i64 0] 29 := by rw [← hY]; exact heap_new_at _ _ _ rfl
    obtain ⟨r0, r1, r2, r3, rz⟩ := ratrow2 hR2
    obtain ⟨q0, q1, q2, q3, qz⟩ := ratrow2 hQ
    have heq := fun (w : World) => eqRat 0 0 w
    have HR2 := Lib.hid hR2
    have HQ := Lib.hid hQ
    clear t0 t1 tz hR2 hQ
    go_wp2_with fail
    clear r0 r1 r2 r3 rz q0 q1 q2 q3 qz
    obtain ⟨Z, hZ⟩ : ∃ Z, (Y.setCell ⟨w1.heap.size, 0, none⟩ (.int .i64 0)).setCell ⟨w1.heap.size, 1, none⟩ (.int .i64 0) = Z := ⟨_, rfl⟩
    have hzw := hb1.size
    have hBZ : Below w.heap.size w Z := by rw [← hZ]; exact (hB2.setCell (p := ⟨w1.heap.size, 0, none⟩) (Nat.le_trans hB.size hzw) _).setCell (p := ⟨w1.heap.size, 1, none⟩) (Nat.le_trans hB.size hzw) _
    have hWs : w.heap.size + 1 < w1.heap.size := Nat.lt_of_lt_of_le (Array.getElem?_eq_some_iff.1 HR.out).1 hzw
    have hRZ : RowIs Z (w.heap.size + 1) #[.int .i64 0, .int .i64 0] 29 := by rw [← hZ]; exact RowIs.other (RowIs.other HR2.out (b' := w1.heap.size) (by omega) 0 _) (b' := w1.heap.size) (by omega) 1 _
    have hQZ : RowIs Z w1.heap.size #[.int .i64 0, .int .i64 0] 29 := by rw [← hZ]; exact put2_row HQ.out 0 0
    rw [hZ]
    obtain ⟨r0, r1, r2, r3, rz⟩ := ratrow2 hRZ
    obtain ⟨q0, q1, q2, q3, qz⟩ := ratrow2 hQZ
    have HRZ := Lib.hid hRZ
    clear hRZ hQZ hZ hY
    go_region
    go_wp2
    have hf : RowIs (put2 Z (w.heap.size + 1) 0 0).drew (w.heap.size + 1) #[.int .i64 0, .int .i64 0] 29 := RowIs.drew (put2_row HRZ.out 0 0)
    have hbf : Below w.heap.size w (put2 Z (w.heap.size + 1) 0 0).drew := (hBZ.trans (put2_below (w := Z) (Nat.le_succ w.heap.size) 0 0)).drew
    change bodyPost _ _ _ _ _ (put2 Z (w.heap.size + 1) 0 0).drew
    generalize (put2 Z (w.heap.size + 1) 0 0).drew = V at hf hbf ⊢
    obtain ⟨f0, f1, _, _, fz⟩ := ratrow2 hf
    exact bodyPost_ret (v := leastV (0, 0) false) (by simp [results, Tryz.results44, go_sem, f0, f1]) rfl ⟨rfl, hbf⟩
  | true =>
    simp only [if_true] at hx HC
    have HS := Lib.hid (fun (X : World) => small_c x1 x2 X hx)
    go_enter Tryz.func44, Tryz.ntmps44
    go_wp2_with fail
    clear hW
    refine HC.out.mono ?_
    rintro e w1 ⟨rfl, hb1⟩
    obtain ⟨Y, hY⟩ : ∃ Y, w1.alloc (.cells #[.int .i64 x1, .int .i64 x2] 29) = Y := ⟨_, rfl⟩
    have hb2 : Below w1.heap.size w1 Y := by rw [← hY]; exact Below.alloc1 (Below.refl _ _) _ (Nat.le_refl _)
    have hB2 := bup hB (bup hb1 hb2)
    have hR2 := RowIs.below HR.out (bup hb1 hb2)
    have hQ : RowIs Y w1.heap.size #[.int .i64 x1, .int .i64 x2] 29 := by rw [← hY]; exact heap_new_at _ _ _ rfl
    obtain ⟨r0, r1, r2, r3, rz⟩ := ratrow2 hR2
    obtain ⟨q0, q1, q2, q3, qz⟩ := ratrow2 hQ
    have HR2 := Lib.hid hR2
    clear t0 t1 tz hR2 hQ
    go_wp2_with fail
    clear hY
    have hgo : RowIs Y (w.heap.size + 1) #[.int .i64 0, .int .i64 0] 29 := HR2.out
    have hWs : w.heap.size + 1 < w1.heap.size := Nat.lt_of_lt_of_le (Array.getElem?_eq_some_iff.1 HR.out).1 hb1.size
    go_cut [7, 8] from 24 to 30 (fun e f wx => e = .bool true ∧ f = .bool true ∧ RowIs wx (w.heap.size + 1) #[.int .i64 x1, .int .i64 x2] 29 ∧ Below w.heap.size w wx)
    case first =>
      go_region_held3 (fun w' => w'.cell? ⟨w1.heap.size, 0, none⟩ = some (.int .i64 x1) ∧ w'.cell? ⟨w1.heap.size, 1, none⟩ = some (.int .i64 x2))
        (first | (go_split_ands; refine ⟨?_, ?_⟩ <;> first | assumption | exact Lib.cell?_alloc_some _ (by assumption) | (rw [World.cell?_setCell_far _ _ _ _ (by simp <;> omega), World.cell?_setCell_far _ _ _ _ (by simp <;> omega)]; assumption) | (go_keep; done)) | go_keep)
        ((first
          | (go_at_call 45; refine Calls.mono (HS.out _) ?_; rintro e wq ⟨rfl, hbq⟩; have t0 : wq.cell? ⟨w1.heap.size, 0, none⟩ = some (.int .i64 x1) := (by (try go_split_ands); rw [hbq.cell (by first | assumption | (simp; omega))]; assumption); have t1 : wq.cell? ⟨w1.heap.size, 1, none⟩ = some (.int .i64 x2) := (by (try go_split_ands); rw [hbq.cell (by first | assumption | (simp; omega))]; assumption); have hr : RowIs wq (w.heap.size + 1) #[.int .i64 0, .int .i64 0] 29 := (by (with_reducible repeat (first | assumption | refine RowIs.below ?_ (by assumption) | refine RowIs.drew ?_))); obtain ⟨s0, s1, z0, z1, lq⟩ := ratrow2 hr)
          | fail))
      all_goals (go_wp2_with fail; go_meet; refine ⟨rfl, rfl, ?_, ?_⟩; (with_reducible repeat (first | assumption | refine set2_row ?_ | refine RowIs.drew ?_)); (with_reducible repeat (first | assumption | refine bup ?_ (by assumption) | refine Below.drew ?_ | refine set2_below ?_ (by omega))))
    case rest =>
      obtain ⟨rfl, rfl, hrow, hcb⟩ := hcut
      obtain ⟨f0, f1, _, _, fz⟩ := ratrow2 hrow
      go_wp2_with fail
      exact bodyPost_ret (v := leastV (x1, x2) true) (by simp [results, Tryz.results44, go_sem, f0, f1]) rfl ⟨rfl, hcb⟩

end Go.Proofs.YtehafggcncbnkaaGreat

namespace Go.Proofs.YtehafggcncbnkaaGreat
open Go Go.RowKit

theorem ends_times {n : Nat} {m : Nat → M5} {f : Nat → Int} {k : Int} (copper : Bool) (hM : metalsE n m = 0) (hk : 0 < k) (h : ∀ i, i < n → 0 ≤ f i ∧ f i ≤ 1000000) (h' : ∀ i, i < n → 0 ≤ k * f i ∧ k * f i ≤ 1000000) (hp : 0 < sumF f n) :
    endsR n m n (fun i => k * f i) copper = endsR n m n f copper ∧ (endsR n m n f copper).2.2 = 0 := by
  have hp' : 0 < sumF (fun i => k * f i) n := by rw [sumF_times]; exact Int.mul_pos hk hp
  unfold endsR
  rw [mix_fine h hp, mix_fine h' hp', hM]
  unfold lowF highF
  simp only [sum_times, sumF_times, ne_eq, not_true, if_false]
  rw [(rat_times hk hp).1, (rat_times hk hp).2, (rat_times hk hp).1, (rat_times hk hp).2]
  exact ⟨rfl, trivial⟩

theorem times_bd {A : Nat → Int} {t : Int} (hA : ∀ i, 0 ≤ A i ∧ A i ≤ 65535) (i : Nat) : 0 ≤ (1 + t % 9) * A i ∧ (1 + t % 9) * A i ≤ 589815 := by
  have := mul_bd (x := 1 + t % 9) (y := A i) (A := 9) (B := 65535) (by omega) (by omega) (hA i).1 (hA i).2
  omega

set_option maxRecDepth 100000 in
set_option maxHeartbeats 16000000 in
theorem law_times_c (a b : Option Addr) (n cap len cap2 : Nat) (m : Nat → M5) (g : Nat → Int) (l c t : Int) (sure copper : Bool) (w : World) (hm : Metals w a n m) (hg : Shorts w b len g) (hgb : ∀ i, i < len → 0 ≤ g i ∧ g i ≤ 65535) (ht : 0 ≤ t ∧ t ≤ 255) :
    Calls Tryz.prog 14 #[.slice a n cap, .agg #[.int .i64 l, .int .i64 c], .bool sure, .bool copper, .slice b len cap2, .int .u8 t] w fun e w' => e = .returned (.bool true) ∧ Below w.heap.size w w' := by
  obtain ⟨W, hW⟩ : ∃ W, w.alloc (.cells #[.int .i64 l, .int .i64 c] 24) = W := ⟨_, rfl⟩
  have hB : Below w.heap.size w W := by rw [← hW]; exact Below.alloc1 (Below.refl _ _) _ (Nat.le_refl _)
  have HT := Lib.hid (show RowIs W w.heap.size #[.int .i64 l, .int .i64 c] 24 by rw [← hW]; exact heap_new_at _ _ _ rfl)
  have HM := Lib.hid (hm.below hB)
  obtain ⟨bt, hbt⟩ : ∃ bt, w.heap.size = bt := ⟨_, rfl⟩
  rw [hbt] at HT
  have HG := Lib.hid (hg.below hB)
  have HFi := Lib.hid (fine_c a n cap m l c W HM.out)
  clear hm hg
  by_cases hfine : n ≤ 12 ∧ bothE n m l c = 0
  case neg =>
    have hd : decide (n ≤ 12 ∧ bothE n m l c = 0) = false := decide_eq_false hfine
    rw [hd] at HFi
    obtain ⟨tc0, tc1, _, _, tz⟩ := ratrow2 HT.out
    go_enter Tryz.func14, Tryz.ntmps14
    go_wp2_with fail
    refine HFi.out.mono ?_
    rintro e w1 ⟨rfl, hb1⟩
    go_wp2_with fail
    refine (works_c _).mono ?_
    rintro e wz ⟨rfl, hbz⟩
    go_wp2
    go_ret
    exact ⟨rfl, bup hB (bup hb1 hbz)⟩
  case pos =>
  have hd : decide (n ≤ 12 ∧ bothE n m l c = 0) = true := decide_eq_true hfine
  rw [hd] at HFi
  by_cases hl : len ≤ 20
  case neg =>
    have hl' : decide ((20 : Int) < (len : Int)) = true := by simp; omega
    obtain ⟨tc0, tc1, _, _, tz⟩ := ratrow2 HT.out
    go_enter Tryz.func14, Tryz.ntmps14
    go_wp2_with fail
    refine HFi.out.mono ?_
    rintro e w1 ⟨rfl, hb1⟩
    go_wp2_with fail
    refine (works_c _).mono ?_
    rintro e wz ⟨rfl, hbz⟩
    go_wp2
    go_ret
    exact ⟨rfl, bup hB (bup hb1 hbz)⟩
  case pos =>
  have hl' : decide ((20 : Int) < (len : Int)) = false := by simp; omega
  have hmet := (both_ok hfine.2).1
  have hF := fine_of hmet
  have hn16 : 1 ≤ n ∧ n ≤ 6 := ⟨hF.1, hF.2.1⟩
  have hn : n ≤ 1048576 := by omega
  obtain ⟨A, hA⟩ : ∃ A, mixedF n len g = A := ⟨_, rfl⟩
  have hAb : ∀ i, 0 ≤ A i ∧ A i ≤ 65535 := by rw [← hA]; exact mixed_bd (by omega) hgb
  have hAp : 0 < sumF A n := by rw [← hA]; exact mixed_pos hn16.1 (by omega) hgb
  obtain ⟨k, hk⟩ : ∃ k, 1 + t % 9 = k := ⟨_, rfl⟩
  have hk0 : 0 < k := by omega
  have hKb : ∀ i, 0 ≤ k * A i ∧ k * A i ≤ 589815 := by rw [← hk]; exact times_bd hAb
  have hKp : 0 < sumF (fun i => k * A i) n := by rw [sumF_times]; exact Int.mul_pos hk0 hAp
  have hA6 : ∀ i, i < n → 0 ≤ A i ∧ A i ≤ 1000000 := fun i _ => by have := hAb i; omega
  have hK6 : ∀ i, i < n → 0 ≤ k * A i ∧ k * A i ≤ 1000000 := fun i _ => by have := hKb i; omega
  have HC1 := Lib.hid (cost_of (m := m) hmet hA6 hAp)
  have HC2 := Lib.hid (show costR n m n (fun i => k * A i) = costR n m n A by
    rw [cost_of hmet hK6 hKp, cost_of hmet hA6 hAp]
    unfold priceF
    rw [sum_times, sumF_times, (rat_times hk0 hAp).1, (rat_times hk0 hAp).2])
  have HE := Lib.hid (ends_times copper hmet hk0 hA6 hK6 hAp)
  have HD := Lib.hid (show deservesE n m l c sure n (fun i => k * A i) = deservesE n m l c sure n A by rw [deserves_of hfine.2 hK6 hKp, deserves_of hfine.2 hA6 hAp, good_times hk0])
  have HKb := Lib.hid hKb
  have Hgb := Lib.hid hgb
  have Hk := Lib.hid hk
  obtain ⟨i0, hi, hz0, hz1, hz2⟩ := info_parts info64
  clear hgb hAb hKb hA6 hK6 hk hAp hKp hk0
  obtain ⟨tc0, tc1, _, _, tz⟩ := ratrow2 HT.out
  go_enter Tryz.func14, Tryz.ntmps14
  go_wp2_with fail
  refine HFi.out.mono ?_
  rintro e w1 ⟨rfl, hb1⟩
  clear tc0 tc1 tz hW hbt
  replace HM := Lib.hid (HM.out.below hb1)
  replace HT := Lib.hid (RowIs.below HT.out hb1)
  replace HG := Lib.hid (HG.out.below hb1)
  replace hB := bup hB hb1
  go_wp2_with fail
  clear hb1
  refine (mixed_c b n len cap2 g w1 HG.out hn16 hl Hgb.out).mono ?_
  rintro e w1 ⟨gHA, cHA, gHAl, gHAz, rfl, hHA0, hw2⟩
  replace HM := Lib.hid (HM.out.below hw2)
  replace HT := Lib.hid (RowIs.below HT.out hw2)
  replace HG := Lib.hid (HG.out.below hw2)
  replace hB := bup hB hw2
  rw [hA] at hHA0
  have HA := Lib.hid hHA0
  clear hHA0 gHAl gHAz
  go_wp2_with fail
  clear hw2
  obtain ⟨B, hBB⟩ : ∃ B, w1.heap.size = B := ⟨_, rfl⟩
  go_loopw [14, 15] (fun v i wr => ∃ j : Nat, j ≤ n ∧ i = .int .i64 j ∧ wr.ownsRow B 2 1 v j (intL (fun i => k * A i) j) ∧ Below w1.heap.size w1 wr) (fun _ i _ => n - (intOf i).toNat)
  case atStart => exact ⟨0, Nat.zero_le _, rfl, World.ownsRow_nil _ _ _ _, Below.refl _ _⟩
  case round =>
    obtain ⟨j, hj, rfl, hown, hBr⟩ := hrel
    have hBs := hBr.size
    by_cases hlt : j < n
    · obtain ⟨bb, off, hbe, hbs, hc⟩ := Cells.at HA.out j hlt
      cases hbe
      have hck := (hBr.cell (p := ⟨gHA, 0 + j, none⟩) hbs).trans (hc j hlt)
      simp only [Nat.zero_add] at hck
      have hx := HKb.out j
      rw [← Hk.out] at hx
      have hwr : wrap64 ((1 + t % 9) * A j) = (1 + t % 9) * A j := IntWalk.wrap64_in _ ⟨by omega, by omega⟩
      have HBr := Lib.hid hBr
      clear hBr hc
      go_wp2_with (at_builtin; refine wpList_append_own _ rfl _ _ 25 rfl B 2 i0 (.int .i64 0) 1 8 Tryz.underlying25 hi hz0 hz1 hz2 rfl (by decide) _ _ _ rfl (hown.alloc _) ⟨wr.heap.size, 0, none⟩ 1 1 [.int .i64 ((1 + t % 9) * A j)] rfl rfl (World.news_of_block (cs := #[.int .i64 ((1 + t % 9) * A j)]) (t := 2) (fr := (0, 0)) (heap_new_at _ _ _ rfl)) (by simp [Value.oneCell']) (by unfold maxLen; omega) (by omega) (by simp; omega) ?_; intro v' w2 hown2 hgr2 _)
      go_roundw
      case rel =>
        refine ⟨j + 1, by omega, by go_num, ?_, (Below.alloc1 HBr.out _ (Nat.le_refl _)).grown hgr2 (by simp; omega) (fun q h => by have := (hown.lt q h).1; omega)⟩
        rw [intL_succ, ← Hk.out]
        rw [← Hk.out] at hown2
        exact hown2
      case measure => simp [intOf]; omega
    · obtain rfl : j = n := by omega
      obtain ⟨gB, cB, rfl, hgz⟩ := own_form hown (by omega)
      obtain ⟨hIB, hgB, _⟩ := ints_of_own hown
      have HB0 := Lib.hid hIB
      clear hown hIB hBs
      have hBx := hBr
      replace HM := Lib.hid (HM.out.below hBr)
      replace HT := Lib.hid (RowIs.below HT.out hBr)
      replace HG := Lib.hid (HG.out.below hBr)
      replace HA := Lib.hid (HA.out.below hBr)
      replace hB := bup hB hBr
      rcases hC : costR j m j A with ⟨x1, x2, x3⟩
      have hx3 : x3 = 0 := by have h := HC1.out; rw [hC] at h; exact congrArg (·.2.2) h
      subst hx3
      have hC2 := HC2.out
      rw [hC] at hC2
      rcases hE : endsR j m j A copper with ⟨⟨y1, y2⟩, ⟨z1, z2⟩, y3⟩
      have hE2 := HE.out.1
      rw [hE] at hE2
      have hy3 : y3 = 0 := by have h := HE.out.2; rw [hE] at h; exact h
      subst hy3
      have hC3 := Cost_c a (some ⟨gHA, 0, none⟩) j cap j cHA m A wr HM.out HA.out hn hn
      rw [hC] at hC3
      try dsimp only [re2, re3, proofV, zeroP] at hC3
      have C3 := Lib.hid hC3
      clear hC3
      go_wp2_with fail
      clear hBx hBr
      refine C3.out.mono ?_
      rintro e w4 ⟨rfl, hw5⟩
      clear C3
      replace HM := Lib.hid (HM.out.below hw5)
      replace HT := Lib.hid (RowIs.below HT.out hw5)
      replace HG := Lib.hid (HG.out.below hw5)
      replace HA := Lib.hid (HA.out.below hw5)
      replace HB0 := Lib.hid (HB0.out.below hw5)
      replace hB := bup hB hw5
      obtain ⟨Y6, hY6⟩ : ∃ Y6, w4.alloc (.cells #[.int .i64 x1, .int .i64 x2] 29) = Y6 := ⟨_, rfl⟩
      have hy7 : Below w4.heap.size w4 Y6 := by rw [← hY6]; exact Below.alloc1 (Below.refl _ _) _ (Nat.le_refl _)
      replace HM := Lib.hid (HM.out.below hy7)
      replace HT := Lib.hid (RowIs.below HT.out hy7)
      replace HG := Lib.hid (HG.out.below hy7)
      replace HA := Lib.hid (HA.out.below hy7)
      replace HB0 := Lib.hid (HB0.out.below hy7)
      replace hB := bup hB hy7
      have RA := Lib.hid (show RowIs Y6 w4.heap.size #[.int .i64 x1, .int .i64 x2] 29 by rw [← hY6]; exact heap_new_at _ _ _ rfl)
      obtain ⟨bRA, hbRA⟩ : ∃ bRA, w4.heap.size = bRA := ⟨_, rfl⟩
      rw [hbRA] at RA
      have hC8 := Cost_c a (some ⟨gB, 0, none⟩) j cap j cB m (fun i => k * A i) Y6 HM.out HB0.out hn hn
      rw [hC2] at hC8
      try dsimp only [re2, re3, proofV, zeroP] at hC8
      have C8 := Lib.hid hC8
      clear hC8
      go_wp2_with fail
      clear hw5 hbRA hY6 hy7
      refine C8.out.mono ?_
      rintro e w9 ⟨rfl, hw10⟩
      clear C8
      replace HM := Lib.hid (HM.out.below hw10)
      replace HT := Lib.hid (RowIs.below HT.out hw10)
      replace HG := Lib.hid (HG.out.below hw10)
      replace HA := Lib.hid (HA.out.below hw10)
      replace HB0 := Lib.hid (HB0.out.below hw10)
      replace RA := Lib.hid (RowIs.below RA.out hw10)
      replace hB := bup hB hw10
      obtain ⟨Y11, hY11⟩ : ∃ Y11, w9.alloc (.cells #[.int .i64 x1, .int .i64 x2] 29) = Y11 := ⟨_, rfl⟩
      have hy12 : Below w9.heap.size w9 Y11 := by rw [← hY11]; exact Below.alloc1 (Below.refl _ _) _ (Nat.le_refl _)
      replace HM := Lib.hid (HM.out.below hy12)
      replace HT := Lib.hid (RowIs.below HT.out hy12)
      replace HG := Lib.hid (HG.out.below hy12)
      replace HA := Lib.hid (HA.out.below hy12)
      replace HB0 := Lib.hid (HB0.out.below hy12)
      replace RA := Lib.hid (RowIs.below RA.out hy12)
      replace hB := bup hB hy12
      have RB := Lib.hid (show RowIs Y11 w9.heap.size #[.int .i64 x1, .int .i64 x2] 29 by rw [← hY11]; exact heap_new_at _ _ _ rfl)
      obtain ⟨bRB, hbRB⟩ : ∃ bRB, w9.heap.size = bRB := ⟨_, rfl⟩
      rw [hbRB] at RB
      have hC13 := Ends_c a (some ⟨gHA, 0, none⟩) j cap j cHA m A copper Y11 HM.out HA.out hn hn
      rw [hE] at hC13
      try dsimp only [re2, re3, proofV, zeroP] at hC13
      have C13 := Lib.hid hC13
      clear hC13
      go_wp2_with fail
      clear hw10 hbRB hY11 hy12
      refine C13.out.mono ?_
      rintro e w14 ⟨rfl, hw15⟩
      clear C13
      replace HM := Lib.hid (HM.out.below hw15)
      replace HT := Lib.hid (RowIs.below HT.out hw15)
      replace HG := Lib.hid (HG.out.below hw15)
      replace HA := Lib.hid (HA.out.below hw15)
      replace HB0 := Lib.hid (HB0.out.below hw15)
      replace RA := Lib.hid (RowIs.below RA.out hw15)
      replace RB := Lib.hid (RowIs.below RB.out hw15)
      replace hB := bup hB hw15
      obtain ⟨Y16, hY16⟩ : ∃ Y16, (w14.alloc (.cells #[.int .i64 y1, .int .i64 y2] 29)).alloc (.cells #[.int .i64 z1, .int .i64 z2] 29) = Y16 := ⟨_, rfl⟩
      have hy17 : Below w14.heap.size w14 Y16 := by rw [← hY16]; exact Below.alloc1 (Below.alloc1 (Below.refl _ _) _ (Nat.le_refl _)) _ (Nat.le_refl _)
      replace HM := Lib.hid (HM.out.below hy17)
      replace HT := Lib.hid (RowIs.below HT.out hy17)
      replace HG := Lib.hid (HG.out.below hy17)
      replace HA := Lib.hid (HA.out.below hy17)
      replace HB0 := Lib.hid (HB0.out.below hy17)
      replace RA := Lib.hid (RowIs.below RA.out hy17)
      replace RB := Lib.hid (RowIs.below RB.out hy17)
      replace hB := bup hB hy17
      have RX := Lib.hid (show RowIs Y16 w14.heap.size #[.int .i64 y1, .int .i64 y2] 29 by rw [← hY16]; exact RowIs.alloc (heap_new_at _ _ _ rfl) _)
      have RY := Lib.hid (show RowIs Y16 (w14.heap.size + 1) #[.int .i64 z1, .int .i64 z2] 29 by rw [← hY16]; exact heap_new_at _ _ _ (by simp))
      obtain ⟨bRX, hbRX⟩ : ∃ bRX, w14.heap.size = bRX := ⟨_, rfl⟩
      rw [hbRX] at RX RY
      have hC18 := Ends_c a (some ⟨gB, 0, none⟩) j cap j cB m (fun i => k * A i) copper Y16 HM.out HB0.out hn hn
      rw [hE2] at hC18
      try dsimp only [re2, re3, proofV, zeroP] at hC18
      have C18 := Lib.hid hC18
      clear hC18
      go_wp2_with fail
      clear hw15 hY16 hy17 hbRX
      refine C18.out.mono ?_
      rintro e w19 ⟨rfl, hw20⟩
      clear C18
      replace HM := Lib.hid (HM.out.below hw20)
      replace HT := Lib.hid (RowIs.below HT.out hw20)
      replace HG := Lib.hid (HG.out.below hw20)
      replace HA := Lib.hid (HA.out.below hw20)
      replace HB0 := Lib.hid (HB0.out.below hw20)
      replace RA := Lib.hid (RowIs.below RA.out hw20)
      replace RB := Lib.hid (RowIs.below RB.out hw20)
      replace RX := Lib.hid (RowIs.below RX.out hw20)
      replace RY := Lib.hid (RowIs.below RY.out hw20)
      replace hB := bup hB hw20
      obtain ⟨Y21, hY21⟩ : ∃ Y21, (w19.alloc (.cells #[.int .i64 y1, .int .i64 y2] 29)).alloc (.cells #[.int .i64 z1, .int .i64 z2] 29) = Y21 := ⟨_, rfl⟩
      have hy22 : Below w19.heap.size w19 Y21 := by rw [← hY21]; exact Below.alloc1 (Below.alloc1 (Below.refl _ _) _ (Nat.le_refl _)) _ (Nat.le_refl _)
      replace HM := Lib.hid (HM.out.below hy22)
      replace HT := Lib.hid (RowIs.below HT.out hy22)
      replace HG := Lib.hid (HG.out.below hy22)
      replace HA := Lib.hid (HA.out.below hy22)
      replace HB0 := Lib.hid (HB0.out.below hy22)
      replace RA := Lib.hid (RowIs.below RA.out hy22)
      replace RB := Lib.hid (RowIs.below RB.out hy22)
      replace RX := Lib.hid (RowIs.below RX.out hy22)
      replace RY := Lib.hid (RowIs.below RY.out hy22)
      replace hB := bup hB hy22
      have RV := Lib.hid (show RowIs Y21 w19.heap.size #[.int .i64 y1, .int .i64 y2] 29 by rw [← hY21]; exact RowIs.alloc (heap_new_at _ _ _ rfl) _)
      have RW := Lib.hid (show RowIs Y21 (w19.heap.size + 1) #[.int .i64 z1, .int .i64 z2] 29 by rw [← hY21]; exact heap_new_at _ _ _ (by simp))
      obtain ⟨bRV, hbRV⟩ : ∃ bRV, w19.heap.size = bRV := ⟨_, rfl⟩
      rw [hbRV] at RV RW
      go_wp2_with fail
      clear hw20 hY21 hy22 hbRV
      have A0 := Lib.hid (fun (x : World) (hx : Below Y21.heap.size Y21 x) => Deserves_c a (some ⟨gHA, 0, none⟩) j cap j cHA m A l c sure x (HM.out.below hx) (HA.out.below hx) hn hn)
      have hA1 := fun (x : World) (hx : Below Y21.heap.size Y21 x) => Deserves_c a (some ⟨gB, 0, none⟩) j cap j cB m (fun i => k * A i) l c sure x (HM.out.below hx) (HB0.out.below hx) hn hn
      simp only [HD.out] at hA1
      have A1 := Lib.hid hA1
      clear hA1
      have A2 := Lib.hid works_c
      have heq0 := fun (w : World) => eqRat x1 x2 w
      have heq1 := fun (w : World) => eqRat y1 y2 w
      have heq2 := fun (w : World) => eqRat z1 z2 w
      obtain ⟨v230, v231, _, _, v23z⟩ := ratrow2 HT.out
      obtain ⟨v240, v241, _, _, v24z⟩ := ratrow2 RA.out
      obtain ⟨v250, v251, _, _, v25z⟩ := ratrow2 RB.out
      obtain ⟨v260, v261, _, _, v26z⟩ := ratrow2 RX.out
      obtain ⟨v270, v271, _, _, v27z⟩ := ratrow2 RY.out
      obtain ⟨v280, v281, _, _, v28z⟩ := ratrow2 RV.out
      obtain ⟨v290, v291, _, _, v29z⟩ := ratrow2 RW.out
      have hlc := fun (x : Later Y21) => later_cell x
      refine wp_region_later (by kernel_rfl) (by kernel_rfl) ?_
      repeat (go_big_quiet_step ((first | (with_reducible refine calls_later (A0.out _ (Later.h _))) | (with_reducible refine calls_later (A1.out _ (Later.h _))) | (with_reducible refine calls_later (A2.out _)))))
      refine wpQuiet_nil ?_
      clear hlc A0 A1 A2 heq0 heq1 heq2 v230 v231 v23z v240 v241 v24z v250 v251 v25z v260 v261 v26z v270 v271 v27z v280 v281 v28z v290 v291 v29z
      rintro ⟨w30, hw31⟩
      replace HM := Lib.hid (HM.out.below hw31)
      replace HT := Lib.hid (RowIs.below HT.out hw31)
      replace HG := Lib.hid (HG.out.below hw31)
      replace HA := Lib.hid (HA.out.below hw31)
      replace HB0 := Lib.hid (HB0.out.below hw31)
      replace RA := Lib.hid (RowIs.below RA.out hw31)
      replace RB := Lib.hid (RowIs.below RB.out hw31)
      replace RX := Lib.hid (RowIs.below RX.out hw31)
      replace RY := Lib.hid (RowIs.below RY.out hw31)
      replace RV := Lib.hid (RowIs.below RV.out hw31)
      replace RW := Lib.hid (RowIs.below RW.out hw31)
      replace hB := bup hB hw31
      go_wp2
      go_ret
      exact ⟨rfl, hB⟩

end Go.Proofs.YtehafggcncbnkaaGreat
