/- Contracts of package alloy: what is cheaper, what deserves a touch, valid metals. -/
import Derived.Test.YtehafggcncbnkaaGreatProg
import Derived.Test.YtehafggcncbnkaaGreatBasaa
import Derived.Test.YtehafggcncbnkaaGreatBasab
import Derived.Test.YtehafggcncbnkaaGreatBasac
namespace Go.Proofs.YtehafggcncbnkaaGreat
open Go.RowKit

theorem rat_bd {n d : Int} (hn : 0 ≤ n) (hd : 0 < d) : 0 ≤ ratN n d ∧ ratN n d ≤ n ∧ 0 < ratD n d ∧ ratD n d ≤ d := by
  have hg := gcd_bd n d hd
  unfold ratN ratD
  generalize (Int.gcd n d : Int) = g at *
  rw [Int.tdiv_eq_ediv_of_nonneg hn]
  refine ⟨Int.ediv_nonneg hn (by omega), Int.ediv_le_self _ hn, ?_, Int.ediv_le_self _ (by omega)⟩
  have : 1 ≤ d / g := (Int.le_ediv_iff_mul_le hg.1).2 (by omega)
  omega

/-- Units whose parts are 1. -/
def Ones (n : Nat) (u : Nat → U4) : Prop := Small n u ∧ ∀ i, i < n → (u i).q = 1

theorem parts_bd {n : Nat} {u : Nat → U4} {f : Nat → Int} (hO : Ones n u) (hf : ∀ i, i < 6 → 0 ≤ f i ∧ f i ≤ 1000000) :
    (0 ≤ unitSum u f n (·.q) ∧ unitSum u f n (·.q) ≤ 6000000) ∧ (0 ≤ unitSum u f n (·.p) ∧ unitSum u f n (·.p) ≤ 6000000000) := by
  have hn := hO.1.1
  have h1 := sumF_nn (fun i => f i * (u i).q) 1000000 n fun i hi => by
    have h1 := hf i (by omega)
    have h2 := hO.2 i hi
    rw [h2]; omega
  have h2 := sumF_nn (fun i => f i * (u i).p) 1000000000 n fun i hi => by
    have h1 := hf i (by omega)
    have h2 := (hO.1.2 i hi).2.1
    have := mul_bd h1.1 h1.2 h2.1 h2.2
    omega
  show (0 ≤ sumF (fun i => f i * (u i).q) n ∧ sumF (fun i => f i * (u i).q) n ≤ 6000000) ∧ (0 ≤ sumF (fun i => f i * (u i).p) n ∧ sumF (fun i => f i * (u i).p) n ≤ 6000000000)
  omega

/-- Of two mixtures of the same units the first one is cheaper. -/
def cheaperB (u : Nat → U4) (n : Nat) (f g : Nat → Int) : Bool :=
  ltB (ratN (unitSum u f n (·.p)) (unitSum u f n (·.q))) (ratD (unitSum u f n (·.p)) (unitSum u f n (·.q))) (ratN (unitSum u g n (·.p)) (unitSum u g n (·.q))) (ratD (unitSum u g n (·.p)) (unitSum u g n (·.q)))

set_option maxRecDepth 100000 in
set_option maxHeartbeats 1000000 in
theorem cheaper_c (a : Option Addr) (n cap : Nat) (u : Nat → U4) (f g : Nat → Int) (w : World) (hu : Units w a n u) (hO : Ones n u) (hf : ∀ i, i < 6 → 0 ≤ f i ∧ f i ≤ 1000000) (hg : ∀ i, i < 6 → 0 ≤ g i ∧ g i ≤ 1000000)
    (hq : 0 < unitSum u f n (·.q)) (hq2 : 0 < unitSum u g n (·.q)) :
    Calls Tryz.prog 73 #[.agg #[.slice a n cap], mixV f, mixV g] w fun r w' => r = .returned (.bool (cheaperB u n f g)) ∧ Below w.heap.size w w' := by
  have hb1 := parts_bd hO hf
  have hb2 := parts_bd hO hg
  have hr1 := rat_bd hb1.2.1 hq
  have hr2 := rat_bd hb2.2.1 hq2
  have hx1 := mul_bd hr1.1 (Int.le_trans hr1.2.1 hb1.2.2) (Int.le_of_lt hr2.2.2.1) (Int.le_trans hr2.2.2.2 hb2.1.2)
  have hx2 := mul_bd hr2.1 (Int.le_trans hr2.2.1 hb2.2.2) (Int.le_of_lt hr1.2.2.1) (Int.le_trans hr1.2.2.2 hb1.1.2)
  have HU := Lib.hid hu
  have HO := Lib.hid hO
  have HF := Lib.hid hf
  have HG := Lib.hid hg
  clear hu hO hf hg hb1 hb2 hr1 hr2
  go_enter Tryz.func73, Tryz.ntmps73
  go_wp2_with fail
  obtain ⟨W, hW⟩ : ∃ W, (((w.alloc (.cells #[.slice a n cap] 83)).alloc (.cells #[.int .i64 (f 0), .int .i64 (f 1), .int .i64 (f 2), .int .i64 (f 3), .int .i64 (f 4), .int .i64 (f 5)] 88)).alloc (.cells #[.int .i64 (g 0), .int .i64 (g 1), .int .i64 (g 2), .int .i64 (g 3), .int .i64 (g 4), .int .i64 (g 5)] 88)) = W := ⟨_, rfl⟩
  have hB : Below w.heap.size w W := by
    rw [← hW]
    exact (((Below.refl _ _).alloc (Nat.le_refl _) _).alloc (by simp) _).alloc (by rw [World.size_alloc, World.size_alloc]; omega) _
  have hs : RowIs W w.heap.size #[.slice a n cap] 83 := by rw [← hW]; exact RowIs.alloc (RowIs.alloc (heap_new_at _ _ _ rfl) _) _
  have s0 : W.cell? ⟨w.heap.size, 0, none⟩ = some (.slice a n cap) := hs.cell 0
  have hm : RowIs W (w.heap.size + 1) #[.int .i64 (f 0), .int .i64 (f 1), .int .i64 (f 2), .int .i64 (f 3), .int .i64 (f 4), .int .i64 (f 5)] 88 := by rw [← hW]; exact RowIs.alloc (heap_new_at _ _ _ (by simp)) _
  have hm2 : RowIs W (w.heap.size + 1 + 1) #[.int .i64 (g 0), .int .i64 (g 1), .int .i64 (g 2), .int .i64 (g 3), .int .i64 (g 4), .int .i64 (g 5)] 88 := by rw [← hW]; exact (heap_new_at _ _ _ (by simp))
  have hz : w.heap.size + 1 + 1 < W.heap.size := by rw [← hW]; simp
  have hz1 : w.heap.size + 1 < W.heap.size := by omega
  have hz0 : w.heap.size < W.heap.size := by omega
  have f0 := mix_row hm 0 (by omega)
  have f1 := mix_row hm 1 (by omega)
  have f2 := mix_row hm 2 (by omega)
  have f3 := mix_row hm 3 (by omega)
  have f4 := mix_row hm 4 (by omega)
  have f5 := mix_row hm 5 (by omega)
  have g0 := mix_row hm2 0 (by omega)
  have g1 := mix_row hm2 1 (by omega)
  have g2 := mix_row hm2 2 (by omega)
  have g3 := mix_row hm2 3 (by omega)
  have g4 := mix_row hm2 4 (by omega)
  have g5 := mix_row hm2 5 (by omega)
  rw [hW]
  clear hW hm hm2 hs
  have hlc := fun (x : Later W) => later_cell x
  have hc1 := fun (x : Later W) => cost_c a n cap u f x.w ((HU.out.below hB).below x.h) HO.out.1 (fun i hi => by have := HF.out i hi; omega) hq
  have hc2 := fun (x : Later W) => cost_c a n cap u g x.w ((HU.out.below hB).below x.h) HO.out.1 (fun i hi => by have := HG.out i hi; omega) hq2
  have H1 := Lib.hid hc1
  have H2 := Lib.hid hc2
  clear hc1 hc2
  refine wp_region_later (by kernel_rfl) (by kernel_rfl) ?_
  repeat (go_big_quiet_step ((first | (refine calls_later (below_c _ _ _ _ _ (by omega) (by omega) (by omega) (by omega))) | (with_reducible refine calls_later (H1.out _)) | (with_reducible refine calls_later (H2.out _)))))
  refine wpQuiet_nil ?_
  clear hlc
  rintro ⟨w2, hb2⟩
  go_wp2
  go_ret
  exact ⟨rfl, hB.trans (hb2.mono (by omega))⟩

end Go.Proofs.YtehafggcncbnkaaGreat

namespace Go.Proofs.YtehafggcncbnkaaGreat
open Go.RowKit
theorem size2 (w : World) : (sizeOf 2).run Tryz.prog w = .ok 1 w := by kernel_rfl

theorem eq64 (d : Nat) (x y : Int) (w : World) : (Op.equalIn (d + 1) 2 (.int .i64 x) (.int .i64 y)).run Tryz.prog w = .ok (x == y) w := by
  simp [Op.equalIn, run_underlying Tryz.underlying2]

set_option maxRecDepth 100000 in
theorem eqSums (x0 x1 x2 x3 : Int) (w : World) :
    (Op.equalIn 10000 92 (.agg #[.int .i64 x0, .int .i64 x1, .int .i64 x2, .int .i64 x3]) (.agg #[.int .i64 0, .int .i64 0, .int .i64 0, .int .i64 0])).run Tryz.prog w = .ok (x0 == 0 && (x1 == 0 && (x2 == 0 && x3 == 0))) w := by
  rw [show (10000 : Nat) = 9999 + 1 from rfl]
  unfold Op.equalIn
  have e9 : ∀ (x y : Int) (w : World), (Op.equalIn 9999 2 (.int .i64 x) (.int .i64 y)).run Tryz.prog w = .ok (x == y) w := fun x y w => eq64 9998 x y w
  have p0 : ∀ (a b c d : Value) (w : World), (part 2 #[a, b, c, d] 0).run Tryz.prog w = .ok a w := fun _ _ _ _ _ => by kernel_rfl
  have p1 : ∀ (a b c d : Value) (w : World), (part 2 #[a, b, c, d] 1).run Tryz.prog w = .ok b w := fun _ _ _ _ _ => by kernel_rfl
  have p2 : ∀ (a b c d : Value) (w : World), (part 2 #[a, b, c, d] 2).run Tryz.prog w = .ok c w := fun _ _ _ _ _ => by kernel_rfl
  have p3 : ∀ (a b c d : Value) (w : World), (part 2 #[a, b, c, d] 3).run Tryz.prog w = .ok d w := fun _ _ _ _ _ => by kernel_rfl
  simp [run_underlying Tryz.underlying92]
  rw [show List.range' 0 4 = [0, 1, 2, 3] from rfl]
  cases h0 : (x0 == 0) <;> cases h1 : (x1 == 0) <;> cases h2 : (x2 == 0) <;> cases h3 : (x3 == 0) <;> simp [p0, p1, p2, p3, e9, h0, h1, h2, h3]
end Go.Proofs.YtehafggcncbnkaaGreat

namespace Go.Proofs.YtehafggcncbnkaaGreat
open Go.RowKit

theorem sumF_congr {f g : Nat → Int} : ∀ k, (∀ i, i < k → f i = g i) → sumF f k = sumF g k
  | 0, _ => rfl
  | k + 1, h => by simp only [sumF, sumF_congr k fun i hi => h i (by omega), h k (by omega)]

theorem unitSum_pad (u : Nat → U4) (f : Nat → Int) (n : Nat) (c : U4 → Int) : unitSum u (padF f n) n c = unitSum u f n c :=
  sumF_congr n fun i hi => by simp [padF, hi]

theorem unitSum_ones {u : Nat → U4} {f : Nat → Int} {n : Nat} (h : ∀ i, i < n → (u i).q = 1) : unitSum u f n (·.q) = sumF f n :=
  sumF_congr n fun i hi => by show f i * (u i).q = f i; rw [h i hi]; omega

theorem sumF_zero {f : Nat → Int} : ∀ n, (∀ i, i < n → 0 ≤ f i) → sumF f n = 0 → ∀ i, i < n → f i = 0
  | 0, _, _, i, hi => by omega
  | n + 1, h, hs, i, hi => by
    have h1 := sumF_nn' f n fun i hi => h i (by omega)
    have h2 := h n (by omega)
    simp only [sumF] at hs
    by_cases e : i = n
    · subst e; omega
    · exact sumF_zero n (fun i hi => h i (by omega)) (by omega) i (by omega)
  where
  sumF_nn' (f : Nat → Int) : ∀ n, (∀ i, i < n → 0 ≤ f i) → 0 ≤ sumF f n
    | 0, _ => by simp [sumF]
    | n + 1, h => by
      have := sumF_nn' f n fun i hi => h i (by omega)
      have := h n (by omega)
      simp only [sumF]
      omega

theorem unitSum_zero {u : Nat → U4} {f : Nat → Int} {n : Nat} (h : ∀ i, i < n → f i = 0) (c : U4 → Int) : unitSum u f n c = 0 := by
  have : unitSum u f n c = sumF (fun _ => 0) n := sumF_congr n fun i hi => by rw [h i hi]; simp
  rw [this]
  clear this h
  induction n with
  | zero => rfl
  | succ n ih => simp [sumF, ih]

theorem within_out (f : Nat → Int) : ∀ n, withinB 0 1000000 f n = !anyOut f n
  | 0 => rfl
  | n + 1 => by
    simp only [withinB, anyOut, within_out f n, Bool.not_or]
    congr 1
    rw [Bool.eq_iff_iff]
    simp <;> omega

set_option maxRecDepth 100000 in
set_option maxHeartbeats 1000000 in
theorem checkMixture_c (a b : Option Addr) (n cap len cap2 : Nat) (u : Nat → U4) (f : Nat → Int) (w : World) (hu : Units w a n u) (hO : Ones n u) (hn0 : 0 < n) (hf : Ints w b len f) (hl : len ≤ 1048576) :
    Calls Tryz.prog 57 #[.agg #[.slice a n cap], .slice b len cap2] w fun r w' => r = .returned (.int .i64 (mixE n len f)) ∧ Below w.heap.size w w' := by
  have hn6 := hO.1.1
  have hB0 : Below w.heap.size w (w.alloc (.cells #[.slice a n cap] 83)) := (Below.refl _ _).alloc (Nat.le_refl _) _
  by_cases hne : len = n
  · subst hne
    have hne' : ((len : Int) != len) = false := by simp
    have hf0 := hf.below hB0
    by_cases ho : anyOut f len = true
    · go_enter Tryz.func57, Tryz.ntmps57
      go_wp2_with fail
      refine (within_c 0 1000000 b len cap2 f _ hf0 hl).mono ?_
      rintro e w1 ⟨he, rfl⟩
      rw [within_out, ho] at he
      subst he
      go_wp2_with fail
      go_ret
      exact ⟨ret_i (by unfold mixE; rw [if_neg (by simp), ho]; rfl), hB0⟩
    · have ho' : anyOut f len = false := by simpa using ho
      have hfb := anyOut_no f len ho'
      have hpad : ∀ i, i < 6 → 0 ≤ padF f len i ∧ padF f len i ≤ 2147483648 := fun i hi => by
        unfold padF
        split
        · rename_i h; have := hfb i h; omega
        · omega
      have hq := unitSum_ones (f := f) hO.2
      have hua := units_lt hu
      have HU := Lib.hid hu
      have HO := Lib.hid hO
      have HF := Lib.hid hf
      have HB := Lib.hid hfb
      have Ho := Lib.hid ho'
      have HP := Lib.hid hpad
      have Hq := Lib.hid hq
      clear hu hO hf ho ho' hfb hpad hq
      go_enter Tryz.func57, Tryz.ntmps57
      go_wp2_with fail
      refine (within_c 0 1000000 b len cap2 f _ hf0 hl).mono ?_
      rintro e w1 ⟨he, rfl⟩
      rw [within_out, Ho.out] at he
      subst he
      go_wp2_with fail
      obtain ⟨W, hW⟩ : ∃ W, ((w.alloc (.cells #[.slice a len cap] 83)).alloc (.cells #[.int .i64 0, .int .i64 0, .int .i64 0, .int .i64 0] 92)) = W := ⟨_, rfl⟩
      have hB : Below w.heap.size w W := by
        rw [← hW]
        exact ((Below.refl _ _).alloc (Nat.le_refl _) _).alloc (by simp) _
      have hs : RowIs W w.heap.size #[.slice a len cap] 83 := by rw [← hW]; exact RowIs.alloc (heap_new_at _ _ _ rfl) _
      have s0 : W.cell? ⟨w.heap.size, 0, none⟩ = some (.slice a len cap) := hs.cell 0
      have ht : RowIs W (w.heap.size + 1) #[.int .i64 0, .int .i64 0, .int .i64 0, .int .i64 0] 92 := by rw [← hW]; exact heap_new_at _ _ _ (by simp)
      have hz : W.heap.size = w.heap.size + 2 := by rw [← hW]; simp only [World.size_alloc]
      have hz0 : w.heap.size < W.heap.size := by omega
      rw [hW]
      have Ht := Lib.hid ht
      have Hz := Lib.hid hz
      clear hW hs ht hz
      have hlc := fun (x : Later W) => later_cell x
      have ht1 := fun (x : Later W) => takeOver_c b len cap2 f x.w ((HF.out.below hB).below x.h) hn6
      have HT := Lib.hid ht1
      clear ht1 hf0
      refine wp_region_later_tail 3 (by kernel_rfl) (by kernel_rfl) ?_
      simp only [List.take_succ_cons, List.take_zero, List.drop_succ_cons, List.drop_zero]
      repeat (go_big_quiet_step ((with_reducible refine calls_later (HT.out _))))
      refine wpQuiet_nil ?_
      clear hlc HT
      rintro ⟨w2, hb2⟩
      have ht2 : RowIs w2 (w.heap.size + 1) #[.int .i64 0, .int .i64 0, .int .i64 0, .int .i64 0] 92 := (hb2.block _ (by rw [Hz.out]; omega)).trans Ht.out
      go_wp2_with fail
      refine (weigh_c a len cap (w.heap.size + 1) u (padF f len) _ _ _ _ 92 w2 ((HU.out.below hB).below hb2) HO.out.1 HP.out ht2 ?_).mono ?_
      · intro b' off e
        have := hua b' off e hn0
        omega
      rintro e w3 ⟨rfl, hrow, hg⟩
      have hT : Below w.heap.size w w3 := (bup hB hb2).trans (grown_below hg (by omega) (by have := hB.size; have := hb2.size; omega))
      have q0 : w3.cell? ⟨w.heap.size + 1, 0, none⟩ = some (.int .i64 (unitSum u f len (·.q))) := by rw [hrow.cell 0, ← unitSum_pad]; rfl
      have q1 : w3.cell? ⟨w.heap.size + 1, 1, none⟩ = some (.int .i64 (unitSum u f len (·.p))) := by rw [hrow.cell 1, ← unitSum_pad]; rfl
      have q2 : w3.cell? ⟨w.heap.size + 1, 2, none⟩ = some (.int .i64 (unitSum u f len (·.l))) := by rw [hrow.cell 2, ← unitSum_pad]; rfl
      have q3 : w3.cell? ⟨w.heap.size + 1, 3, none⟩ = some (.int .i64 (unitSum u f len (·.c))) := by rw [hrow.cell 3, ← unitSum_pad]; rfl
      clear hrow hg ht2
      rw [Hq.out] at q0
      by_cases hs : sumF f len = 0
      · have hz := sumF_zero len (fun i hi => (HB.out i hi).1) hs
        rw [hs] at q0
        rw [unitSum_zero hz] at q1 q2 q3
        have Hs := Lib.hid hs
        clear hs hz
        have heq := eqSums 0 0 0 0 w3
        go_wp2
        go_ret
        exact ⟨ret_i (by unfold mixE; rw [if_neg (by simp), Ho.out, Hs.out]; rfl), hT⟩
      · have hs1 : (sumF f len == 0) = false := by simpa using hs
        have Hs := Lib.hid hs
        clear hs
        have heq := eqSums (sumF f len) (unitSum u f len (·.p)) (unitSum u f len (·.l)) (unitSum u f len (·.c)) w3
        rw [hs1] at heq
        simp only [Bool.false_and] at heq
        clear hs1
        go_wp2
        go_ret
        exact ⟨ret_i (by unfold mixE; rw [if_neg (by simp), Ho.out]; simp [Hs.out]), hT⟩
  · have hne' : ((len : Int) != n) = true := by simp; omega
    go_enter Tryz.func57, Tryz.ntmps57
    go_wp2
    go_ret
    exact ⟨ret_i (by unfold mixE; rw [if_pos hne]), hB0⟩

end Go.Proofs.YtehafggcncbnkaaGreat

namespace Go.Proofs.YtehafggcncbnkaaGreat
open Go.RowKit

theorem ones_of {n : Nat} {m : Nat → M5} (h : Fine n m) (ml mc : Bool) : Ones n (fun i => unitOf ml mc (m i)) := by
  refine ⟨⟨h.2.1, fun i hi => ?_⟩, fun i _ => rfl⟩
  have := h.2.2 i hi
  cases ml <;> cases mc <;> simp [unitOf] <;> omega

theorem pad_bd {f : Nat → Int} {n : Nat} {B : Int} (hB : 0 ≤ B) (h : ∀ i, i < n → 0 ≤ f i ∧ f i ≤ B) (i : Nat) : 0 ≤ padF f n i ∧ padF f n i ≤ B := by
  unfold padF
  split
  · rename_i hi; exact h i hi
  · omega

set_option maxRecDepth 100000 in
set_option maxHeartbeats 2000000 in
theorem Cost_c (a b : Option Addr) (n cap len cap2 : Nat) (m : Nat → M5) (f : Nat → Int) (w : World) (hm : Metals w a n m) (hf : Ints w b len f) (hn : n ≤ 1048576) (hl : len ≤ 1048576) :
    Calls Tryz.prog 19 #[.slice a n cap, .slice b len cap2] w fun e w' => e = .returned (re2 (costR n m len f)) ∧ Below w.heap.size w w' := by
  have hB0 : Below w.heap.size w (w.alloc (.cells #[.int .i64 0, .int .i64 0] 29)) := (Below.refl _ _).alloc (Nat.le_refl _) _
  have hm0 := hm.below hB0
  have hf0 := hf.below hB0
  clear hm hf
  by_cases h0 : metalsE n m = 0
  · have h0' : (metalsE n m != 0) = false := by simp [h0]
    have hFine := fine_of h0
    have hO := ones_of hFine true true
    have hn0 : 0 < n := hFine.1
    have H0 := Lib.hid h0
    clear h0
    by_cases h1 : mixE n len f = 0
    · have h1' : (mixE n len f != 0) = false := by simp [h1]
      obtain ⟨e, hfb, hs⟩ := mix_ok h1
      subst e
      have ev : costR len m len f = (ratN (priceF m f len) (sumF f len), ratD (priceF m f len) (sumF f len), 0) := by
        unfold costR; rw [if_neg (by simp [H0.out]), if_neg (by simp [h1])]
      rw [ev]
      have H1 := Lib.hid h1
      have HFB := Lib.hid hfb
      have HO := Lib.hid hO
      have HF := Lib.hid hFine
      clear h1 ev hfb hO hFine
      go_enter Tryz.func19, Tryz.ntmps19
      go_wp2_with fail
      refine (checkMetals_c a len cap m _ hm0 (by omega)).mono ?_
      rintro e w1 ⟨rfl, hb1⟩
      go_wp2_with fail
      refine (newStock_c a len cap m true true _ (hm0.below hb1) (by omega)).mono ?_
      rintro e w2 ⟨g, hg, rfl, hU, hb2⟩
      have hb12 := bup hb1 hb2
      go_wp2_with fail
      have hbs := Below.alloc1 (Below.refl w2.heap.size w2) (.cells #[.slice (some ⟨g, 0, none⟩) len len] 83) (Nat.le_refl _)
      refine (checkMixture_c _ _ len len len cap2 _ f _ (hU.below hbs) HO.out hn0 (hf0.below (bup hb12 hbs)) (by omega)).mono ?_
      rintro e w3 ⟨rfl, hb3⟩
      have hB3 : Below w2.heap.size w2 w3 := bup hbs hb3
      have hB4 := bup hb12 hB3
      go_wp2_with fail
      have hst : RowIs w3 w2.heap.size #[.slice (some ⟨g, 0, none⟩) len len] 83 := by
        rw [RowIs, hb3.block _ (by simp)]
        exact heap_new_at _ _ _ rfl
      have s0 : w3.cell? ⟨w2.heap.size, 0, none⟩ = some (.slice (some ⟨g, 0, none⟩) len len) := hst.cell 0
      have hzs : w2.heap.size < w3.heap.size := (Array.getElem?_eq_some_iff.1 hst).1
      have hr3 : RowIs w3 w.heap.size #[.int .i64 0, .int .i64 0] 29 := by
        rw [RowIs, hB4.block _ (by simp)]
        exact heap_new_at _ _ _ rfl
      have hzr : w.heap.size < w3.heap.size := (Array.getElem?_eq_some_iff.1 hr3).1
      have ht1 := fun (x : Later w3) => takeOver_c b len cap2 f x.w ((hf0.below hB4).below x.h) HF.out.2.1
      have hq : 0 < unitSum (fun i => unitOf true true (m i)) (padF f len) len (·.q) := by
        rw [unitSum_pad, unitSum_ones HO.out.2]; exact hs
      have ht2 := fun (x : Later w3) => cost_c (some ⟨g, 0, none⟩) len len (fun i => unitOf true true (m i)) (padF f len) x.w ((hU.below hB3).below x.h) HO.out.1 (fun i _ => by have := pad_bd (by omega) HFB.out i; omega) hq
      have HT1 := Lib.hid ht1
      have HT2 := Lib.hid ht2
      have HR := Lib.hid hr3
      clear ht1 ht2 hr3 hst hq
      have hlc := fun (x : Later w3) => later_cell x
      refine wp_region_later_tail 4 (by kernel_rfl) (by kernel_rfl) ?_
      simp only [List.take_succ_cons, List.take_zero, List.drop_succ_cons, List.drop_zero]
      repeat (go_big_quiet_step ((first | (with_reducible refine calls_later (HT1.out _)) | (with_reducible refine calls_later (HT2.out _)))))
      refine wpQuiet_nil ?_
      clear hlc
      rintro ⟨w4, hb4⟩
      have hr4 : RowIs w4 w.heap.size #[.int .i64 0, .int .i64 0] 29 := (hb4.block _ hzr).trans HR.out
      have r0 := hr4.cell 0
      have r1 := hr4.cell 1
      have z0 := hr4.frozen 0
      have z1 := hr4.frozen 1
      simp at r0 r1
      clear hr4 s0
      have e1 : unitSum (fun i => unitOf true true (m i)) (padF f len) len (·.p) = priceF m f len := by rw [unitSum_pad]; rfl
      have e2 : unitSum (fun i => unitOf true true (m i)) (padF f len) len (·.q) = sumF f len := by rw [unitSum_pad, unitSum_ones HO.out.2]
      simp only [e1, e2]
      clear e1 e2
      go_wp2_with fail
      refine bodyPost_ret (v := re2 (ratN (priceF m f len) (sumF f len), ratD (priceF m f len) (sumF f len), 0)) (by simp [results, Tryz.results19, go_sem, r0, r1]) rfl ⟨rfl, ?_⟩
      exact ((bup (bup hB0 hB4) hb4).setCell (p := ⟨w.heap.size, 0, none⟩) (Nat.le_refl _) _).setCell (p := ⟨w.heap.size, 1, none⟩) (Nat.le_refl _) _
    · have h1' : (mixE n len f != 0) = true := by simp [h1]
      have ev : costR n m len f = (0, 0, mixE n len f) := by
        unfold costR; rw [if_neg (by simp [H0.out]), if_pos h1]
      rw [ev]
      have HO := Lib.hid hO
      clear h1 ev hO hFine
      go_enter Tryz.func19, Tryz.ntmps19
      go_wp2_with fail
      refine (checkMetals_c a n cap m _ hm0 (by omega)).mono ?_
      rintro e w1 ⟨rfl, hb1⟩
      go_wp2_with fail
      refine (newStock_c a n cap m true true _ (hm0.below hb1) (by omega)).mono ?_
      rintro e w2 ⟨g, hg, rfl, hU, hb2⟩
      have hb12 := bup hb1 hb2
      go_wp2_with fail
      have hbs := Below.alloc1 (Below.refl w2.heap.size w2) (.cells #[.slice (some ⟨g, 0, none⟩) n n] 83) (Nat.le_refl _)
      refine (checkMixture_c _ _ n n len cap2 _ f _ (hU.below hbs) HO.out hn0 (hf0.below (bup hb12 hbs)) (by omega)).mono ?_
      rintro e w3 ⟨rfl, hb3⟩
      have hB3 : Below w2.heap.size w2 w3 := bup hbs hb3
      have hB4 := bup hb12 hB3
      obtain ⟨hc, hff⟩ := bcell hB4
      have hz := hB4.size
      go_wp2_with fail
      refine bodyPost_ret (v := re2 (0, 0, mixE n len f)) (by simp [results, Tryz.results19, go_sem, hc]) rfl ⟨rfl, ?_⟩
      exact ((bup hB0 hB4).setCell (p := ⟨w.heap.size, 0, none⟩) (Nat.le_refl _) _).setCell (p := ⟨w.heap.size, 1, none⟩) (Nat.le_refl _) _
  · have h0' : (metalsE n m != 0) = true := by simp [h0]
    have ev : costR n m len f = (0, 0, metalsE n m) := by unfold costR; rw [if_pos h0]
    rw [ev]
    clear h0 ev
    go_enter Tryz.func19, Tryz.ntmps19
    go_wp2_with fail
    refine (checkMetals_c a n cap m _ hm0 (by omega)).mono ?_
    rintro e w1 ⟨rfl, hb1⟩
    obtain ⟨hc, hff⟩ := bcell hb1
    have hz := hb1.size
    go_wp2_with fail
    refine bodyPost_ret (v := re2 (0, 0, metalsE n m)) (by simp [results, Tryz.results19, go_sem, hc]) rfl ⟨rfl, ?_⟩
    exact ((bup hB0 hb1).setCell (p := ⟨w.heap.size, 0, none⟩) (Nat.le_refl _) _).setCell (p := ⟨w.heap.size, 1, none⟩) (Nat.le_refl _) _

end Go.Proofs.YtehafggcncbnkaaGreat

namespace Go.Proofs.YtehafggcncbnkaaGreat
open Go.RowKit

abbrev potV (g n : Nat) (l c : Int) : Value := .agg #[.slice (some ⟨g, 0, none⟩) n n, .int .i64 1, .int .i64 0, .int .i64 l, .int .i64 c]
abbrev noPot : Value := .agg #[.slice none 0 0, .int .i64 0, .int .i64 0, .int .i64 0, .int .i64 0]

set_option maxRecDepth 100000 in
set_option maxHeartbeats 2000000 in
theorem newPot_err_c (a : Option Addr) (n cap : Nat) (m : Nat → M5) (l c : Int) (s : Bool) (w : World) (hm : Metals w a n m) (hn : n ≤ 1048576) (he : bothE n m l c ≠ 0) :
    Calls Tryz.prog 67 #[.slice a n cap, .agg #[.int .i64 l, .int .i64 c], .bool s] w fun e w' => e = .returned (.tuple #[noPot, .int .i64 (bothE n m l c)]) ∧ Below w.heap.size w w' := by
  have hB0 : Below w.heap.size w ((w.alloc (.cells #[.int .i64 l, .int .i64 c] 24)).alloc (.cells #[.slice none 0 0, .int .i64 0, .int .i64 0, .int .i64 0, .int .i64 0] 102)) := ((Below.refl _ _).alloc (Nat.le_refl _) _).alloc (by simp) _
  have hm0 := hm.below hB0
  clear hm
  by_cases h0 : metalsE n m = 0
  · have ht : touchE l c ≠ 0 := by
      intro h; apply he; unfold bothE; rw [if_neg (by simp [h0]), h]
    have ev : bothE n m l c = touchE l c := by unfold bothE; rw [if_neg (by simp [h0])]
    have h1 : (metalsE n m != 0) = false := by simp [h0]
    have h2 : (touchE l c != 0) = true := by simp [ht]
    rw [ev]
    clear h0 he ev ht
    go_enter Tryz.func67, Tryz.ntmps67
    go_wp2_with fail
    refine (checkMetals_c a n cap m _ hm0 (by omega)).mono ?_
    rintro e w1 ⟨rfl, hb1⟩
    obtain ⟨hc, hf⟩ := bcell hb1
    have hz := hb1.size
    have hz0 : w.heap.size < w1.heap.size := by simp at hz; omega
    go_wp2_with fail
    refine (checkTouch_c l c _).mono ?_
    rintro e w2 ⟨rfl, hb2⟩
    have hb12 := bup hb1 hb2
    clear hc hf hz
    obtain ⟨hc, hf⟩ := bcell hb12
    have hz := hb12.size
    go_wp2_with fail
    refine bodyPost_ret (v := .tuple #[noPot, .int .i64 (touchE l c)]) (by simp [results, Tryz.results67, go_sem, hc]) rfl ⟨rfl, ?_⟩
    exact (((((bup hB0 hb12).mono (Nat.le_refl _)).setCell (p := ⟨w.heap.size + 1, 0, none⟩) (Nat.le_succ _) _).setCell (p := ⟨w.heap.size + 1, 1, none⟩) (Nat.le_succ _) _).setCell (p := ⟨w.heap.size + 1, 2, none⟩) (Nat.le_succ _) _).setCell (p := ⟨w.heap.size + 1, 3, none⟩) (Nat.le_succ _) _ |>.setCell (p := ⟨w.heap.size + 1, 4, none⟩) (Nat.le_succ _) _
  · have ev : bothE n m l c = metalsE n m := by unfold bothE; rw [if_pos h0]
    have h1 : (metalsE n m != 0) = true := by simp [h0]
    rw [ev]
    clear h0 he ev
    go_enter Tryz.func67, Tryz.ntmps67
    go_wp2_with fail
    refine (checkMetals_c a n cap m _ hm0 (by omega)).mono ?_
    rintro e w1 ⟨rfl, hb1⟩
    obtain ⟨hc, hf⟩ := bcell hb1
    have hz := hb1.size
    go_wp2_with fail
    refine bodyPost_ret (v := .tuple #[noPot, .int .i64 (metalsE n m)]) (by simp [results, Tryz.results67, go_sem, hc]) rfl ⟨rfl, ?_⟩
    exact (((((bup hB0 hb1).mono (Nat.le_refl _)).setCell (p := ⟨w.heap.size + 1, 0, none⟩) (Nat.le_succ _) _).setCell (p := ⟨w.heap.size + 1, 1, none⟩) (Nat.le_succ _) _).setCell (p := ⟨w.heap.size + 1, 2, none⟩) (Nat.le_succ _) _).setCell (p := ⟨w.heap.size + 1, 3, none⟩) (Nat.le_succ _) _ |>.setCell (p := ⟨w.heap.size + 1, 4, none⟩) (Nat.le_succ _) _

end Go.Proofs.YtehafggcncbnkaaGreat

namespace Go.Proofs.YtehafggcncbnkaaGreat
open Go.RowKit

/-- The units of a pot: bad lead and good copper. -/
abbrev potU (s : Bool) (m : Nat → M5) (i : Nat) : U4 := unitOf s (!s) (m i)

set_option maxRecDepth 100000 in
set_option maxHeartbeats 4000000 in
theorem newPot_c (a : Option Addr) (n cap : Nat) (m : Nat → M5) (l c : Int) (s : Bool) (w : World) (hm : Metals w a n m) (hn : n ≤ 1048576) (he : bothE n m l c = 0) :
    Calls Tryz.prog 67 #[.slice a n cap, .agg #[.int .i64 l, .int .i64 c], .bool s] w fun e w' => ∃ g, e = .returned (.tuple #[potV g n l c, .int .i64 0]) ∧ Units w' (some ⟨g, 0, none⟩) n (potU s m) ∧ Below w.heap.size w w' := by
  have hB0 : Below w.heap.size w ((w.alloc (.cells #[.int .i64 l, .int .i64 c] 24)).alloc (.cells #[.slice none 0 0, .int .i64 0, .int .i64 0, .int .i64 0, .int .i64 0] 102)) := ((Below.refl _ _).alloc (Nat.le_refl _) _).alloc (by simp) _
  have hm0 := hm.below hB0
  clear hm
  have h0 : metalsE n m = 0 := by
    unfold bothE at he
    split at he
    · omega
    · omega
  have ht : touchE l c = 0 := by
    unfold bothE at he
    rw [if_neg (by simp [h0])] at he
    exact he
  have h1 : (metalsE n m != 0) = false := by simp [h0]
  have h2 : (touchE l c != 0) = false := by simp [ht]
  clear h0 ht he
  go_enter Tryz.func67, Tryz.ntmps67
  go_wp2_with fail
  refine (checkMetals_c a n cap m _ hm0 (by omega)).mono ?_
  rintro e w1 ⟨rfl, hb1⟩
  obtain ⟨hc, hf⟩ := bcell hb1
  have hz := hb1.size
  have hz0 : w.heap.size < w1.heap.size := by simp at hz; omega
  go_wp2_with fail
  refine (checkTouch_c l c _).mono ?_
  rintro e w2 ⟨rfl, hb2⟩
  have hb12 := bup hb1 hb2
  clear hc hf hz
  have hs0 : RowIs w2 w.heap.size #[.int .i64 l, .int .i64 c] 24 := by
    rw [RowIs, hb12.block _ (by simp; omega)]
    exact RowIs.alloc (heap_new_at _ _ _ rfl) _
  have hs1 : RowIs w2 (w.heap.size + 1) #[.slice none 0 0, .int .i64 0, .int .i64 0, .int .i64 0, .int .i64 0] 102 := by
    rw [RowIs, hb12.block _ (by simp)]
    exact heap_new_at _ _ _ (by simp)
  have l0 : w2.cell? ⟨w.heap.size, 0, none⟩ = some (.int .i64 l) := hs0.cell 0
  have l1 : w2.cell? ⟨w.heap.size, 1, none⟩ = some (.int .i64 c) := hs0.cell 1
  have hsz : w.heap.size + 1 < w2.heap.size := (Array.getElem?_eq_some_iff.1 hs1).1
  have hm2 := hm0.below hb12
  have HM := Lib.hid hm2
  have H1 := Lib.hid hs1
  have HB := Lib.hid hb12
  clear hs0 hs1 hm2 hm0 hb1 hb2 hb12 hz0
  cases s
  all_goals
    go_wp2_with fail
    go_region_held3 (fun w' => w'.cell? ⟨w.heap.size, 0, none⟩ = some (.int .i64 l) ∧ w'.cell? ⟨w.heap.size, 1, none⟩ = some (.int .i64 c))
      (first | go_keep | (refine ⟨?_, ?_⟩ <;> (rw [hb3.cell (by show w.heap.size < w2.heap.size; omega)]; assumption)))
      ((first
        | (go_at_call 56; refine (newStock_c a n cap m _ _ _ (Metals.below HM.out (Below.refl _ _).drew) hn).mono ?_; rintro e w3 ⟨g, hgl, rfl, hU, hb3⟩; have hr3 : RowIs w3 (w.heap.size + 1) #[.slice none 0 0, .int .i64 0, .int .i64 0, .int .i64 0, .int .i64 0] 102 := (hb3.block _ hsz).trans H1.out; have r0 := hr3.cell 0; have r1 := hr3.cell 1; have r2 := hr3.cell 2; have r3 := hr3.cell 3; have r4 := hr3.cell 4; have z0 := hr3.frozen 0; have z1 := hr3.frozen 1; have z2 := hr3.frozen 2; have z3 := hr3.frozen 3; have z4 := hr3.frozen 4; simp at r0 r1 r2 r3 r4; clear hr3)))
    all_goals
      go_wp2
      refine bodyPost_ret (v := .tuple #[potV g n l c, .int .i64 0]) (by simp [results, Tryz.results67, go_sem, r0, r1, r2, r3, r4]) rfl ⟨g, rfl, ?_, ?_⟩
      · have hne : w.heap.size + 1 ≠ g := by
          have : w2.heap.size < g := hgl
          omega
        rcases hU with h | ⟨b, off, e, hb, hc⟩
        · exact .inl h
        · cases e
          refine .inr ⟨g, 0, rfl, by simpa [World.setCell] using hb, fun i hi => ?_⟩
          obtain ⟨q0, q1, q2, q3⟩ := hc i hi
          refine ⟨?_, ?_, ?_, ?_⟩ <;> (rw [World.cell?_setCell_far _ _ _ _ hne, World.cell?_setCell_far _ _ _ _ hne, World.cell?_setCell_far _ _ _ _ hne, World.cell?_setCell_far _ _ _ _ hne, World.cell?_setCell_far _ _ _ _ hne]; assumption)
      · have hT : Below w.heap.size w w3 := bup (bup hB0 HB.out) ((Below.refl _ w2).drew.trans hb3)
        exact ((((hT.setCell (p := ⟨w.heap.size + 1, 0, none⟩) (Nat.le_succ _) _).setCell (p := ⟨w.heap.size + 1, 1, none⟩) (Nat.le_succ _) _).setCell (p := ⟨w.heap.size + 1, 2, none⟩) (Nat.le_succ _) _).setCell (p := ⟨w.heap.size + 1, 3, none⟩) (Nat.le_succ _) _).setCell (p := ⟨w.heap.size + 1, 4, none⟩) (Nat.le_succ _) _

end Go.Proofs.YtehafggcncbnkaaGreat

namespace Go.Proofs.YtehafggcncbnkaaGreat
open Go.RowKit

theorem potB_good (s : Bool) (n : Nat) (m : Nat → M5) (l c : Int) (f : Nat → Int) : potB (potU s m) n (padF f n) l c = goodB s n m l c f := by
  have h1 : unitSum (potU s m) (padF f n) n (·.l) = leadF s m f n := by rw [unitSum_pad]; cases s <;> rfl
  have h2 : unitSum (potU s m) (padF f n) n (·.c) = copperF s m f n := by rw [unitSum_pad]; cases s <;> rfl
  have h3 : unitSum (potU s m) (padF f n) n (·.q) = sumF f n := by rw [unitSum_pad, unitSum_ones fun _ _ => rfl]
  unfold potB goodB
  rw [h1, h2, h3, Int.mul_comm (sumF f n) l, Int.mul_comm (sumF f n) c]

set_option maxRecDepth 100000 in
set_option maxHeartbeats 2000000 in
theorem Deserves_c (a b : Option Addr) (n cap len cap2 : Nat) (m : Nat → M5) (f : Nat → Int) (l c : Int) (s : Bool) (w : World) (hm : Metals w a n m) (hf : Ints w b len f) (hn : n ≤ 1048576) (hl : len ≤ 1048576) :
    Calls Tryz.prog 27 #[.slice a n cap, .agg #[.int .i64 l, .int .i64 c], .bool s, .slice b len cap2] w fun e w' => e = .returned (.int .i64 (deservesE n m l c s len f)) ∧ Below w.heap.size w w' := by
  have hB0 : Below w.heap.size w (w.alloc (.cells #[.int .i64 l, .int .i64 c] 24)) := (Below.refl _ _).alloc (Nat.le_refl _) _
  have hm0 := hm.below hB0
  have hf0 := hf.below hB0
  clear hm hf
  by_cases h0 : bothE n m l c = 0
  · obtain ⟨hM, ht⟩ := both_ok h0
    have hFine := fine_of hM
    have hO : Ones n (potU s m) := ones_of hFine s (!s)
    have hn0 : 0 < n := hFine.1
    have H0 := Lib.hid h0
    clear h0
    by_cases h1 : mixE n len f = 0
    · have h1' : (mixE n len f != 0) = false := by simp [h1]
      obtain ⟨e, hfb, hs⟩ := mix_ok h1
      subst e
      have ev : deservesE len m l c s len f = if goodB s len m l c f then 0 else 17 := by
        unfold deservesE; rw [if_neg (by simp [H0.out]), if_neg (by simp [h1])]
      rw [ev]
      have H1 := Lib.hid h1
      have HFB := Lib.hid hfb
      have HO := Lib.hid hO
      have HF := Lib.hid hFine
      clear h1 ev hfb hO hFine hM
      cases hg : goodB s len m l c f
      all_goals
        have Hg := Lib.hid hg
        clear hg
        go_enter Tryz.func27, Tryz.ntmps27
        go_wp2_with fail
        refine (newPot_c a len cap m l c s _ hm0 (by omega) H0.out).mono ?_
        rintro e w2 ⟨g, rfl, hU, hb2⟩
        go_wp2_with fail
        have hbs := Below.alloc1 (Below.refl w2.heap.size w2) (.cells #[.slice (some ⟨g, 0, none⟩) len len, .int .i64 1, .int .i64 0, .int .i64 l, .int .i64 c] 102) (Nat.le_refl _)
        refine (checkMixture_c _ _ len len len cap2 _ f _ (hU.below hbs) HO.out hn0 (hf0.below (bup hb2 hbs)) (by omega)).mono ?_
        rintro e w3 ⟨rfl, hb3⟩
        have hB3 : Below w2.heap.size w2 w3 := bup hbs hb3
        have hB4 := bup hb2 hB3
        go_wp2_with fail
        have hst : RowIs w3 w2.heap.size #[.slice (some ⟨g, 0, none⟩) len len, .int .i64 1, .int .i64 0, .int .i64 l, .int .i64 c] 102 := by
          rw [RowIs, hb3.block _ (by simp)]
          exact heap_new_at _ _ _ rfl
        have s0 := hst.cell 0
        have s1 := hst.cell 1
        have s2 := hst.cell 2
        have s3 := hst.cell 3
        have s4 := hst.cell 4
        simp at s0 s1 s2 s3 s4
        have hzs : w2.heap.size < w3.heap.size := (Array.getElem?_eq_some_iff.1 hst).1
        have ht1 := fun (x : Later w3) => takeOver_c b len cap2 f x.w ((hf0.below hB4).below x.h) HF.out.2.1
        have ht2 := fun (x : Later w3) => potDeserves_c (some ⟨g, 0, none⟩) len len (potU s m) (padF f len) 1 0 l c x.w ((hU.below hB3).below x.h) HO.out.1 (fun i _ => by have := pad_bd (by omega) HFB.out i; omega) ⟨ht.1, ht.2.1⟩ ⟨ht.2.2.1, ht.2.2.2⟩ hn0
        simp only [potB_good, Hg.out] at ht2
        have HT1 := Lib.hid ht1
        have HT2 := Lib.hid ht2
        clear ht1 ht2 hst
        have hlc := fun (x : Later w3) => later_cell x
        refine wp_region_later (by kernel_rfl) (by kernel_rfl) ?_
        repeat (go_big_quiet_step ((first | (with_reducible refine calls_later (HT1.out _)) | (with_reducible refine calls_later (HT2.out _)))))
        refine wpQuiet_nil ?_
        clear hlc
        rintro ⟨w4, hb4⟩
        clear s0 s1 s2 s3 s4
        go_wp2
        go_ret
        exact ⟨rfl, bup (bup hB0 hB4) hb4⟩
    · have h1' : (mixE n len f != 0) = true := by simp [h1]
      have ev : deservesE n m l c s len f = mixE n len f := by
        unfold deservesE; rw [if_neg (by simp [H0.out]), if_pos h1]
      rw [ev]
      have HO := Lib.hid hO
      clear h1 ev hO hFine hM
      go_enter Tryz.func27, Tryz.ntmps27
      go_wp2_with fail
      refine (newPot_c a n cap m l c s _ hm0 (by omega) H0.out).mono ?_
      rintro e w2 ⟨g, rfl, hU, hb2⟩
      go_wp2_with fail
      have hbs := Below.alloc1 (Below.refl w2.heap.size w2) (.cells #[.slice (some ⟨g, 0, none⟩) n n, .int .i64 1, .int .i64 0, .int .i64 l, .int .i64 c] 102) (Nat.le_refl _)
      refine (checkMixture_c _ _ n n len cap2 _ f _ (hU.below hbs) HO.out hn0 (hf0.below (bup hb2 hbs)) (by omega)).mono ?_
      rintro e w3 ⟨rfl, hb3⟩
      have hB3 : Below w2.heap.size w2 w3 := bup hbs hb3
      go_wp2
      go_ret
      exact ⟨rfl, bup hB0 (bup hb2 hB3)⟩
  · have ev : deservesE n m l c s len f = bothE n m l c := by unfold deservesE; rw [if_pos h0]
    have h0' : (bothE n m l c != 0) = true := by simp [h0]
    rw [ev]
    go_enter Tryz.func27, Tryz.ntmps27
    go_wp2_with fail
    refine (newPot_err_c a n cap m l c s _ hm0 (by omega) h0).mono ?_
    rintro e w2 ⟨rfl, hb2⟩
    go_wp2
    go_ret
    exact ⟨rfl, Below.alloc1 (bup hB0 hb2) _ (Nat.le_refl _)⟩

end Go.Proofs.YtehafggcncbnkaaGreat
