/- Plain mathematics: what Least, and Share, say of all mixtures that deserve a touch. It uses nothing of the program but words. -/
import Derived.Test.YtehafggcncbnkaaGreatBasaa
import Derived.Test.YtehafggcncbnkaaGreatBasar
import Derived.Test.YtehafggcncbnkaaGreatBasao
import Derived.Test.YtehafggcncbnkaaGreatBasag
import Derived.Test.YtehafggcncbnkaaGreatBasah
import Derived.Test.YtehafggcncbnkaaGreatBasal
import Derived.Test.YtehafggcncbnkaaGreatBasap
import Derived.Test.YtehafggcncbnkaaGreatBasan
namespace Go.Proofs.YtehafggcncbnkaaGreat
open Go Go.RowKit

theorem Order.flip {α : Type} {S : α → Prop} {lt : α → α → Bool} (h : Order S lt) : Order S (fun x y => lt y x) where
  irrefl := h.irrefl
  asymm x y hx hy := h.asymm y x hy hx
  ntrans x y z hx hy hz h1 h2 := h.ntrans z y x hz hy hx h2 h1

/-- A mixture that deserves the touch, with the least cost. -/
structure Low (n : Nat) (m : Nat → M5) (l c : Int) (s : Bool) (f : Nat → Int) : Prop where
  mix : GoodMix n f
  good : goodB s n m l c f = true
  low : ∀ x : Nat → Int, (∀ i, i < n → 0 ≤ x i) → goodB s n m l c x = true → priceF m f n * sumF x n ≤ priceF m x n * sumF f n
/-- No mixture deserves the touch. -/
def Nil (n : Nat) (m : Nat → M5) (l c : Int) (s : Bool) : Prop := ∀ x : Nat → Int, (∀ i, i < n → 0 ≤ x i) → 0 < sumF x n → goodB s n m l c x = false
abbrev costOf (n : Nat) (m : Nat → M5) (f : Nat → Int) : Int × Int := (ratN (priceF m f n) (sumF f n), ratD (priceF m f n) (sumF f n))

theorem least_cases {n : Nat} {m : Nat → M5} {l c : Int} (hb : bothE n m l c = 0) (s : Bool) :
    (leastR n m l c s = (0, 0, 17) ∧ bestS (cheapB n m s) (potL n m l c s) = none ∧ Nil n m l c s) ∨
    ∃ f, bestS (cheapB n m s) (potL n m l c s) = some f ∧ leastR n m l c s = ((costOf n m f).1, (costOf n m f).2, 0) ∧ Low n m l c s f := by
  obtain ⟨hM, ht⟩ := both_ok hb
  have hF := fine_of hM
  unfold leastR
  rw [if_neg (by omega)]
  cases h : bestS (cheapB n m s) (potL n m l c s) with
  | none => exact .inl ⟨rfl, rfl, fun x hx hp => least_none hF.2.1 (bestS_none h) hx hp⟩
  | some f =>
    obtain ⟨_, h2, h3, h4⟩ := least_some hF ht h
    refine .inr ⟨f, rfl, ?_, h2, h3, h4⟩
    simp only [potP, potQ]

/-- Two mixtures that deserve the touch, with the least and the greatest share of a metal. -/
structure Span (n : Nat) (m : Nat → M5) (l c : Int) (s : Bool) (k : Nat) (f h : Nat → Int) : Prop where
  mixf : GoodMix n f
  mixh : GoodMix n h
  goodf : goodB s n m l c f = true
  goodh : goodB s n m l c h = true
  low : ∀ x : Nat → Int, (∀ i, i < n → 0 ≤ x i) → goodB s n m l c x = true → f k * sumF x n ≤ x k * sumF f n
  high : ∀ x : Nat → Int, (∀ i, i < n → 0 ≤ x i) → goodB s n m l c x = true → x k * sumF h n ≤ h k * sumF x n
abbrev shareOf (n k : Nat) (f : Nat → Int) : Int × Int := (ratN (f k) (sumF f n), ratD (f k) (sumF f n))

theorem sum_unit (x : Nat → Int) (a : Int) {n k : Nat} (hk : k < n) : sumF (fun i => x i * (if i = k then a else 0)) n = x k * a := by
  rw [sumF_one hk fun i _ hne => by rw [if_neg hne]; simp]
  simp

theorem share_order (n k : Nat) (m : Nat → M5) (s : Bool) : Order (fun f : Nat → Int => 0 < sumF f n) (shareB (potU s m) n k) := by
  have h := frac_order (fun f : Nat → Int => f k) (fun f => unitSum (potU s m) f n (·.q))
  have e : (fun f : Nat → Int => 0 < unitSum (potU s m) f n (·.q)) = fun f => 0 < sumF f n := funext fun f => by rw [potQ]
  rw [e] at h
  exact h
theorem shareB_ge {n k : Nat} {m : Nat → M5} {s : Bool} {f g : Nat → Int} (hf : 0 < sumF f n) (hg : 0 < sumF g n) (h : shareB (potU s m) n k f g = false) : g k * sumF f n ≤ f k * sumF g n := by
  unfold shareB at h
  rw [potQ, potQ, ltB_rat hf hg] at h
  exact Int.not_lt.1 (of_decide_eq_false h)

theorem share_cases {n : Nat} {m : Nat → M5} {l c : Int} (hb : bothE n m l c = 0) (s : Bool) {k : Nat} (hk : k < n) :
    (shareR n m l c s k = ((0, 0), (0, 0), 17) ∧ bestS (cheapB n m s) (potL n m l c s) = none ∧ Nil n m l c s) ∨
    ∃ f h, shareR n m l c s k = (shareOf n k f, shareOf n k h, 0) ∧ Span n m l c s k f h := by
  obtain ⟨hM, ht⟩ := both_ok hb
  have hF := fine_of hM
  have hS : ∀ x ∈ potL n m l c s, 0 < sumF x n := fun x hx => (pot_good hF ht hx).2.2
  unfold shareR
  rw [if_neg (by omega), if_neg (by omega), Int.toNat_natCast]
  cases h1 : bestS (shareB (potU s m) n k) (potL n m l c s) with
  | none =>
    have hnil := bestS_none h1
    refine .inl ⟨rfl, by rw [hnil]; rfl, fun x hx hp => least_none hF.2.1 hnil hx hp⟩
  | some f =>
    cases h2 : bestS (fun f h => shareB (potU s m) n k h f) (potL n m l c s) with
    | none =>
      have hnil := bestS_none h2
      rw [hnil] at h1
      cases h1
    | some h =>
      obtain ⟨f1, f2⟩ := bestS_max (share_order n k m s) hS h1
      obtain ⟨g1, g2⟩ := bestS_max (share_order n k m s).flip hS h2
      have hf := pot_good hF ht f1
      have hh := pot_good hF ht g1
      refine .inr ⟨f, h, by simp only [potQ], hf, hh, corner_good f1, corner_good g1, fun x hx hg => ?_, fun x hx hg => ?_⟩
      · have key := corners_tell hF.2.1 (fun i => sumF f n * (if i = k then 1 else 0) - f k) (fun y hy => by
          rw [sum_less, sum_unit _ _ hk]
          have := shareB_ge (hS y hy) hf.2.2 (f2 y hy)
          grind) hx hg
        rw [sum_less, sum_unit _ _ hk] at key
        grind
      · have key := corners_tell hF.2.1 (fun i => sumF h n * (if i = k then -1 else 0) - (-(h k))) (fun y hy => by
          rw [sum_less, sum_unit _ _ hk]
          have := shareB_ge hh.2.2 (hS y hy) (g2 y hy)
          grind) hx hg
        rw [sum_less, sum_unit _ _ hk] at key
        grind

end Go.Proofs.YtehafggcncbnkaaGreat

namespace Go.Proofs.YtehafggcncbnkaaGreat

/-- Numbers that are above some bounds and below others: where no two of them are against each other one is between. -/
theorem line {M : Nat} {α β : Nat → Int} (h0 : ∀ k, k < M → β k = 0 → 0 ≤ α k) (h1 : ∀ k j, k < M → j < M → 0 < β k → β j < 0 → 0 ≤ (-β j) * α k + β k * α j) :
    ∃ d v : Int, 0 < d ∧ ∀ k, k < M → 0 ≤ α k * d + β k * v := by
  by_cases hp : ∃ k, k < M ∧ 0 < β k
  · obtain ⟨p, hpM, hb, hm⟩ := least_at (x := α) (z := β) M hp
    refine ⟨β p, -(α p), hb, fun k hk => ?_⟩
    rcases Int.lt_trichotomy (β k) 0 with h | h | h
    · have := h1 p k hpM hk hb h
      grind
    · have h2 := Int.mul_nonneg (h0 k hk h) (Int.le_of_lt hb)
      rw [h]
      omega
    · have := hm k hk h
      grind
  · have hn : ∀ k, k < M → β k ≤ 0 := fun k hk => by
      rcases Int.lt_or_le 0 (β k) with h | h
      · exact absurd ⟨k, hk, h⟩ hp
      · exact h
    by_cases hq : ∃ k, k < M ∧ 0 < -(β k)
    · obtain ⟨p, hpM, hb, hm⟩ := least_at (x := α) (z := fun k => -(β k)) M hq
      refine ⟨-(β p), α p, hb, fun k hk => ?_⟩
      by_cases h : β k = 0
      · have h2 := Int.mul_nonneg (h0 k hk h) (Int.le_of_lt hb)
        rw [h]
        omega
      · have := hm k hk (by have := hn k hk; omega)
        grind
    · refine ⟨1, 0, by omega, fun k hk => ?_⟩
      have h : β k = 0 := by
        rcases Int.lt_or_le (β k) 0 with h | h
        · exact absurd ⟨k, hk, by omega⟩ hq
        · have := hn k hk; omega
      have := h0 k hk h
      omega

def pairI (N k : Nat) : Nat := k / N
def pairJ (N k : Nat) : Nat := k % N
theorem pair_at {N i j : Nat} (hi : i < N) (hj : j < N) : i * N + j < N * N ∧ pairI N (i * N + j) = i ∧ pairJ N (i * N + j) = j := by
  have hN : 0 < N := by omega
  refine ⟨?_, ?_, ?_⟩
  · have : i * N + N ≤ N * N := by
      have := Nat.mul_le_mul_right N (show i + 1 ≤ N by omega)
      rw [Nat.add_mul] at this
      omega
    omega
  · unfold pairI
    rw [Nat.add_comm, Nat.add_mul_div_right _ _ hN, Nat.div_eq_of_lt hj]
    omega
  · unfold pairJ
    rw [Nat.add_comm, Nat.add_mul_mod_self_right, Nat.mod_eq_of_lt hj]

def duo (i j : Nat) (A B : Int) (a : Nat) : Int := if a = i then A else if a = j then B else 0
theorem duo_sum {N i j : Nat} (hij : i ≠ j) (hi : i < N) (hj : j < N) (A B : Int) (g : Nat → Int) : sumF (fun a => duo i j A B a * g a) N = A * g i + B * g j := by
  rw [sumF_two hij hi hj fun a _ p q => by simp [duo, p, q]]
  have e1 : duo i j A B i = A := if_pos rfl
  have e2 : duo i j A B j = B := by unfold duo; rw [if_neg (fun h => hij h.symm), if_pos rfl]
  simp only [e1, e2]

/-- What has no room in the first way. -/
def Flat (N : Nat) (r : Nat → Int × Int) (w : Nat → Int) (a b : Int) : Prop :=
  ∃ x : Nat → Int, (∀ i, i < N → 0 ≤ x i) ∧ sumF (fun i => x i * (r i).1) N = 0 ∧ a = sumF (fun i => x i * w i) N ∧ b = -sumF (fun i => x i * (r i).2) N

/-- Where what is mixed without room is worth no less than 0, two weights bear it out. -/
theorem weights {N : Nat} {r : Nat → Int × Int} {w : Nat → Int} (h : ∀ x : Nat → Int, (∀ i, i < N → 0 ≤ x i) → Even N r x → 0 ≤ val N w x) :
    ∃ d u v : Int, 0 < d ∧ ∀ i, i < N → u * (r i).1 + v * (r i).2 ≤ d * w i := by
  let α : Nat → Int := fun k => if (r (pairI N k)).1 = 0 then w (pairI N k) else if 0 < (r (pairI N k)).1 ∧ (r (pairJ N k)).1 < 0 then (-(r (pairJ N k)).1) * w (pairI N k) + (r (pairI N k)).1 * w (pairJ N k) else 0
  let β : Nat → Int := fun k => if (r (pairI N k)).1 = 0 then -(r (pairI N k)).2 else if 0 < (r (pairI N k)).1 ∧ (r (pairJ N k)).1 < 0 then -((-(r (pairJ N k)).1) * (r (pairI N k)).2 + (r (pairI N k)).1 * (r (pairJ N k)).2) else 0
  have hk : ∀ k, k < N * N → Flat N r w (α k) (β k) := by
    intro k hk
    have hN : 0 < N := by
      rcases Nat.eq_zero_or_pos N with h | h
      · subst h; simp at hk
      · exact h
    have hi : pairI N k < N := (Nat.div_lt_iff_lt_mul hN).2 hk
    have hj : pairJ N k < N := Nat.mod_lt _ hN
    show Flat N r w (if _ then _ else _) (if _ then _ else _)
    obtain ⟨i, ei⟩ : ∃ i, pairI N k = i := ⟨_, rfl⟩
    obtain ⟨j, ej⟩ : ∃ j, pairJ N k = j := ⟨_, rfl⟩
    rw [ei] at hi ⊢
    rw [ej] at hj ⊢
    by_cases h0 : (r i).1 = 0
    · rw [if_pos h0, if_pos h0]
      have e : ∀ g : Nat → Int, sumF (fun a => (if a = i then 1 else 0) * g a) N = g i := fun g => by
        rw [sumF_one hi fun a _ hne => by rw [if_neg hne]; simp]
        simp
      exact ⟨fun a => if a = i then 1 else 0, fun a _ => by show 0 ≤ (if a = i then (1 : Int) else 0); split <;> omega, by rw [e]; exact h0, (e w).symm, by rw [e]⟩
    · rw [if_neg h0, if_neg h0]
      by_cases h1 : 0 < (r i).1 ∧ (r j).1 < 0
      · rw [if_pos h1, if_pos h1]
        have hij : i ≠ j := fun h => by rw [h] at h1; omega
        refine ⟨duo i j (-(r j).1) (r i).1, fun a _ => ?_, ?_, ?_, ?_⟩
        · unfold duo
          split
          · omega
          · split <;> omega
        · rw [duo_sum hij hi hj]; grind
        · rw [duo_sum hij hi hj]
        · rw [duo_sum hij hi hj]
      · rw [if_neg h1, if_neg h1]
        exact ⟨fun _ => 0, fun _ _ => Int.le_refl _, sumZ fun _ _ => by simp, (sumZ fun _ _ => by simp).symm, by rw [sumZ fun _ _ => by simp]; rfl⟩
  obtain ⟨d, v, hd, hv⟩ := line (M := N * N) (α := α) (β := β) (fun k hkM hb => by
    obtain ⟨x, hx, e1, e2, e3⟩ := hk k hkM
    have := h x hx ⟨e1, by omega⟩
    unfold val at this
    omega) (fun k j hkM hjM hb hb' => by
    obtain ⟨x, hx, e1, e2, e3⟩ := hk k hkM
    obtain ⟨y, hy, f1, f2, f3⟩ := hk j hjM
    have hz := h (fun i => (-β j) * x i + β k * y i) (fun i hi => by
      have a1 := Int.mul_nonneg (show 0 ≤ -β j by omega) (hx i hi)
      have a2 := Int.mul_nonneg (Int.le_of_lt hb) (hy i hi)
      omega) ⟨by
      have := val_lin N (fun i => (r i).1) x y (-β j) (β k)
      unfold val at this
      rw [this, e1, f1]
      simp, by
      have := val_lin N (fun i => (r i).2) x y (-β j) (β k)
      unfold val at this
      rw [this]
      have g1 : sumF (fun i => x i * (r i).2) N = -β k := by omega
      have g2 : sumF (fun i => y i * (r i).2) N = -β j := by omega
      rw [g1, g2]
      grind⟩
    rw [val_lin] at hz
    unfold val at hz
    rw [← e2, ← f2] at hz
    exact hz)
  obtain ⟨d', u, hd', hu⟩ := line (M := N) (α := fun i => w i * d - (r i).2 * v) (β := fun i => -(r i).1) (fun i hi h0 => by
    obtain ⟨p1, p2, p3⟩ := pair_at (N := N) hi hi
    have := hv _ p1
    have hz : (r i).1 = 0 := by omega
    have ea : α (i * N + i) = w i := by show (if _ then _ else _) = _; rw [p2, if_pos hz]
    have eb : β (i * N + i) = -(r i).2 := by show (if _ then _ else _) = _; rw [p2, if_pos hz]
    rw [ea, eb] at this
    grind) (fun j i hj hi hb hb' => by
    obtain ⟨p1, p2, p3⟩ := pair_at (N := N) hi hj
    have := hv _ p1
    have hz : ¬ (r i).1 = 0 := by omega
    have hz' : 0 < (r i).1 ∧ (r j).1 < 0 := by omega
    have ea : α (i * N + j) = (-(r j).1) * w i + (r i).1 * w j := by show (if _ then _ else _) = _; rw [p2, p3, if_neg hz, if_pos hz']
    have eb : β (i * N + j) = -((-(r j).1) * (r i).2 + (r i).1 * (r j).2) := by show (if _ then _ else _) = _; rw [p2, p3, if_neg hz, if_pos hz']
    rw [ea, eb] at this
    grind)
  refine ⟨d * d', u, v * d', Int.mul_pos hd hd', fun i hi => ?_⟩
  have := hu i hi
  grind

end Go.Proofs.YtehafggcncbnkaaGreat

namespace Go.Proofs.YtehafggcncbnkaaGreat
open Go Go.RowKit

/-- One step, over whatever has a number for each of some places, and a worth. -/
theorem reduceG {E : Type} {N : Nat} {s : E → Nat → Int} {v : E → Int} {comb : Int → Int → E → E → E} (hs : ∀ a b x z i, s (comb a b x z) i = a * s x i + b * s z i) (hv : ∀ a b x z, v (comb a b x z) = a * v x + b * v z)
    {x z : E} (hx : ∀ i, i < N → 0 ≤ s x i) (hsup : ∀ i, i < N → s x i = 0 → s z i = 0) (hz0 : ∃ i, i < N ∧ s z i ≠ 0) (hj : ∃ j, j < N ∧ s x j ≠ 0 ∧ s z j = 0)
    (ih : ∀ y : E, cntF (s y) N < cntF (s x) N → (∀ i, i < N → 0 ≤ s y i) → 0 ≤ v y) : 0 ≤ v x := by
  have up : ∀ z : E, (∀ i, i < N → s x i = 0 → s z i = 0) → (∃ i, i < N ∧ 0 < s z i) → 0 ≤ v z → 0 ≤ v x := by
    intro z hsup hp hw
    obtain ⟨k, hk, hzk, hm⟩ := least_at (x := s x) (z := s z) N hp
    have hxk : s x k ≠ 0 := fun h => by have := hsup k hk h; omega
    have hxk' := hx k hk
    have h1 := ih (comb (s z k) (-(s x k)) x z) (cnt_lt (k := k) hk hxk (by rw [hs]; grind) fun i hi h0 => by rw [hs, h0, hsup i hi h0]; simp) (fun i hi => by
      rw [hs]
      by_cases hzi : 0 < s z i
      · have := hm i hi hzi
        grind
      · have h2 : 0 ≤ s z k * s x i := Int.mul_nonneg (by omega) (hx i hi)
        have h3 : 0 ≤ s x k * (-(s z i)) := Int.mul_nonneg hxk' (by omega)
        grind)
    rw [hv] at h1
    have h2 : 0 ≤ s x k * v z := Int.mul_nonneg hxk' hw
    have h3 : 0 ≤ s z k * v x := by grind
    exact pos_of_mul hzk h3
  have hneg : v (comb (-1) 0 z z) = -v z := by rw [hv]; omega
  have hsn : ∀ i, s (comb (-1) 0 z z) i = -s z i := fun i => by rw [hs]; omega
  have hns : ∀ i, i < N → s x i = 0 → s (comb (-1) 0 z z) i = 0 := fun i hi h => by rw [hsn, hsup i hi h]; rfl
  obtain ⟨j, hjN, hxj, hzj⟩ := hj
  obtain ⟨i0, hi0, hzi0⟩ := hz0
  by_cases hp : ∃ i, i < N ∧ 0 < s z i
  · by_cases hn : ∃ i, i < N ∧ s z i < 0
    · rcases Int.lt_or_le (v z) 0 with h | h
      · exact up _ hns (hn.imp fun i h => ⟨h.1, by rw [hsn]; have := h.2; omega⟩) (by rw [hneg]; omega)
      · exact up z hsup hp h
    · refine up z hsup hp (ih z (cnt_lt hjN hxj hzj hsup) (fun i hi => ?_))
      rcases Int.lt_or_le (s z i) 0 with h | h
      · exact absurd ⟨i, hi, h⟩ hn
      · exact h
  · have hn : ∀ i, i < N → s z i ≤ 0 := fun i hi => by
      rcases Int.lt_or_le 0 (s z i) with h | h
      · exact absurd ⟨i, hi, h⟩ hp
      · exact h
    have h0 := hn i0 hi0
    refine up _ hns ⟨i0, hi0, by rw [hsn]; omega⟩ (ih _ (cnt_lt hjN hxj (by rw [hsn]; omega) hns) (fun i hi => ?_))
    have := hn i hi
    rw [hsn]
    omega

/-! Four numbers. -/
def combU (a b : Int) (x z : U4) : U4 := ⟨a * x.q + b * z.q, a * x.p + b * z.p, a * x.l + b * z.l, a * x.c + b * z.c⟩
theorem dot_comb (a b : Int) (x z y : U4) : dotR (combU a b x z) y = a * dotR x y + b * dotR z y := by
  unfold dotR combU
  grind
def negU (x : U4) : U4 := ⟨-x.q, -x.p, -x.l, -x.c⟩
theorem dot_neg (x y : U4) : dotR (negU x) y = -dotR x y := by
  unfold dotR negU
  grind
abbrev nilU : U4 := ⟨0, 0, 0, 0⟩
/-- Two rows are along one line. -/
def Dep (a b : U4) : Prop := a.q * b.p = a.p * b.q ∧ a.q * b.l = a.l * b.q ∧ a.q * b.c = a.c * b.q ∧ a.p * b.l = a.l * b.p ∧ a.p * b.c = a.c * b.p ∧ a.l * b.c = a.c * b.l
theorem zero_of {a x : Int} (ha : a ≠ 0) (h : a * x = 0) : x = 0 := by
  rcases Int.mul_eq_zero.1 h with h | h
  · exact absurd h ha
  · exact h

theorem across_1 (a b c : U4) : dotR (acrossR a b c) a = 0 := by unfold dotR acrossR minorR det3; grind
theorem across_2 (a b c : U4) : dotR (acrossR a b c) b = 0 := by unfold dotR acrossR minorR det3; grind
theorem across_3 (a b c : U4) : dotR (acrossR a b c) c = 0 := by unfold dotR acrossR minorR det3; grind
theorem acr_swap (a b c y : U4) : dotR (acrossR a b c) y = -dotR (acrossR a b y) c := by unfold dotR acrossR minorR det3; grind
theorem acr_dep {a b : U4} (h : Dep a b) (e : U4) : acrossR a e b = nilU := by
  obtain ⟨h1, h2, h3, h4, h5, h6⟩ := h
  unfold acrossR minorR det3
  simp only [U4.mk.injEq]
  exact ⟨by grind, by grind, by grind, by grind⟩

/-- What gives 0 to three rows is along what is across of them. -/
theorem along {f a b c : U4} (h1 : dotR f a = 0) (h2 : dotR f b = 0) (h3 : dotR f c = 0) : Dep f (acrossR a b c) := by
  unfold dotR at h1 h2 h3
  unfold Dep acrossR minorR det3
  simp only
  refine ⟨?_, ?_, ?_, ?_, ?_, ?_⟩ <;> grind

theorem acr_q (a b : U4) : acrossR a b ⟨1, 0, 0, 0⟩ = ⟨0, -(a.l * b.c - a.c * b.l), a.p * b.c - a.c * b.p, -(a.p * b.l - a.l * b.p)⟩ := by
  unfold acrossR minorR det3; simp only [U4.mk.injEq]; exact ⟨by grind, by grind, by grind, by grind⟩
theorem acr_p (a b : U4) : acrossR a b ⟨0, 1, 0, 0⟩ = ⟨a.l * b.c - a.c * b.l, 0, -(a.q * b.c - a.c * b.q), a.q * b.l - a.l * b.q⟩ := by
  unfold acrossR minorR det3; simp only [U4.mk.injEq]; exact ⟨by grind, by grind, by grind, by grind⟩
theorem acr_l (a b : U4) : acrossR a b ⟨0, 0, 1, 0⟩ = ⟨-(a.p * b.c - a.c * b.p), a.q * b.c - a.c * b.q, 0, -(a.q * b.p - a.p * b.q)⟩ := by
  unfold acrossR minorR det3; simp only [U4.mk.injEq]; exact ⟨by grind, by grind, by grind, by grind⟩
theorem acr_c (a b : U4) : acrossR a b ⟨0, 0, 0, 1⟩ = ⟨a.p * b.l - a.l * b.p, -(a.q * b.l - a.l * b.q), a.q * b.p - a.p * b.q, 0⟩ := by
  unfold acrossR minorR det3; simp only [U4.mk.injEq]; exact ⟨by grind, by grind, by grind, by grind⟩

theorem U4_ne {f : U4} (h : f ≠ nilU) : f.q ≠ 0 ∨ f.p ≠ 0 ∨ f.l ≠ 0 ∨ f.c ≠ 0 := by
  by_cases h0 : f.q = 0
  · by_cases h1 : f.p = 0
    · by_cases h2 : f.l = 0
      · by_cases h3 : f.c = 0
        · exact absurd (by cases f; simp_all) h
        · exact .inr (.inr (.inr h3))
      · exact .inr (.inr (.inl h2))
    · exact .inr (.inl h1)
  · exact .inl h0

/-- Beside one line there is another one across of two rows. -/
theorem other {a b f : U4} (hd : ¬ Dep a b) (hf : f ≠ nilU) : ∃ e, ¬ Dep f (acrossR a b e) := by
  by_cases hx : ∃ e, ¬ Dep f (acrossR a b e)
  · exact hx
  · exfalso
    have hall : ∀ e, Dep f (acrossR a b e) := fun e => by
      by_cases h : Dep f (acrossR a b e)
      · exact h
      · exact absurd ⟨e, h⟩ hx
    have dq := hall ⟨1, 0, 0, 0⟩
    have dp := hall ⟨0, 1, 0, 0⟩
    have dl := hall ⟨0, 0, 1, 0⟩
    have dc := hall ⟨0, 0, 0, 1⟩
    rw [acr_q] at dq
    rw [acr_p] at dp
    rw [acr_l] at dl
    rw [acr_c] at dc
    obtain ⟨q1, q2, q3, q4, q5, q6⟩ := dq
    obtain ⟨p1, p2, p3, p4, p5, p6⟩ := dp
    obtain ⟨l1, l2, l3, l4, l5, l6⟩ := dl
    obtain ⟨c1, c2, c3, c4, c5, c6⟩ := dc
    simp only at q1 q2 q3 q4 q5 q6 p1 p2 p3 p4 p5 p6 l1 l2 l3 l4 l5 l6 c1 c2 c3 c4 c5 c6
    obtain ⟨A, hA⟩ : ∃ A, a.q * b.p - a.p * b.q = A := ⟨_, rfl⟩
    obtain ⟨B, hB⟩ : ∃ B, a.q * b.l - a.l * b.q = B := ⟨_, rfl⟩
    obtain ⟨C, hC⟩ : ∃ C, a.q * b.c - a.c * b.q = C := ⟨_, rfl⟩
    obtain ⟨D, hD⟩ : ∃ D, a.p * b.l - a.l * b.p = D := ⟨_, rfl⟩
    obtain ⟨E, hE⟩ : ∃ E, a.p * b.c - a.c * b.p = E := ⟨_, rfl⟩
    obtain ⟨F, hF⟩ : ∃ F, a.l * b.c - a.c * b.l = F := ⟨_, rfl⟩
    simp only [hA, hB, hC, hD, hE, hF] at q1 q2 q3 q4 q5 q6 p1 p2 p3 p4 p5 p6 l1 l2 l3 l4 l5 l6 c1 c2 c3 c4 c5 c6
    have fin : A = 0 → B = 0 → C = 0 → D = 0 → E = 0 → F = 0 → False := fun z1 z2 z3 z4 z5 z6 => hd ⟨by omega, by omega, by omega, by omega, by omega, by omega⟩
    clear hA hB hC hD hE hF
    rcases U4_ne hf with h | h | h | h
    · have z6 : F = 0 := zero_of h (by grind)
      have z5 : E = 0 := zero_of h (by grind)
      have z4 : D = 0 := zero_of h (by grind)
      have z3 : C = 0 := zero_of h (by grind)
      have z2 : B = 0 := zero_of h (by grind)
      exact fin (zero_of h (by grind)) z2 z3 z4 z5 z6
    · have z6 : F = 0 := zero_of h (by grind)
      have z3 : C = 0 := zero_of h (by grind)
      have z2 : B = 0 := zero_of h (by grind)
      have z5 : E = 0 := zero_of h (by grind)
      have z4 : D = 0 := zero_of h (by grind)
      exact fin (zero_of h (by grind)) z2 z3 z4 z5 z6
    · have z5 : E = 0 := zero_of h (by grind)
      have z3 : C = 0 := zero_of h (by grind)
      have z1 : A = 0 := zero_of h (by grind)
      have z6 : F = 0 := zero_of h (by grind)
      have z4 : D = 0 := zero_of h (by grind)
      exact fin z1 (zero_of h (by grind)) z3 z4 z5 z6
    · have z4 : D = 0 := zero_of h (by grind)
      have z2 : B = 0 := zero_of h (by grind)
      have z1 : A = 0 := zero_of h (by grind)
      have z6 : F = 0 := zero_of h (by grind)
      have z5 : E = 0 := zero_of h (by grind)
      exact fin z1 z2 (zero_of h (by grind)) z4 z5 z6

/-- Along one line all sums are as many times as great. -/
theorem dep_val {f c : U4} (h : Dep f c) (hf : f ≠ nilU) (hc : c ≠ nilU) : ∃ α β : Int, α ≠ 0 ∧ β ≠ 0 ∧ ∀ y, α * dotR f y = β * dotR c y := by
  obtain ⟨h1, h2, h3, h4, h5, h6⟩ := h
  have nf : ¬ (f.q = 0 ∧ f.p = 0 ∧ f.l = 0 ∧ f.c = 0) := fun hz => hf (by cases f; simp_all)
  rcases U4_ne hc with h | h | h | h
  · refine ⟨c.q, f.q, h, fun h0 => nf ?_, fun y => by unfold dotR; grind⟩
    rw [h0] at h1 h2 h3
    exact ⟨h0, zero_of h (by grind), zero_of h (by grind), zero_of h (by grind)⟩
  · refine ⟨c.p, f.p, h, fun h0 => nf ?_, fun y => by unfold dotR; grind⟩
    rw [h0] at h1 h4 h5
    exact ⟨zero_of h (by grind), h0, zero_of h (by grind), zero_of h (by grind)⟩
  · refine ⟨c.l, f.l, h, fun h0 => nf ?_, fun y => by unfold dotR; grind⟩
    rw [h0] at h2 h4 h6
    exact ⟨zero_of h (by grind), zero_of h (by grind), h0, zero_of h (by grind)⟩
  · refine ⟨c.c, f.c, h, fun h0 => nf ?_, fun y => by unfold dotR; grind⟩
    rw [h0] at h3 h5 h6
    exact ⟨zero_of h (by grind), zero_of h (by grind), zero_of h (by grind), h0⟩

theorem dot_nil (y : U4) : dotR nilU y = 0 := by simp [dotR]

/-- Two rows, not along one line, that span what some rows span, if no three of these tell a line. -/
theorem span2 {N : Nat} {ρ : Nat → U4} {T : Nat → Prop} (h : ∀ i j k, i < N → j < N → k < N → T i → T j → T k → acrossR (ρ i) (ρ j) (ρ k) = nilU) :
    ∃ a b, ¬ Dep a b ∧ ∀ k, k < N → T k → acrossR a b (ρ k) = nilU := by
  by_cases h2 : ∃ i j, i < N ∧ j < N ∧ T i ∧ T j ∧ ¬ Dep (ρ i) (ρ j)
  · obtain ⟨i, j, hi, hj, ti, tj, hd⟩ := h2
    exact ⟨ρ i, ρ j, hd, fun k hk tk => h i j k hi hj hk ti tj tk⟩
  · have hdep : ∀ i j, i < N → j < N → T i → T j → Dep (ρ i) (ρ j) := fun i j hi hj ti tj => by
      by_cases hd : Dep (ρ i) (ρ j)
      · exact hd
      · exact absurd ⟨i, j, hi, hj, ti, tj, hd⟩ h2
    by_cases h1 : ∃ i, i < N ∧ T i ∧ ρ i ≠ nilU
    · obtain ⟨i, hi, ti, hne⟩ := h1
      have : ∃ e, ¬ Dep (ρ i) e := by
        rcases U4_ne hne with h | h | h | h
        · exact ⟨⟨0, 1, 0, 0⟩, fun hd => h (by have := hd.1; simp at this; exact this)⟩
        · exact ⟨⟨1, 0, 0, 0⟩, fun hd => h (by have := hd.1; simp at this; exact this.symm)⟩
        · exact ⟨⟨1, 0, 0, 0⟩, fun hd => h (by have := hd.2.1; simp at this; exact this.symm)⟩
        · exact ⟨⟨1, 0, 0, 0⟩, fun hd => h (by have := hd.2.2.1; simp at this; exact this.symm)⟩
      obtain ⟨e, he⟩ := this
      exact ⟨ρ i, e, he, fun k hk tk => acr_dep (hdep i k hi hk ti tk) e⟩
    · refine ⟨⟨1, 0, 0, 0⟩, ⟨0, 1, 0, 0⟩, fun hd => by have := hd.1; simp at this, fun k hk tk => ?_⟩
      have : ρ k = nilU := by
        by_cases hz : ρ k = nilU
        · exact hz
        · exact absurd ⟨k, hk, tk, hz⟩ h1
      rw [this]
      rfl

/-- What is no more than 0 along all lines that three rows tell, is so for all that gives no row more than 0. -/
theorem hcone {N : Nat} {ρ : Nat → U4} {V : U4} (hpt : ∀ f, (∀ k, k < N → dotR f (ρ k) = 0) → f = nilU)
    (hQ : ∀ i j k, i < N → j < N → k < N → ((∀ t, t < N → dotR (acrossR (ρ i) (ρ j) (ρ k)) (ρ t) ≤ 0) → dotR (acrossR (ρ i) (ρ j) (ρ k)) V ≤ 0) ∧ ((∀ t, t < N → 0 ≤ dotR (acrossR (ρ i) (ρ j) (ρ k)) (ρ t)) → 0 ≤ dotR (acrossR (ρ i) (ρ j) (ρ k)) V)) :
    ∀ c f, cntF (fun k => -dotR f (ρ k)) N ≤ c → (∀ k, k < N → dotR f (ρ k) ≤ 0) → 0 ≤ -dotR f V := by
  intro c
  induction c with
  | zero =>
    intro f hc _
    have h0 : ∀ i, i < N → dotR f (ρ i) = 0 := fun i hi => by
      by_cases h : dotR f (ρ i) = 0
      · exact h
      · have := cnt_lt (f := fun k => -dotR f (ρ k)) (g := fun _ => 0) (k := i) (n := N) hi (by omega) rfl (fun _ _ _ => rfl)
        omega
    rw [hpt f h0, dot_nil]
    omega
  | succ c ih =>
    intro f hc hf
    by_cases hnil : f = nilU
    · rw [hnil, dot_nil]
      omega
    by_cases hA : ∃ i j k, i < N ∧ j < N ∧ k < N ∧ dotR f (ρ i) = 0 ∧ dotR f (ρ j) = 0 ∧ dotR f (ρ k) = 0 ∧ acrossR (ρ i) (ρ j) (ρ k) ≠ nilU
    · obtain ⟨i, j, k, hi, hj, hk, ti, tj, tk, hne⟩ := hA
      obtain ⟨α, β, ha, hb, he⟩ := dep_val (along ti tj tk) hnil hne
      obtain ⟨q1, q2⟩ := hQ i j k hi hj hk
      have hα : 0 < α * α := by
        rcases Int.lt_or_lt_of_ne ha with h | h
        · exact Int.mul_pos_of_neg_of_neg h h
        · exact Int.mul_pos h h
      have hs : ∀ y, (α * α) * dotR f y = (α * β) * dotR (acrossR (ρ i) (ρ j) (ρ k)) y := fun y => by have := he y; grind
      have hne0 : α * β ≠ 0 := fun h => by rcases Int.mul_eq_zero.1 h with h | h; exact ha h; exact hb h
      refine pos_of_mul hα ?_
      rcases Int.lt_or_lt_of_ne hne0 with h | h
      · have h1 : 0 ≤ dotR (acrossR (ρ i) (ρ j) (ρ k)) V := q2 fun t ht => by
          have := hs (ρ t)
          have h3 : 0 ≤ (α * α) * (-dotR f (ρ t)) := Int.mul_nonneg (by omega) (by have := hf t ht; omega)
          exact pos_of_mul (a := -(α * β)) (by omega) (by grind)
        have h2 := Int.mul_nonneg (show 0 ≤ -(α * β) by omega) h1
        have := hs V
        grind
      · have h1 : dotR (acrossR (ρ i) (ρ j) (ρ k)) V ≤ 0 := q1 fun t ht => by
          have := hs (ρ t)
          have h3 : 0 ≤ (α * α) * (-dotR f (ρ t)) := Int.mul_nonneg (by omega) (by have := hf t ht; omega)
          have h4 : 0 ≤ -dotR (acrossR (ρ i) (ρ j) (ρ k)) (ρ t) := pos_of_mul h (by grind)
          omega
        have h2 := Int.mul_nonneg (Int.le_of_lt h) (show 0 ≤ -dotR (acrossR (ρ i) (ρ j) (ρ k)) V by omega)
        have := hs V
        grind
    · obtain ⟨a, b, hd, hT⟩ := span2 (N := N) (ρ := ρ) (T := fun k => dotR f (ρ k) = 0) fun i j k hi hj hk ti tj tk => by
        by_cases h : acrossR (ρ i) (ρ j) (ρ k) = nilU
        · exact h
        · exact absurd ⟨i, j, k, hi, hj, hk, ti, tj, tk, h⟩ hA
      obtain ⟨e, he⟩ := other hd hnil
      obtain ⟨H, hH⟩ : ∃ H, acrossR a b e = H := ⟨_, rfl⟩
      have hHT : ∀ k, k < N → dotR f (ρ k) = 0 → dotR H (ρ k) = 0 := fun k hk tk => by
        rw [← hH, acr_swap, hT k hk tk, dot_nil]
        rfl
      rw [hH] at he
      have : ∃ j, j < N ∧ dotR f (ρ j) ≠ 0 := by
        by_cases hx : ∃ j, j < N ∧ dotR f (ρ j) ≠ 0
        · exact hx
        · exact absurd (hpt f fun k hk => by
            by_cases h : dotR f (ρ k) = 0
            · exact h
            · exact absurd ⟨k, hk, h⟩ hx) hnil
      obtain ⟨j, hj, hfj⟩ := this
      obtain ⟨z, hz⟩ : ∃ z, combU (dotR f (ρ j)) (-(dotR H (ρ j))) H f = z := ⟨_, rfl⟩
      have hzy : ∀ y, dotR z y = dotR f (ρ j) * dotR H y + -(dotR H (ρ j)) * dotR f y := fun y => by rw [← hz, dot_comb]
      have hzn : z ≠ nilU := fun h => he (by
        rw [← hz] at h
        simp only [combU, U4.mk.injEq] at h
        obtain ⟨w1, w2, w3, w4⟩ := h
        unfold Dep
        have hfj' := hfj
        refine ⟨?_, ?_, ?_, ?_, ?_, ?_⟩
        · have := zero_of (x := f.q * H.p - f.p * H.q) hfj' (by grind); omega
        · have := zero_of (x := f.q * H.l - f.l * H.q) hfj' (by grind); omega
        · have := zero_of (x := f.q * H.c - f.c * H.q) hfj' (by grind); omega
        · have := zero_of (x := f.p * H.l - f.l * H.p) hfj' (by grind); omega
        · have := zero_of (x := f.p * H.c - f.c * H.p) hfj' (by grind); omega
        · have := zero_of (x := f.l * H.c - f.c * H.l) hfj' (by grind); omega)
      refine reduceG (E := U4) (N := N) (s := fun f k => -dotR f (ρ k)) (v := fun f => -dotR f V) (comb := combU) (fun a b x z i => by simp only [dot_comb]; grind) (fun a b x z => by simp only [dot_comb]; grind) (x := f) (z := z)
        (fun i hi => by have := hf i hi; omega) (fun i hi h0 => ?_) ?_ ⟨j, hj, by omega, by rw [hzy]; grind⟩ (fun y hy hy0 => ih y (by omega) fun k hk => by have := hy0 k hk; omega)
      · have t0 : dotR f (ρ i) = 0 := by omega
        rw [hzy, hHT i hi t0, t0]
        simp
      · by_cases hx : ∃ i, i < N ∧ -dotR z (ρ i) ≠ 0
        · exact hx
        · exact absurd (hpt z fun k hk => by
            by_cases h : dotR z (ρ k) = 0
            · exact h
            · exact absurd ⟨k, hk, by omega⟩ hx) hzn

end Go.Proofs.YtehafggcncbnkaaGreat

namespace Go.Proofs.YtehafggcncbnkaaGreat
open Go Go.RowKit

/-- A proof holds for all metals, and Den, Lead and Copper are not below 0. -/
theorem none_all {n : Nat} {r : Nat → U4} {f : U4} : ∀ {N}, noneB f r N = true → ∀ k, k < N → dotR f (r k) ≤ 0
  | 0, _, _, h => absurd h (Nat.not_lt_zero _)
  | N + 1, h, k, hk => by
    unfold noneB at h
    rw [Bool.and_eq_true] at h
    by_cases e : k = N
    · subst e
      exact of_decide_eq_true h.2
    · exact none_all (n := n) h.1 k (by omega)
theorem none_of {r : Nat → U4} {f : U4} : ∀ {N}, (∀ k, k < N → dotR f (r k) ≤ 0) → noneB f r N = true
  | 0, _ => rfl
  | N + 1, h => by
    unfold noneB
    rw [none_of fun k hk => h k (by omega), decide_eq_true (h N (by omega))]
    rfl
theorem holds_of {s : Bool} {m : Nat → M5} {p : P4} : ∀ {n}, (∀ i, i < n → leftOf s p (m i) ≤ p.d * (m i).p) → holdsB s m p n = true
  | 0, _ => rfl
  | n + 1, h => by
    unfold holdsB
    rw [holds_of fun i hi => h i (by omega), decide_eq_true (h n (by omega))]
    rfl
theorem holds_all {s : Bool} {m : Nat → M5} {p : P4} : ∀ {n}, holdsB s m p n = true → ∀ i, i < n → leftOf s p (m i) ≤ p.d * (m i).p
  | 0, _, _, h => absurd h (Nat.not_lt_zero _)
  | n + 1, h, i, hi => by
    unfold holdsB at h
    rw [Bool.and_eq_true] at h
    by_cases e : i = n
    · subst e
      exact of_decide_eq_true h.2
    · exact holds_all h.1 i (by omega)
theorem dot_metal (s : Bool) (m : M5) (p : P4) : dotR (facU p) (unitOf s (!s) m) = leftOf s p m - p.d * m.p := by
  cases s <;> simp only [dotR, facU, unitOf, leftOf, bad, good, Bool.not_true, Bool.not_false, if_true, Bool.false_eq_true, if_false] <;> grind
theorem rows_at {n : Nat} {u : Nat → U4} : (∀ i, i < n → rowsU n u i = u i) ∧ rowsU n u n = ⟨0, 1, 0, 0⟩ ∧ rowsU n u (n + 1) = ⟨0, 0, 1, 0⟩ ∧ rowsU n u (n + 2) = ⟨0, 0, 0, -1⟩ := by
  refine ⟨fun i hi => by unfold rowsU; rw [if_pos hi], ?_, ?_, ?_⟩
  · unfold rowsU; rw [if_neg (Nat.lt_irrefl n), if_pos rfl]
  · unfold rowsU; rw [if_neg (by omega), if_neg (by omega), if_pos rfl]
  · unfold rowsU; rw [if_neg (by omega), if_neg (by omega), if_neg (by omega)]
/-- Factors that give no row more than 0, as a proof that holds. -/
theorem rows_holds {n : Nat} {s : Bool} {m : Nat → M5} {p : P4} (h : ∀ k, k < n + 3 → dotR (facU p) (rowsU n (potU s m) k) ≤ 0) : 0 ≤ p.d ∧ 0 ≤ p.l ∧ 0 ≤ p.c ∧ holdsB s m p n = true := by
  obtain ⟨e0, e1, e2, e3⟩ := rows_at (n := n) (u := potU s m)
  have k0 := h n (by omega)
  have k1 := h (n + 1) (by omega)
  have k2 := h (n + 2) (by omega)
  rw [e1] at k0
  rw [e2] at k1
  rw [e3] at k2
  simp [dotR, facU] at k0 k1 k2
  refine ⟨by omega, by omega, by omega, holds_of fun i hi => ?_⟩
  have := h i (by omega)
  rw [e0 i hi, dot_metal] at this
  omega
theorem holds_rows {n : Nat} {s : Bool} {m : Nat → M5} {p : P4} (hd : 0 ≤ p.d) (hl : 0 ≤ p.l) (hc : 0 ≤ p.c) (h : holdsB s m p n = true) : ∀ k, k < n + 3 → dotR (facU p) (rowsU n (potU s m) k) ≤ 0 := by
  obtain ⟨e0, e1, e2, e3⟩ := rows_at (n := n) (u := potU s m)
  intro k hk
  by_cases hn : k < n
  · rw [e0 k hn, dot_metal]
    have := holds_all h k hn
    omega
  · have : k = n ∨ k = n + 1 ∨ k = n + 2 := by omega
    rcases this with rfl | rfl | rfl
    · rw [e1]; simp [dotR, facU]; omega
    · rw [e2]; simp [dotR, facU]; omega
    · rw [e3]; simp [dotR, facU]; omega

theorem value_sum (s : Bool) (m : Nat → M5) (p : P4) (x : Nat → Int) (n : Nat) : sumF (fun i => x i * (leftOf s p (m i) - p.d * (m i).p)) n = p.b * sumF x n - p.l * leadF s m x n + p.c * copperF s m x n - p.d * priceF m x n := by
  have h1 := sumF_lin 1 (-p.d) (fun i => x i * leftOf s p (m i)) (fun i => x i * (m i).p) n
  have h2 := sumF_lin p.b 1 x (fun i => x i * (p.c * good s (m i) - p.l * bad s (m i))) n
  have h3 := sumF_lin p.c (-p.l) (fun i => x i * good s (m i)) (fun i => x i * bad s (m i)) n
  rw [sumC (g := fun i => 1 * (x i * leftOf s p (m i)) + -p.d * (x i * (m i).p)) fun i _ => by grind, h1]
  rw [sumC (f := fun i => x i * leftOf s p (m i)) (g := fun i => p.b * x i + 1 * (x i * (p.c * good s (m i) - p.l * bad s (m i)))) fun i _ => by unfold leftOf; grind, h2]
  rw [sumC (f := fun i => x i * (p.c * good s (m i) - p.l * bad s (m i))) (g := fun i => p.c * (x i * good s (m i)) + -p.l * (x i * bad s (m i))) fun i _ => by grind, h3]
  show 1 * (p.b * sumF x n + 1 * (p.c * copperF s m x n + -p.l * leadF s m x n)) + -p.d * priceF m x n = _
  grind
/-- No mixture that deserves the touch costs less than a proof that holds says. -/
theorem weak {n : Nat} {m : Nat → M5} {l c : Int} {s : Bool} {p : P4} (hl : 0 ≤ p.l) (hc : 0 ≤ p.c) (h : holdsB s m p n = true) {x : Nat → Int} (hx : ∀ i, i < n → 0 ≤ x i) (hg : goodB s n m l c x = true) :
    valueR l c p * sumF x n ≤ p.d * priceF m x n := by
  obtain ⟨g1, g2⟩ := of_decide_eq_true hg
  have h1 := sumF_nonneg (f := fun i => x i * (p.d * (m i).p - leftOf s p (m i))) (n := n) fun i hi => Int.mul_nonneg (hx i hi) (by have := holds_all h i hi; omega)
  have h2 := value_sum s m p x n
  have h3 := sumF_lin (-1) 0 (fun i => x i * (leftOf s p (m i) - p.d * (m i).p)) (fun _ => 0) n
  rw [sumC (g := fun i => -1 * (x i * (leftOf s p (m i) - p.d * (m i).p)) + 0 * 0) fun i _ => by grind, h3, h2] at h1
  have a1 := Int.mul_le_mul_of_nonneg_left g1 hl
  have a2 := Int.mul_le_mul_of_nonneg_left g2 hc
  unfold valueR
  grind

/-- Two weights, as a proof. -/
theorem strong {n : Nat} {m : Nat → M5} {l c : Int} {s : Bool} (hn : n ≤ 6) (P S : Int) (h : ∀ f ∈ potL n m l c s, P * sumF f n ≤ S * priceF m f n) :
    ∃ d : Int, 0 < d ∧ ∃ p : P4, p.d = d * S ∧ valueR l c p = d * P ∧ 0 ≤ p.l ∧ 0 ≤ p.c ∧ holdsB s m p n = true := by
  obtain ⟨v1, v2⟩ := room_none n (potU s m) l c
  let W : Nat → Int := fun i => if i < n then S * (m i).p - P else 0
  have hW : ∀ i, i < n → W i = S * (m i).p - P := fun i hi => by show (if i < n then _ else _) = _; rw [if_pos hi]
  have hW1 : W n = 0 := by show (if n < n then _ else _) = _; rw [if_neg (by omega)]
  have hW2 : W (n + 1) = 0 := by show (if n + 1 < n then _ else _) = _; rw [if_neg (by omega)]
  obtain ⟨d, u, v, hd, hw⟩ := weights (N := n + 2) (r := roomF n (potU s m) l c) (w := W) fun x hx he => corners_cone hn v1 v2 hW1 hW2 (fun f hf => by
    rw [sumC fun i hi => by rw [hW i hi], sum_less]
    have h1 := h f hf
    unfold priceF at h1
    omega) x hx he
  have hu := hw n (by omega)
  have hv := hw (n + 1) (by omega)
  rw [v1, hW1] at hu
  rw [v2, hW2] at hv
  simp at hu hv
  refine ⟨d, hd, ⟨d * S, d * P + u * l - v * c, u, v⟩, rfl, by unfold valueR; grind, by simpa using hu, by simpa using hv, holds_of fun i hi => ?_⟩
  have h1 := hw i (by omega)
  rw [hW i hi] at h1
  unfold roomF at h1
  rw [if_pos hi] at h1
  have e1 : (potU s m i).l = bad s (m i) := by cases s <;> rfl
  have e2 : (potU s m i).c = good s (m i) := by cases s <;> rfl
  rw [e1, e2] at h1
  unfold leftOf
  simp only at h1 ⊢
  grind

/-! The lines that three rows tell. -/
def Qu (N : Nat) (ρ : Nat → U4) (V c : U4) : Prop := ((∀ t, t < N → dotR c (ρ t) ≤ 0) → dotR c V ≤ 0) ∧ ((∀ t, t < N → 0 ≤ dotR c (ρ t)) → 0 ≤ dotR c V)
theorem Qu.neg {N : Nat} {ρ : Nat → U4} {V c : U4} (h : Qu N ρ V c) : Qu N ρ V (negU c) := by
  refine ⟨fun h1 => ?_, fun h1 => ?_⟩
  · rw [dot_neg]
    have := h.2 fun t ht => by have := h1 t ht; rw [dot_neg] at this; omega
    omega
  · rw [dot_neg]
    have := h.1 fun t ht => by have := h1 t ht; rw [dot_neg] at this; omega
    omega
theorem acr_12 (a b c : U4) : acrossR b a c = negU (acrossR a b c) := by
  unfold acrossR negU minorR det3; simp only [U4.mk.injEq]; exact ⟨by grind, by grind, by grind, by grind⟩
theorem acr_23 (a b c : U4) : acrossR a c b = negU (acrossR a b c) := by
  unfold acrossR negU minorR det3; simp only [U4.mk.injEq]; exact ⟨by grind, by grind, by grind, by grind⟩
theorem acr_eq (a c : U4) : acrossR a a c = nilU ∧ acrossR a c a = nilU ∧ acrossR c a a = nilU := by
  unfold acrossR minorR det3; simp only [U4.mk.injEq]
  exact ⟨⟨by grind, by grind, by grind, by grind⟩, ⟨by grind, by grind, by grind, by grind⟩, by grind, by grind, by grind, by grind⟩
theorem neg_neg (c : U4) : negU (negU c) = c := by cases c; simp [negU]

theorem Qu.all {N : Nat} {ρ : Nat → U4} {V : U4} (h : ∀ i j k, i < j → j < k → k < N → Qu N ρ V (acrossR (ρ i) (ρ j) (ρ k))) (i j k : Nat) (hi : i < N) (hj : j < N) (hk : k < N) : Qu N ρ V (acrossR (ρ i) (ρ j) (ρ k)) := by
  have hnil : Qu N ρ V nilU := ⟨fun _ => by rw [dot_nil]; exact Int.le_refl _, fun _ => by rw [dot_nil]; exact Int.le_refl _⟩
  by_cases e1 : i = j
  · rw [e1, (acr_eq _ _).1]; exact hnil
  by_cases e2 : i = k
  · rw [e2, (acr_eq _ _).2.1]; exact hnil
  by_cases e3 : j = k
  · rw [e3, (acr_eq _ _).2.2]; exact hnil
  rcases Nat.lt_or_ge i j with h1 | h1
  · rcases Nat.lt_or_ge j k with h2 | h2
    · exact h i j k h1 h2 hk
    · rcases Nat.lt_or_ge i k with h3 | h3
      · rw [acr_23]; exact (h i k j h3 (by omega) hj).neg
      · rw [acr_23, acr_12, neg_neg]; exact h k i j (by omega) h1 hj
  · rcases Nat.lt_or_ge i k with h2 | h2
    · rw [acr_12]; exact (h j i k (by omega) h2 hk).neg
    · rcases Nat.lt_or_ge j k with h3 | h3
      · rw [acr_12, acr_23, neg_neg]; exact h j k i h3 (by omega) hi
      · rw [acr_12, acr_23, acr_12, neg_neg]; exact (h k j i (by omega) (by omega) hi).neg

theorem at_dvd (f : U4) : divF f.at 4 ∣ f.q ∧ divF f.at 4 ∣ f.p ∧ divF f.at 4 ∣ f.l ∧ divF f.at 4 ∣ f.c :=
  ⟨divF_dvd f.at 4 0 (by omega), divF_dvd f.at 4 1 (by omega), divF_dvd f.at 4 2 (by omega), divF_dvd f.at 4 3 (by omega)⟩
theorem fac_of (f : U4) (d : Int) (h1 : d ∣ f.q) (h2 : d ∣ f.p) (h3 : d ∣ f.l) (h4 : d ∣ f.c) (y : U4) : dotR (facU (proofOfR f d)) y * d = dotR f y := by
  have e1 := Int.tdiv_mul_cancel h1
  have e2 := Int.tdiv_mul_cancel h2
  have e3 := Int.tdiv_mul_cancel h3
  have e4 := Int.tdiv_mul_cancel h4
  unfold dotR facU proofOfR
  simp only [Int.neg_neg]
  rw [← e1, ← e2, ← e3, ← e4]
  simp only [Int.tdiv_mul_cancel h1, Int.tdiv_mul_cancel h2, Int.tdiv_mul_cancel h3, Int.tdiv_mul_cancel h4]
  grind

theorem prf_mem {N : Nat} {r : Nat → U4} {i j k : Nat} (hij : i < j) (hjk : j < k) (hk : k < N) {p : P4} (hp : p ∈ prfsOf (acrossR (r i) (r j) (r k))) : p ∈ prfL N r (triL N).length := by
  unfold prfL
  rw [List.take_length, List.mem_flatMap]
  exact ⟨(i, j, k), mem_tri hij hjk hk, hp⟩

/-- What no proof that three rows tell exceeds, no proof exceeds. -/
theorem lines_tell {n : Nat} {s : Bool} {m : Nat → M5} (hn : 1 ≤ n) (V : U4) (h : ∀ p, prfS n (potU s m) p → dotR (facU p) V ≤ 0) {p : P4} (hd : 0 ≤ p.d) (hl : 0 ≤ p.l) (hc : 0 ≤ p.c) (hp : holdsB s m p n = true) : dotR (facU p) V ≤ 0 := by
  obtain ⟨e0, e1, e2, e3⟩ := rows_at (n := n) (u := potU s m)
  have key := hcone (N := n + 3) (ρ := rowsU n (potU s m)) (V := V) (fun f hf => by
    have k0 := hf 0 (by omega)
    have k1 := hf n (by omega)
    have k2 := hf (n + 1) (by omega)
    have k3 := hf (n + 2) (by omega)
    rw [e0 0 (by omega)] at k0
    rw [e1] at k1
    rw [e2] at k2
    rw [e3] at k3
    cases f with | mk fq fp fl fc =>
    simp only [dotR, unitOf, Int.mul_zero, Int.mul_one, Int.zero_add, Int.add_zero, U4.mk.injEq] at k0 k1 k2 k3 ⊢
    subst k1 k2
    have k3' : fc = 0 := by omega
    subst k3'
    simp at k0
    exact ⟨k0, rfl, rfl, rfl⟩) (Qu.all fun i j k hij hjk hk => by
    by_cases hz : zeroU (acrossR (rowsU n (potU s m) i) (rowsU n (potU s m) j) (rowsU n (potU s m) k)) = true
    · have : acrossR (rowsU n (potU s m) i) (rowsU n (potU s m) j) (rowsU n (potU s m) k) = nilU := by
        generalize acrossR (rowsU n (potU s m) i) (rowsU n (potU s m) j) (rowsU n (potU s m) k) = f at hz
        cases f
        simpa [zeroU] using hz
      rw [this]
      exact ⟨fun _ => by rw [dot_nil]; exact Int.le_refl _, fun _ => by rw [dot_nil]; exact Int.le_refl _⟩
    · have hin : ∀ p, p ∈ [proofOfR (acrossR (rowsU n (potU s m) i) (rowsU n (potU s m) j) (rowsU n (potU s m) k)) (divF (acrossR (rowsU n (potU s m) i) (rowsU n (potU s m) j) (rowsU n (potU s m) k)).at 4), proofOfR (acrossR (rowsU n (potU s m) i) (rowsU n (potU s m) j) (rowsU n (potU s m) k)) (-(divF (acrossR (rowsU n (potU s m) i) (rowsU n (potU s m) j) (rowsU n (potU s m) k)).at 4))] →
          p ∈ prfL (n + 3) (rowsU n (potU s m)) (triL (n + 3)).length := fun p hp => prf_mem hij hjk hk (by
        unfold prfsOf
        rw [if_neg hz]
        exact hp)
      generalize acrossR (rowsU n (potU s m) i) (rowsU n (potU s m) j) (rowsU n (potU s m) k) = f at hin
      obtain ⟨d1, d2, d3, d4⟩ := at_dvd f
      have hg := divF_pos f.at 4
      generalize divF f.at 4 = g at *
      have f1 := fac_of f g d1 d2 d3 d4
      have f2 := fac_of f (-g) (Int.neg_dvd.2 d1) (Int.neg_dvd.2 d2) (Int.neg_dvd.2 d3) (Int.neg_dvd.2 d4)
      refine ⟨fun ht => ?_, fun ht => ?_⟩
      · have := h (proofOfR f g) ⟨hin _ (by simp), none_of fun t htN => by
          have h1 := ht t htN
          have h2 := f1 (rowsU n (potU s m) t)
          have h3 : 0 ≤ -dotR (facU (proofOfR f g)) (rowsU n (potU s m) t) := nonneg_of_mul hg (by grind)
          omega⟩
        have h4 := f1 V
        have h5 := Int.mul_nonneg (show 0 ≤ -dotR (facU (proofOfR f g)) V by omega) (Int.le_of_lt hg)
        grind
      · have := h (proofOfR f (-g)) ⟨hin _ (by simp), none_of fun t htN => by
          have h1 := ht t htN
          have h2 := f2 (rowsU n (potU s m) t)
          have h3 : 0 ≤ -dotR (facU (proofOfR f (-g))) (rowsU n (potU s m) t) := nonneg_of_mul hg (by grind)
          omega⟩
        have h4 := f2 V
        have h5 := Int.mul_nonneg (show 0 ≤ -dotR (facU (proofOfR f (-g))) V by omega) (Int.le_of_lt hg)
        grind) _ (facU p) (Nat.le_refl _) (holds_rows hd hl hc hp)
  omega

theorem prf_fine {n : Nat} {m : Nat → M5} {s : Bool} (hF : Fine n m) {p : P4} (h : prfS n (potU s m) p) : p.fine := prfL_fine (rows_near1 (ones_of hF s (!s))) _ p h.1
theorem prf_holds {n : Nat} {m : Nat → M5} {s : Bool} {p : P4} (h : prfS n (potU s m) p) : 0 ≤ p.d ∧ 0 ≤ p.l ∧ 0 ≤ p.c ∧ holdsB s m p n = true := rows_holds fun k hk => none_all (n := n) h.2 k hk
theorem prf_isProof {n : Nat} {m : Nat → M5} {s : Bool} (hF : Fine n m) {p : P4} (h : prfS n (potU s m) p) : isProofB p = true := by
  obtain ⟨h1, h2, h3, h4⟩ := prf_fine hF h
  obtain ⟨k1, k2, k3, _⟩ := prf_holds h
  unfold Million6 at h1 h3 h4
  unfold Six at h2
  exact decide_eq_true ⟨by omega, by omega, by omega, by omega, by omega, by omega⟩
theorem dot_val4 (p : P4) (a b l c : Int) : dotR (facU p) ⟨a, b, a * l, a * c⟩ = a * valueR l c p - p.d * b := by
  unfold dotR facU valueR
  grind

theorem Order.mono {α : Type} {S S' : α → Prop} {lt : α → α → Bool} (h : Order S lt) (hs : ∀ x, S' x → S x) : Order S' lt where
  irrefl x hx := h.irrefl x (hs x hx)
  asymm x y hx hy := h.asymm x y (hs x hx) (hs y hy)
  ntrans x y z hx hy hz := h.ntrans x y z (hs x hx) (hs y hy) (hs z hz)

/-- Where some mixture deserves the touch some of these proofs has a Den, and the best of them proves the least cost. -/
theorem cost_proved {n : Nat} {m : Nat → M5} {l c : Int} {s : Bool} (hb : bothE n m l c = 0) {f : Nat → Int} (hf : Low n m l c s f) :
    (∃ p, costS n (potU s m) p) ∧ ∀ L : List P4, (∀ p, p ∈ L ↔ costS n (potU s m) p) → checkProofR n m l c s (bestP (costLt l c) L) = ((costOf n m f).1, (costOf n m f).2, 0) := by
  obtain ⟨hM, ht⟩ := both_ok hb
  have hF := fine_of hM
  have hS := hf.mix.2.2
  obtain ⟨d, hd, p0, e1, e2, e3, e4, e5⟩ := strong (n := n) (m := m) (l := l) (c := c) (s := s) hF.2.1 (priceF m f n) (sumF f n) fun x hx => by
    have := hf.low x (fun i _ => ((pot_good hF ht hx).1 i).1) (corner_good hx)
    grind
  have hd0 : 0 < p0.d := by rw [e1]; exact Int.mul_pos hd hS
  have hex : ∃ p, costS n (potU s m) p := by
    by_cases h : ∃ p, costS n (potU s m) p
    · exact h
    · exfalso
      have := lines_tell (s := s) (m := m) hF.1 ⟨0, -1, 0, 0⟩ (fun p hp => by
        have hp0 : p.d = 0 := by
          by_cases h0 : p.d = 0
          · exact h0
          · exact absurd ⟨p, hp, h0⟩ h
        simp [dotR, facU, hp0]) (Int.le_of_lt hd0) e3 e4 e5
      simp [dotR, facU] at this
      omega
  refine ⟨hex, fun L hL => ?_⟩
  obtain ⟨q, hqe⟩ : ∃ q, bestP (costLt l c) L = q := ⟨_, rfl⟩
  obtain ⟨hq, hmax⟩ := bestP_max (S := costS n (potU s m)) ((costLt_order l c).mono fun p hp => by have := (prf_holds hp.1).1; have := hp.2; omega) hL hex
  rw [hqe] at hq hmax ⊢
  obtain ⟨q1, q2, q3, q4⟩ := prf_holds hq.1
  have hqd : 0 < q.d := by have := hq.2; omega
  have hq6 := (prf_fine hF hq.1).1.2
  have hfn : ∀ i, i < n → 0 ≤ f i := fun i _ => (hf.mix.1 i).1
  have w1 := weak q2 q3 q4 hfn hf.good
  have w2 := lines_tell (s := s) (m := m) hF.1 ⟨q.d, valueR l c q, q.d * l, q.d * c⟩ (fun p hp => by
    rw [dot_val4]
    by_cases h0 : p.d = 0
    · obtain ⟨_, k2, k3, k4⟩ := prf_holds hp
      have := weak k2 k3 k4 hfn hf.good
      rw [h0] at this ⊢
      have h1 : 0 ≤ -valueR l c p := nonneg_of_mul hS (by grind)
      have h2 := Int.mul_nonneg (Int.le_of_lt hqd) h1
      grind
    · have h1 := of_decide_eq_false (hmax p ⟨hp, h0⟩)
      grind) (Int.le_of_lt hd0) e3 e4 e5
  rw [dot_val4, e1, e2] at w2
  have w3 : q.d * priceF m f n ≤ sumF f n * valueR l c q := by
    have : 0 ≤ (sumF f n * valueR l c q - q.d * priceF m f n) * d := by grind
    have := nonneg_of_mul hd this
    omega
  have w4 : valueR l c q * sumF f n = priceF m f n * q.d := by
    have c1 := Int.mul_comm (priceF m f n) q.d
    have c2 := Int.mul_comm (sumF f n) (valueR l c q)
    omega
  obtain ⟨r1, r2⟩ := rat_same hqd hS w4
  unfold checkProofR
  rw [if_neg (by omega), prf_isProof hF hq.1, if_neg (by simp; omega), q4, if_neg (by simp), r1, r2]

theorem never_proved {n : Nat} {m : Nat → M5} {l c : Int} {s : Bool} (hb : bothE n m l c = 0) (hnil : potL n m l c s = []) :
    (∃ p, neverS n (potU s m) p) ∧ ∀ L : List P4, (∀ p, p ∈ L ↔ neverS n (potU s m) p) → checkNeverE n m l c s (bestP (neverLt l c) L) = 0 := by
  obtain ⟨hM, ht⟩ := both_ok hb
  have hF := fine_of hM
  obtain ⟨d, hd, p0, e1, e2, e3, e4, e5⟩ := strong (n := n) (m := m) (l := l) (c := c) (s := s) hF.2.1 1 0 fun x hx => by rw [hnil] at hx; simp at hx
  rw [Int.mul_zero] at e1
  rw [Int.mul_one] at e2
  have hex : ∃ p, neverS n (potU s m) p ∧ 0 < valueR l c p := by
    by_cases h : ∃ p, neverS n (potU s m) p ∧ 0 < valueR l c p
    · exact h
    · exfalso
      have := lines_tell (s := s) (m := m) hF.1 ⟨1, 1000000000000000, 1 * l, 1 * c⟩ (fun p hp => by
        rw [dot_val4]
        obtain ⟨k1, k2, k3, k4⟩ := prf_holds hp
        by_cases h0 : p.d = 0
        · have h1 : valueR l c p ≤ 0 := by
            rcases Int.lt_or_le 0 (valueR l c p) with h' | h'
            · exact absurd ⟨p, ⟨hp, h0⟩, h'⟩ h
            · exact h'
          rw [h0]
          omega
        · have h2 := (valueR_six (prfL_six (rows_near (ones_of hF s (!s)).1) _ p hp.1) ht).2
          omega) (by omega) e3 e4 e5
      rw [dot_val4, e1, e2] at this
      omega
  obtain ⟨p1, hp1, hv1⟩ := hex
  refine ⟨⟨p1, hp1⟩, fun L hL => ?_⟩
  obtain ⟨q, hqe⟩ : ∃ q, bestP (neverLt l c) L = q := ⟨_, rfl⟩
  obtain ⟨hq, hmax⟩ := bestP_max (S := neverS n (potU s m)) (neverLt_order l c _) hL ⟨p1, hp1⟩
  rw [hqe] at hq hmax ⊢
  have hv := of_decide_eq_false (hmax p1 hp1)
  unfold checkNeverE
  rw [if_neg (by omega), prf_isProof hF hq.1, if_neg (by simp; exact hq.2), (prf_holds hq.1).2.2.2, if_neg (by simp; omega)]

end Go.Proofs.YtehafggcncbnkaaGreat
