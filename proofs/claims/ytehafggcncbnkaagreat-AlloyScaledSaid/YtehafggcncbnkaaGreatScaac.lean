/- A metal that is written into a list of metals of its own. -/
import Derived.Test.YtehafggcncbnkaaGreatProg
import Derived.Test.YtehafggcncbnkaaGreatBasaa
import Derived.Test.YtehafggcncbnkaaGreatBasai
import Derived.Test.YtehafggcncbnkaaGreatScaaa
import Derived.Test.YtehafggcncbnkaaGreatScaab
import Derived.Test.YtehafggcncbnkaaGreatBasar
import Derived.Test.YtehafggcncbnkaaGreatBasau
import Derived.Test.YtehafggcncbnkaaGreatBasas
import Derived.StillTail
import Derived.Test.YtehafggcncbnkaaGreatBasaf
namespace Go.Proofs.YtehafggcncbnkaaGreat
open Go Go.RowKit

def putM (m : Nat → M5) (i : Nat) (q : M5) (j : Nat) : M5 := if j = i then q else m j
/-- A metal's five cells are written. -/
def put5 (w : World) (g i : Nat) (q : M5) : World :=
  ((((w.setCell ⟨g, i * 5, none⟩ (.int .i64 q.p)).setCell ⟨g, i * 5 + 1, none⟩ (.int .i64 q.l0)).setCell ⟨g, i * 5 + 2, none⟩ (.int .i64 q.l1)).setCell ⟨g, i * 5 + 3, none⟩ (.int .i64 q.c0)).setCell ⟨g, i * 5 + 4, none⟩ (.int .i64 q.c1)

theorem mCells_get (m : Nat → M5) {n a b : Nat} (ha : a < n) (hb : b < 5) : (mCells m n)[a * 5 + b]? = ((m a).cells)[b]? := catF_get (fun i => (m i).cells) 5 (fun _ => rfl) a b hb n ha
theorem put_list (m : Nat → M5) {n i : Nat} (hi : i < n) (q : M5) :
    (((((mCells m n).set (i * 5) (.int .i64 q.p)).set (i * 5 + 1) (.int .i64 q.l0)).set (i * 5 + 2) (.int .i64 q.l1)).set (i * 5 + 3) (.int .i64 q.c0)).set (i * 5 + 4) (.int .i64 q.c1) = mCells (putM m i q) n := by
  refine List.ext_getElem? fun j => ?_
  simp only [List.getElem?_set, List.length_set, mCells_len]
  by_cases hj : j < n * 5
  · obtain ⟨a, ha⟩ : ∃ a, j / 5 = a := ⟨_, rfl⟩
    obtain ⟨b, hb⟩ : ∃ b, j % 5 = b := ⟨_, rfl⟩
    have hj' : j = a * 5 + b := by omega
    have ha' : a < n := by omega
    have hb' : b < 5 := by omega
    subst hj'
    rw [mCells_get m ha' hb', mCells_get (putM m i q) ha' hb']
    unfold putM
    by_cases e : a = i
    · rw [if_pos e]
      subst e
      have hcase : b = 0 ∨ b = 1 ∨ b = 2 ∨ b = 3 ∨ b = 4 := by omega
      rcases hcase with rfl | rfl | rfl | rfl | rfl <;> simp [M5.cells] <;> omega
    · rw [if_neg e, if_neg (by omega), if_neg (by omega), if_neg (by omega), if_neg (by omega), if_neg (by omega)]
  · rw [List.getElem?_eq_none (l := mCells m n) (by rw [mCells_len]; omega), List.getElem?_eq_none (l := mCells (putM m i q) n) (by rw [mCells_len]; omega)]
    rw [if_neg (by omega), if_neg (by omega), if_neg (by omega), if_neg (by omega), if_neg (by omega)]
theorem put_own {w : World} {base : Nat} {e : TypeId} {g n cap i : Nat} {m : Nat → M5} (h : w.ownsRow base e 5 (.slice (some ⟨g, 0, none⟩) n cap) n (mCells m n)) (hi : i < n) (q : M5) :
    (put5 w g i q).ownsRow base e 5 (.slice (some ⟨g, 0, none⟩) n cap) n (mCells (putM m i q) n) := by
  have h1 := (h.stored (i * 5) (.int .i64 q.p)).1
  have h2 := (h1.stored (i * 5 + 1) (.int .i64 q.l0)).1
  have h3 := (h2.stored (i * 5 + 2) (.int .i64 q.l1)).1
  have h4 := (h3.stored (i * 5 + 3) (.int .i64 q.c0)).1
  have h5 := (h4.stored (i * 5 + 4) (.int .i64 q.c1)).1
  rw [put_list m hi q] at h5
  exact h5
theorem put_below {w w0 : World} {B g : Nat} (h : Below B w0 w) (hg : B ≤ g) (i : Nat) (q : M5) : Below B w0 (put5 w g i q) :=
  ((((h.setCell (p := ⟨g, i * 5, none⟩) hg _).setCell (p := ⟨g, i * 5 + 1, none⟩) hg _).setCell (p := ⟨g, i * 5 + 2, none⟩) hg _).setCell (p := ⟨g, i * 5 + 3, none⟩) hg _).setCell (p := ⟨g, i * 5 + 4, none⟩) hg _

theorem own_lit (w : World) {base N : Nat} (e : TypeId) (size : Nat) (hb : base ≤ w.heap.size) (hN : w.heap.size = N) : (w.alloc (.cells #[] e)).ownsRow base e size (.slice (some ⟨N, 0, none⟩) 0 0) 0 [] := by
  subst hN
  have h := World.ownsRow_lit (base := base) (e := e) (size := size) w #[] 0 hb (by unfold maxLen; omega) (by simp)
  exact h
theorem own_drew {w : World} {base : Nat} {e : TypeId} {size n : Nat} {v : Value} {xs : List Value} (h : w.ownsRow base e size v n xs) : w.drew.ownsRow base e size v n xs := h

end Go.Proofs.YtehafggcncbnkaaGreat

namespace Go.Proofs.YtehafggcncbnkaaGreat
open Go Go.RowKit

theorem sum_shift1 (h : Nat → Int) : ∀ n, sumF (fun k => h (k + 1)) n = sumF h n + h n - h 0
  | 0 => by simp [sumF]
  | n + 1 => by
    have := sum_shift1 h n
    simp only [sumF]
    omega
theorem rot_sum (g : Nat → Int) {n : Nat} (hn : 0 < n) : ∀ s, sumF (fun k => g ((k + s) % n)) n = sumF g n
  | 0 => sumC fun k hk => by rw [Nat.add_zero, Nat.mod_eq_of_lt hk]
  | s + 1 => by
    have h1 := sum_shift1 (fun j => g ((j + s) % n)) n
    have h2 := rot_sum g hn s
    have e : (n + s) % n = (0 + s) % n := by rw [Nat.zero_add, Nat.add_mod_left]
    simp only [e] at h1
    have e2 : sumF (fun k => g ((k + (s + 1)) % n)) n = sumF (fun k => g ((k + 1 + s) % n)) n := sumC fun k _ => by rw [show k + (s + 1) = k + 1 + s by omega]
    rw [e2, h1]
    omega

/-- Metals turned by s: what was at k is at k + s. -/
def Turned (n s : Nat) (m y : Nat → M5) : Prop := ∀ k, k < n → y ((k + s) % n) = m k
def pull (n s : Nat) (x : Nat → Int) (k : Nat) : Int := x ((k + s) % n)
def push (n s : Nat) (x : Nat → Int) (j : Nat) : Int := x ((j + (n - s)) % n)

theorem pull_push {n s k : Nat} (hs : s < n) (hk : k < n) (x : Nat → Int) : pull n s (push n s x) k = x k := by
  unfold pull push
  congr 1
  rw [Nat.mod_add_mod, show k + s + (n - s) = k + n by omega, Nat.add_mod_right, Nat.mod_eq_of_lt hk]
theorem pull_sum {n : Nat} (hn : 0 < n) (s : Nat) (x : Nat → Int) : sumF (pull n s x) n = sumF x n := rot_sum x hn s
theorem pull_sums {n s : Nat} (hn : 0 < n) {m y : Nat → M5} (ht : Turned n s m y) (x : Nat → Int) (h : M5 → Int) : sumF (fun k => pull n s x k * h (m k)) n = sumF (fun j => x j * h (y j)) n := by
  rw [← rot_sum (fun j => x j * h (y j)) hn s]
  exact sumC fun k hk => by rw [ht k hk]; rfl
theorem pull_good {n s : Nat} (hn : 0 < n) {m y : Nat → M5} (ht : Turned n s m y) (x : Nat → Int) (l c : Int) (b : Bool) : goodB b n m l c (pull n s x) = goodB b n y l c x := by
  unfold goodB leadF copperF
  rw [pull_sums hn ht x (fun q => bad b q), pull_sums hn ht x (fun q => good b q), pull_sum hn]
theorem pull_price {n s : Nat} (hn : 0 < n) {m y : Nat → M5} (ht : Turned n s m y) (x : Nat → Int) : priceF m (pull n s x) n = priceF y x n := pull_sums hn ht x (fun q => q.p)
theorem good_congr {n : Nat} {m : Nat → M5} {l c : Int} {b : Bool} {f g : Nat → Int} (h : ∀ i, i < n → f i = g i) : goodB b n m l c f = goodB b n m l c g := by
  unfold goodB leadF copperF
  rw [sumC fun i hi => by rw [h i hi], sumC (f := fun i => f i * good b (m i)) fun i hi => by rw [h i hi], sumC (f := f) h]
theorem price_congr {n : Nat} {m : Nat → M5} {f g : Nat → Int} (h : ∀ i, i < n → f i = g i) : priceF m f n = priceF m g n := sumC fun i hi => by rw [h i hi]
theorem push_good {n s : Nat} (hs : s < n) {m y : Nat → M5} (ht : Turned n s m y) (x : Nat → Int) (l c : Int) (b : Bool) : goodB b n y l c (push n s x) = goodB b n m l c x := by
  rw [← pull_good (by omega) ht]
  exact good_congr fun i hi => pull_push hs hi x
theorem push_price {n s : Nat} (hs : s < n) {m y : Nat → M5} (ht : Turned n s m y) (x : Nat → Int) : priceF y (push n s x) n = priceF m x n := by
  rw [← pull_price (by omega) ht]
  exact price_congr fun i hi => pull_push hs hi x
theorem push_sum {n s : Nat} (hs : s < n) (x : Nat → Int) : sumF (push n s x) n = sumF x n := by
  rw [← pull_sum (by omega) s]
  exact sumC fun i hi => pull_push hs hi x
theorem pull_nn {n s : Nat} (hn : 0 < n) {x : Nat → Int} (h : ∀ i, i < n → 0 ≤ x i) (i : Nat) : 0 ≤ pull n s x i := h _ (Nat.mod_lt _ hn)
theorem push_nn {n s : Nat} (hn : 0 < n) {x : Nat → Int} (h : ∀ i, i < n → 0 ≤ x i) (i : Nat) : 0 ≤ push n s x i := h _ (Nat.mod_lt _ hn)

theorem turn_nil {n s : Nat} (hs : s < n) {m y : Nat → M5} (ht : Turned n s m y) {l c : Int} {b : Bool} (h : Nil n m l c b) : Nil n y l c b := fun x hx hp => by
  rw [← pull_good (by omega) ht]
  exact h _ (fun i _ => pull_nn (by omega) hx i) (by rw [pull_sum (by omega)]; exact hp)
theorem low_not {n : Nat} {m : Nat → M5} {l c : Int} {b : Bool} {f : Nat → Int} (h : Low n m l c b f) : ¬ Nil n m l c b := fun hn => by
  have := hn f (fun i _ => (h.mix.1 i).1) h.mix.2.2
  rw [h.good] at this
  cases this
theorem turn_not {n s : Nat} (hs : s < n) {m y : Nat → M5} (ht : Turned n s m y) {l c : Int} {b : Bool} {f : Nat → Int} (hg : goodB b n m l c f = true) (hf : ∀ i, i < n → 0 ≤ f i) (hp : 0 < sumF f n) : ¬ Nil n y l c b := fun hn => by
  have := hn (push n s f) (fun i _ => push_nn (by omega) hf i) (by rw [push_sum hs]; exact hp)
  rw [push_good hs ht, hg] at this
  cases this

theorem turn_least {n s : Nat} (hs : s < n) {m y : Nat → M5} (ht : Turned n s m y) {l c : Int} (hb : bothE n m l c = 0) (hb' : bothE n y l c = 0) (b : Bool) : leastR n y l c b = leastR n m l c b := by
  rcases least_cases hb b with ⟨h1, _, h3⟩ | ⟨f, _, h1, h3⟩
  · rcases least_cases hb' b with ⟨g1, _, _⟩ | ⟨f', _, _, g3⟩
    · rw [h1, g1]
    · exact absurd (turn_nil hs ht h3) (low_not g3)
  · rcases least_cases hb' b with ⟨_, _, g3⟩ | ⟨f', _, g1, g3⟩
    · exact absurd g3 (turn_not hs ht h3.good (fun i _ => (h3.mix.1 i).1) h3.mix.2.2)
    · have a1 := h3.low (pull n s f') (fun i _ => pull_nn (by omega) (fun i _ => (g3.mix.1 i).1) i) (by rw [pull_good (by omega) ht]; exact g3.good)
      have a2 := g3.low (push n s f) (fun i _ => push_nn (by omega) (fun i _ => (h3.mix.1 i).1) i) (by rw [push_good hs ht]; exact h3.good)
      rw [pull_sum (by omega), pull_price (by omega) ht] at a1
      rw [push_sum hs, push_price hs ht] at a2
      obtain ⟨r1, r2⟩ := rat_same (n := priceF m f n) (d := sumF f n) (n' := priceF y f' n) (d' := sumF f' n) h3.mix.2.2 g3.mix.2.2 (by omega)
      rw [h1, g1]
      simp only [r1, r2]

theorem turn_share {n s k : Nat} (hs : s < n) (hk : k < n) {m y : Nat → M5} (ht : Turned n s m y) {l c : Int} (hb : bothE n m l c = 0) (hb' : bothE n y l c = 0) (b : Bool) : shareR n y l c b (((k + s) % n : Nat) : Int) = shareR n m l c b k := by
  have hk' : (k + s) % n < n := Nat.mod_lt _ (by omega)
  rcases share_cases hb b hk with ⟨h1, _, h3⟩ | ⟨f, h, h1, h3⟩
  · rcases share_cases hb' b hk' with ⟨g1, _, _⟩ | ⟨f', h', _, g3⟩
    · rw [h1, g1]
    · have := turn_nil hs ht h3 f' (fun i _ => (g3.mixf.1 i).1) g3.mixf.2.2
      rw [g3.goodf] at this
      cases this
  · have hp := fun i (_ : i < n) => (h3.mixf.1 i).1
    have hq := fun i (_ : i < n) => (h3.mixh.1 i).1
    rcases share_cases hb' b hk' with ⟨_, _, g3⟩ | ⟨f', h', g1, g3⟩
    · exact absurd g3 (turn_not hs ht h3.goodf hp h3.mixf.2.2)
    · have hp' := fun i (_ : i < n) => (g3.mixf.1 i).1
      have hq' := fun i (_ : i < n) => (g3.mixh.1 i).1
      have a1 := h3.low (pull n s f') (fun i _ => pull_nn (by omega) hp' i) (by rw [pull_good (by omega) ht]; exact g3.goodf)
      have a2 := g3.low (push n s f) (fun i _ => push_nn (by omega) hp i) (by rw [push_good hs ht]; exact h3.goodf)
      have a3 := h3.high (pull n s h') (fun i _ => pull_nn (by omega) hq' i) (by rw [pull_good (by omega) ht]; exact g3.goodh)
      have a4 := g3.high (push n s h) (fun i _ => push_nn (by omega) hq i) (by rw [push_good hs ht]; exact h3.goodh)
      have e1 : push n s f ((k + s) % n) = f k := pull_push hs hk f
      have e2 : push n s h ((k + s) % n) = h k := pull_push hs hk h
      rw [pull_sum (by omega)] at a1 a3
      rw [push_sum hs, e1] at a2
      rw [push_sum hs, e2] at a4
      obtain ⟨r1, r2⟩ := rat_same (n := f k) (d := sumF f n) (n' := f' ((k + s) % n)) (d' := sumF f' n) h3.mixf.2.2 g3.mixf.2.2 (Int.le_antisymm a1 a2)
      obtain ⟨r3, r4⟩ := rat_same (n := h k) (d := sumF h n) (n' := h' ((k + s) % n)) (d' := sumF h' n) h3.mixh.2.2 g3.mixh.2.2 (Int.le_antisymm a4 a3)
      rw [h1, g1]
      simp only [shareOf, r1, r2, r3, r4]

/-- Other prices. -/
def priceM (a d : Int) (q : M5) : M5 := ⟨a * q.p + d, q.l0, q.l1, q.c0, q.c1⟩
theorem priced_good {n : Nat} {m : Nat → M5} {l c a d : Int} {b : Bool} {f : Nat → Int} : goodB b n (fun i => priceM a d (m i)) l c f = goodB b n m l c f := rfl
theorem priced_sum (n : Nat) (m : Nat → M5) (a d : Int) (f : Nat → Int) : priceF (fun i => priceM a d (m i)) f n = a * priceF m f n + d * sumF f n := by
  have e : priceF (fun i => priceM a d (m i)) f n = sumF (fun i => a * (f i * (m i).p) + d * f i) n := sumC fun i _ => by unfold priceM; grind
  rw [e, sumF_add, sumF_times, sumF_times]
  rfl

theorem priced_least {n : Nat} {m : Nat → M5} {l c a d : Int} (ha : 0 < a) (hb : bothE n m l c = 0) (hb' : bothE n (fun i => priceM a d (m i)) l c = 0) (b : Bool) :
    (leastR n m l c b = (0, 0, 17) ∧ leastR n (fun i => priceM a d (m i)) l c b = (0, 0, 17)) ∨
    ∃ f, leastR n m l c b = ((costOf n m f).1, (costOf n m f).2, 0) ∧ Low n m l c b f ∧ leastR n (fun i => priceM a d (m i)) l c b = (ratN (a * (costOf n m f).1 + d * (costOf n m f).2) (costOf n m f).2, ratD (a * (costOf n m f).1 + d * (costOf n m f).2) (costOf n m f).2, 0) := by
  rcases least_cases hb b with ⟨h1, _, h3⟩ | ⟨f, _, h1, h3⟩
  · rcases least_cases hb' b with ⟨g1, _, _⟩ | ⟨f', _, _, g3⟩
    · exact .inl ⟨h1, g1⟩
    · have hN : Nil n (fun i => priceM a d (m i)) l c b := fun x hx hp => h3 x hx hp
      exact absurd hN (low_not g3)
  · refine .inr ⟨f, h1, h3, ?_⟩
    rcases least_cases hb' b with ⟨_, _, g3⟩ | ⟨f', _, g1, g3⟩
    · have hN : Nil n m l c b := fun x hx hp => g3 x hx hp
      exact absurd hN (low_not h3)
    · have a1 := h3.low f' (fun i _ => (g3.mix.1 i).1) g3.good
      have a2 := g3.low f (fun i _ => (h3.mix.1 i).1) h3.good
      rw [priced_sum, priced_sum] at a2
      obtain ⟨g, hg, e1, e2, _⟩ := rat_parts (priceF m f n) h3.mix.2.2
      have hd := ratD_pos (priceF m f n) h3.mix.2.2
      rw [g1]
      dsimp only
      have key : priceF m f n * sumF f' n = priceF m f' n * sumF f n := by
        refine Int.le_antisymm a1 ?_
        have h5 : a * (priceF m f' n * sumF f n) ≤ a * (priceF m f n * sumF f' n) := by grind
        exact Int.le_of_mul_le_mul_left h5 ha
      obtain ⟨P, hP⟩ : ∃ P, priceF m f n = P := ⟨_, rfl⟩
      obtain ⟨S, hS⟩ : ∃ S, sumF f n = S := ⟨_, rfl⟩
      obtain ⟨P', hP'⟩ : ∃ P, priceF m f' n = P := ⟨_, rfl⟩
      obtain ⟨S', hS'⟩ : ∃ S, sumF f' n = S := ⟨_, rfl⟩
      rw [priced_sum, hP', hS', hP, hS]
      rw [hP, hS] at e1 e2 hd
      rw [hP, hS, hP', hS'] at key
      obtain ⟨r, hr⟩ : ∃ r, ratN P S = r := ⟨_, rfl⟩
      obtain ⟨q, hq⟩ : ∃ q, ratD P S = q := ⟨_, rfl⟩
      rw [hr] at e1 ⊢
      rw [hq] at e2 ⊢
      rw [hq] at hd
      have hS0 : 0 < S := by rw [← hS]; exact h3.mix.2.2
      have key2 : r * S' = P' * q := by
        have : (r * S') * g = (P' * q) * g := by
          rw [show r * S' * g = (r * g) * S' by grind, show P' * q * g = P' * (q * g) by grind, ← e1, ← e2]
          exact key
        exact Int.eq_of_mul_eq_mul_right (by omega) this
      obtain ⟨r1, r2⟩ := rat_same (n := a * P' + d * S') (d := S') (n' := a * r + d * q) (d' := q) (by rw [← hS']; exact g3.mix.2.2) hd (by
        have : a * (r * S') = a * (P' * q) := by rw [key2]
        grind)
      rw [r1, r2]

/-- The list that is written in a loop: metal k to the place k + s. -/
def turnS (n s : Nat) (m : Nat → M5) : Nat → Nat → M5
  | 0 => m
  | k + 1 => putM (turnS n s m k) ((k + s) % n) (m k)
theorem mod_inj {n s i j : Nat} (hi : i < n) (hj : j < n) (h : (i + s) % n = (j + s) % n) : i = j := by
  have h1 : (i + s + (n - s % n)) % n = (j + s + (n - s % n)) % n := by rw [Nat.add_mod, h, ← Nat.add_mod]
  have hs := Nat.mod_lt s (show 0 < n by omega)
  have h2 : ∀ x, x < n → (x + s + (n - s % n)) % n = x := fun x hx => by
    have e := Nat.div_add_mod s n
    rw [show x + s + (n - s % n) = x + n + n * (s / n) by omega, Nat.add_mul_mod_self_left, Nat.add_mod_right, Nat.mod_eq_of_lt hx]
  rw [h2 i hi, h2 j hj] at h1
  exact h1
theorem turnS_at {n s : Nat} (m : Nat → M5) : ∀ k, k ≤ n → ∀ i, i < k → turnS n s m k ((i + s) % n) = m i
  | 0, _, i, hi => by omega
  | k + 1, hk, i, hi => by
    show putM (turnS n s m k) ((k + s) % n) (m k) ((i + s) % n) = m i
    unfold putM
    by_cases e : i = k
    · rw [e, if_pos rfl]
    · rw [if_neg fun h => e (mod_inj (by omega) (by omega) h)]
      exact turnS_at m k (by omega) i (by omega)
theorem turnS_turned (n s : Nat) (m : Nat → M5) : Turned n s m (turnS n s m n) := fun k hk => turnS_at m n (Nat.le_refl n) k hk
theorem turned_all {n s : Nat} (hs : s < n) {m y : Nat → M5} (h : Turned n s m y) (j : Nat) (hj : j < n) : ∃ k, k < n ∧ y j = m k := by
  refine ⟨(j + (n - s)) % n, Nat.mod_lt _ (by omega), ?_⟩
  rw [← h _ (Nat.mod_lt _ (by omega))]
  congr 1
  rw [Nat.mod_add_mod, show j + (n - s) + s = j + n by omega, Nat.add_mod_right, Nat.mod_eq_of_lt hj]
theorem turned_both {n s : Nat} (hs : s < n) {m y : Nat → M5} (h : Turned n s m y) {l c : Int} (hF : Fine n m) (hb : bothE n m l c = 0) : bothE n y l c = 0 := by
  have hFy : Fine n y := ⟨hF.1, hF.2.1, fun j hj => by
    obtain ⟨k, hk, e⟩ := turned_all hs h j hj
    rw [e]
    exact hF.2.2 k hk⟩
  unfold bothE
  rw [if_neg (by rw [fine_metals hFy]; simp)]
  unfold bothE at hb
  split at hb
  · omega
  · exact hb

/-- The list whose prices are written in a loop. -/
def priceS (a d : Int) (m : Nat → M5) (k j : Nat) : M5 := if j < k then priceM a d (m j) else m j
theorem priceS_step (a d : Int) (m : Nat → M5) (k : Nat) : putM (priceS a d m k) k (priceM a d (m k)) = priceS a d m (k + 1) := by
  funext j
  unfold putM priceS
  by_cases e : j = k
  · rw [e, if_pos rfl, if_pos (by omega)]
  · rw [if_neg e]
    by_cases h : j < k
    · rw [if_pos h, if_pos (by omega)]
    · rw [if_neg h, if_neg (by omega)]
theorem priceS_zero (a d : Int) (m : Nat → M5) : priceS a d m 0 = m := by
  funext j
  unfold priceS
  rw [if_neg (by omega)]

end Go.Proofs.YtehafggcncbnkaaGreat

namespace Go.Proofs.YtehafggcncbnkaaGreat
open Go Go.RowKit

theorem price_list (m : Nat → M5) {n i : Nat} (hi : i < n) (v : Int) : (mCells m n).set (i * 5) (.int .i64 v) = mCells (putM m i ⟨v, (m i).l0, (m i).l1, (m i).c0, (m i).c1⟩) n := by
  refine List.ext_getElem? fun j => ?_
  simp only [List.getElem?_set, mCells_len]
  by_cases hj : j < n * 5
  · obtain ⟨a, ha⟩ : ∃ a, j / 5 = a := ⟨_, rfl⟩
    obtain ⟨b, hb⟩ : ∃ b, j % 5 = b := ⟨_, rfl⟩
    have hj' : j = a * 5 + b := by omega
    have ha' : a < n := by omega
    have hb' : b < 5 := by omega
    subst hj'
    rw [mCells_get m ha' hb', mCells_get _ ha' hb']
    unfold putM
    by_cases e : a = i
    · rw [if_pos e]
      subst e
      have hcase : b = 0 ∨ b = 1 ∨ b = 2 ∨ b = 3 ∨ b = 4 := by omega
      rcases hcase with rfl | rfl | rfl | rfl | rfl <;> simp [M5.cells] <;> omega
    · rw [if_neg e, if_neg (by omega)]
  · rw [if_neg (by omega), List.getElem?_eq_none (by rw [mCells_len]; omega), List.getElem?_eq_none (by rw [mCells_len]; omega)]
theorem price_own {w : World} {base : Nat} {e : TypeId} {g n cap i : Nat} {m : Nat → M5} (h : w.ownsRow base e 5 (.slice (some ⟨g, 0, none⟩) n cap) n (mCells m n)) (hi : i < n) (v : Int) :
    (w.setCell ⟨g, i * 5, none⟩ (.int .i64 v)).ownsRow base e 5 (.slice (some ⟨g, 0, none⟩) n cap) n (mCells (putM m i ⟨v, (m i).l0, (m i).l1, (m i).c0, (m i).c1⟩) n) := by
  have h1 := (h.stored (i * 5) (.int .i64 v)).1
  rw [price_list m hi v] at h1
  exact h1
/-- A store into another block leaves a row of one's own. -/
theorem own_far {w : World} {base g g' k : Nat} {e : TypeId} {size n cap : Nat} {xs : List Value} (h : w.ownsRow base e size (.slice (some ⟨g, 0, none⟩) n cap) n xs) (hne : g ≠ g') (v : Value) :
    (w.setCell ⟨g', k, none⟩ v).ownsRow base e size (.slice (some ⟨g, 0, none⟩) n cap) n xs := by
  refine ⟨h.1, ?_⟩
  rcases h.2 with h2 | ⟨q, c, cur, hv, hb, hg, h3⟩
  · exact .inl h2
  · refine .inr ⟨q, c, cur, hv, hb, ?_, h3⟩
    cases hv
    rw [Below.heap_setCell _ _ _ _ hne]
    exact hg
theorem own_far5 {w : World} {base g g' i : Nat} {e : TypeId} {size n cap : Nat} {xs : List Value} (h : w.ownsRow base e size (.slice (some ⟨g, 0, none⟩) n cap) n xs) (hne : g ≠ g') (q : M5) :
    (put5 w g' i q).ownsRow base e size (.slice (some ⟨g, 0, none⟩) n cap) n xs := own_far (own_far (own_far (own_far (own_far h hne _) hne _) hne _) hne _) hne _
theorem priced_cells (a d : Int) (m : Nat → M5) (n : Nat) : mCells (priceS a d m n) n = mCells (fun i => priceM a d (m i)) n := by
  unfold mCells
  exact catF_congr n fun i hi => by unfold priceS; rw [if_pos hi]

end Go.Proofs.YtehafggcncbnkaaGreat

namespace Go.Proofs.YtehafggcncbnkaaGreat
open Go Go.RowKit

theorem part_le {f : Nat → Int} {n k : Nat} (hf : ∀ i, i < n → 0 ≤ f i) (hk : k < n) : f k ≤ sumF f n := by
  have h := sumF_nonneg (f := fun i => f i - f i * (if i = k then 1 else 0)) (n := n) fun i hi => by
    have := hf i hi
    by_cases e : i = k
    · simp [e]
    · simp [e, this]
  have e := sumF_lin 1 (-1) f (fun i => f i * (if i = k then 1 else 0)) n
  rw [sumC (g := fun i => 1 * f i + -1 * (f i * (if i = k then 1 else 0))) fun i _ => by grind, e, sum_unit _ _ hk] at h
  omega
/-- A share is small, and no more than 1. -/
theorem share_small {n k : Nat} {f : Nat → Int} (hn : n ≤ 6) (hk : k < n) (hf : ∀ i, i < n → 0 ≤ f i ∧ f i ≤ 1000000) (hp : 0 < sumF f n) :
    smallB (ratN (f k) (sumF f n)) (ratD (f k) (sumF f n)) = true ∧ ratN (f k) (sumF f n) ≤ ratD (f k) (sumF f n) := by
  have h1 := part_le (fun i hi => (hf i hi).1) hk
  have h2 := (sumF_nn f 1000000 n hf).2
  have h0 := (hf k hk).1
  refine ⟨small_rat hp (by omega) h0 (by omega), ?_⟩
  obtain ⟨g, hg, e1, e2, _⟩ := rat_parts (f k) hp
  have h3 : ratN (f k) (sumF f n) * g ≤ ratD (f k) (sumF f n) * g := by rw [← e1, ← e2]; exact h1
  exact Int.le_of_mul_le_mul_right h3 hg

end Go.Proofs.YtehafggcncbnkaaGreat

namespace Go.Proofs.YtehafggcncbnkaaGreat
open Go Go.RowKit

section
variable {P : Program} {ops : Array Oper} {md : Region.Mode} {w0 : World}

/-- The first n operations in whatever order, of which the numbers m and m + 1 make the variables. -/
def HeadV (P : Program) (md : Region.Mode) (ops : Array Oper) (w0 : World) (n m ta tb : Nat) (L : Array Bool → Act → Prop) : Nat → Array Bool → Act → Prop
  | 0, done, a => L done a
  | f + 1, done, a => Region.ready md ops done ≠ [] ∧ ∀ i ∈ Region.ready md ops done, i < n ∧
      ((i = m ∧ ∀ b, w0.heap.size ≤ b → HeadV P md ops w0 n m ta tb L f (done.setIfInBounds i true) (a.put (some ta) (ptrTo b))) ∨
       (i = m + 1 ∧ ∀ b, w0.heap.size ≤ b → HeadV P md ops w0 n m ta tb L f (done.setIfInBounds i true) (a.put (some tb) (ptrTo b))) ∨
       (i ≠ m ∧ i ≠ m + 1 ∧ ∃ o v, ops[i]? = some o ∧ Grows P ops w0 o v a ∧ HeadV P md ops w0 n m ta tb L f (done.setIfInBounds i true) (a.put o.dst v)))

/-- All that lay there lies as it lay; the variables, if they are made, are as they were made, and two. -/
def Fresh2 (w0 : World) (ta tb : Nat) (za zb : Obj) (a : Act) (w : World) : Prop :=
  Below w0.heap.size w0 w ∧ (∀ b, a.tmps[ta]? = some (ptrTo b) → w0.heap.size ≤ b ∧ w.heap[b]? = some za) ∧ (∀ b, a.tmps[tb]? = some (ptrTo b) → w0.heap.size ≤ b ∧ w.heap[b]? = some zb) ∧
    ∀ b c, a.tmps[ta]? = some (ptrTo b) → a.tmps[tb]? = some (ptrTo c) → b ≠ c

theorem heap_size_lt {w : World} {b : Nat} {z : Obj} (h : w.heap[b]? = some z) : b < w.heap.size := (Array.getElem?_eq_some_iff.1 h).1
theorem put_self {a : Act} {t b c : Nat} (h : (a.put (some t) (ptrTo c)).tmps[t]? = some (ptrTo b)) : b = c := by
  by_cases hlt : t < a.tmps.size
  · simp [Act.put, hlt] at h
    exact h.symm
  · simp [Act.put, hlt] at h
theorem fresh2_grow {ta tb : Nat} {za zb : Obj} {a : Act} {w w' : World} {d : Option Tmp} {v : Value} (h : Fresh2 w0 ta tb za zb a w) (hb : Below w.heap.size w w') (ha : d ≠ some ta) (hb' : d ≠ some tb) : Fresh2 w0 ta tb za zb (a.put d v) w' := by
  obtain ⟨h1, h2, h3, h4⟩ := h
  refine ⟨h1.trans (hb.mono h1.size), fun b e => ?_, fun b e => ?_, fun b c e1 e2 => ?_⟩
  · rw [put_other ha] at e
    have := h2 b e
    exact ⟨this.1, (hb.block b (heap_size_lt this.2)).trans this.2⟩
  · rw [put_other hb'] at e
    have := h3 b e
    exact ⟨this.1, (hb.block b (heap_size_lt this.2)).trans this.2⟩
  · rw [put_other ha] at e1
    rw [put_other hb'] at e2
    exact h4 b c e1 e2
theorem alloc_block (w : World) (z : Obj) {b : Nat} {o : Obj} (h : w.heap[b]? = some o) : (w.alloc z).heap[b]? = some o :=
  ((Below.refl w.heap.size w).alloc (Nat.le_refl _) z).block b (heap_size_lt h) |>.trans h
theorem fresh2_a {ta tb : Nat} {za zb : Obj} {a : Act} {w : World} (h : Fresh2 w0 ta tb za zb a w) (hab : ta ≠ tb) : Fresh2 w0 ta tb za zb (a.put (some ta) (ptrTo w.heap.size)) (w.alloc za) := by
  obtain ⟨h1, h2, h3, h4⟩ := h
  have hne : (some ta : Option Tmp) ≠ some tb := fun e => hab (Option.some.inj e)
  refine ⟨h1.alloc h1.size za, fun b e => ?_, fun b e => ?_, fun b c e1 e2 => ?_⟩
  · have := put_self e
    subst this
    exact ⟨h1.size, World.alloc_heap_new w za⟩
  · rw [put_other hne] at e
    have := h3 b e
    exact ⟨this.1, alloc_block w za this.2⟩
  · have := put_self e1
    subst this
    rw [put_other hne] at e2
    have := heap_size_lt (h3 c e2).2
    omega
theorem fresh2_b {ta tb : Nat} {za zb : Obj} {a : Act} {w : World} (h : Fresh2 w0 ta tb za zb a w) (hab : ta ≠ tb) : Fresh2 w0 ta tb za zb (a.put (some tb) (ptrTo w.heap.size)) (w.alloc zb) := by
  obtain ⟨h1, h2, h3, h4⟩ := h
  have hne : (some tb : Option Tmp) ≠ some ta := fun e => hab (Option.some.inj e).symm
  refine ⟨h1.alloc h1.size zb, fun b e => ?_, fun b e => ?_, fun b c e1 e2 => ?_⟩
  · rw [put_other hne] at e
    have := h2 b e
    exact ⟨this.1, alloc_block w zb this.2⟩
  · have := put_self e
    subst this
    exact ⟨h1.size, World.alloc_heap_new w zb⟩
  · have := put_self e2
    subst this
    rw [put_other hne] at e1
    have := heap_size_lt (h2 b e1).2
    omega

theorem headV_any {n m ta tb g : Nat} {za zb : Obj} {om ob : Oper} {L : Array Bool → Act → Prop} {Q : Exit → Act → World → Prop} (hm : ops[m]? = some om) (hgd : om.guard = none) (hdm : om.dst = some ta) (hmb : ops[m + 1]? = some ob) (hgb : ob.guard = none) (hdb : ob.dst = some tb) (hab : ta ≠ tb)
    (hal : ∀ (a : Act) (w : World), (execOp a.eval om).run P w = .ok (.value (ptrTo w.heap.size)) (w.alloc za)) (hbl : ∀ (a : Act) (w : World), (execOp a.eval ob).run P w = .ok (.value (ptrTo w.heap.size)) (w.alloc zb))
    (hdst : ∀ i o, i ≠ m → i ≠ m + 1 → ops[i]? = some o → o.dst ≠ some ta ∧ o.dst ≠ some tb)
    (hL : ∀ done a w, Fresh2 w0 ta tb za zb a w → L done a → wpAny P md ops Q g done a w) :
    ∀ (f : Nat) (done : Array Bool) (a : Act) (w : World), Fresh2 w0 ta tb za zb a w → HeadV P md ops w0 n m ta tb L f done a → wpAny P md ops Q (f + g) done a w := by
  intro f
  induction f with
  | zero => intro done a w hw h; rw [Nat.zero_add]; exact hL _ _ _ hw h
  | succ f ih =>
    intro done a w hw h
    rw [Nat.succ_add]
    refine ⟨fun e => absurd e h.1, fun i hi => ?_⟩
    rcases (h.2 i hi).2 with ⟨rfl, hb⟩ | ⟨rfl, hb⟩ | ⟨hne, hne2, o, v, ho, hg, hK⟩
    · unfold wpOp
      simp only [hm]
      rw [if_pos (by simp [Region.wanted, hgd])]
      refine .inl ?_
      unfold Oper.wp
      rw [hal, Oper.upon_value, hdm]
      exact ih _ _ _ (fresh2_a hw hab) (hb _ hw.1.size)
    · unfold wpOp
      simp only [hmb]
      rw [if_pos (by simp [Region.wanted, hgb])]
      refine .inl ?_
      unfold Oper.wp
      rw [hbl, Oper.upon_value, hdb]
      exact ih _ _ _ (fresh2_b hw hab) (hb _ hw.1.size)
    · have hd := hdst i o hne hne2 ho
      have fr : ∀ w'', Below w.heap.size w w'' → Fresh2 w0 ta tb za zb (a.put o.dst v) w'' := fun w'' hb => fresh2_grow hw hb hd.1 hd.2
      unfold wpOp
      simp only [ho]
      rcases hg with ⟨hwt, hg⟩ | ⟨hwt, rfl⟩
      · rw [if_pos hwt]
        refine .inl ?_
        have h3 := hg w hw.1
        unfold Oper.wp
        generalize (execOp a.eval o).run P w = r at h3 ⊢
        cases r with
        | ok x w' =>
          cases x <;> simp only [growUpon] at h3 <;> simp only [Oper.upon]
          case value u =>
            obtain ⟨e1, e2⟩ := h3
            rw [e1, e2]
            exact ih _ _ _ (fr w (Below.refl _ _)) hK
          case skip =>
            obtain ⟨e1, e2⟩ := h3
            rw [e1, ← e2]
            exact ih _ _ _ (fr w (Below.refl _ _)) hK
          case enter f' args =>
            obtain ⟨e1, hc⟩ := h3
            rw [e1]
            exact hc.mono fun e w'' ⟨he, hb⟩ => by subst he; exact ih _ _ _ (fr w'' hb) hK
        | halt x w' => simp only [growUpon] at h3
      · rw [if_neg (by simp [hwt])]
        exact ih _ _ _ (fr w (Below.refl _ _)) hK

theorem headV_first {n m ta tb i : Nat} {oi om ob : Oper} {v : Value} {L : Array Bool → Act → Prop} (hm : ops[m]? = some om) (hdm : om.dst = some ta) (hmb : ops[m + 1]? = some ob) (hdb : ob.dst = some tb) (hi : ops[i]? = some oi) (him : i ≠ m) (him2 : i ≠ m + 1) (hsel : ∀ (j : Nat) (o : Oper) cs b, ops[j]? = some o → o.op ≠ .select cs b)
    (hs : Region.sinkB md ops n = true) (hc : Region.chainB md ops n = true) (hn : n < ops.size) (hin : i < n) (hend : ∀ done a, L done a → ∀ j ∈ Region.ready md ops done, n ≤ j) :
    ∀ (f : Nat) (done : Array Bool) (a : Act), HeadInv md ops n done →
      (∀ j oj, ops[j]? = some oj → j ≠ i → done.getD j true = false → (∀ e ∈ oj.after, Region.binds md e = true → e.on ≠ i) → oi.apart ops oj = true) →
      i ∈ Region.ready md ops done → Grows P ops w0 oi v a →
      HeadV P md ops w0 n m ta tb L f (done.setIfInBounds i true) (a.put oi.dst v) → HeadV P md ops w0 n m ta tb L (f + 1) done a := by
  intro f
  induction f with
  | zero =>
    intro done a inv _ hr hy H
    have open_ := (mem_ready.1 hr).1
    refine ⟨List.ne_nil_of_mem hr, fun j hj => ?_⟩
    have hjn : j < n := Nat.lt_of_not_le fun h => tail_waits hs hc hn inv _ i rfl hin open_ j h hj
    refine ⟨hjn, ?_⟩
    rcases Nat.decEq j i with h | h
    · exact absurd (hend _ _ H j (ready_mono hj h)) (Nat.not_le_of_lt hjn)
    · subst h
      exact .inr (.inr ⟨him, him2, oi, v, hi, hy, H⟩)
  | succ f ih =>
    intro done a inv free hr hy H
    have open_ := (mem_ready.1 hr).1
    refine ⟨List.ne_nil_of_mem hr, fun j hj => ?_⟩
    have hjn : j < n := Nat.lt_of_not_le fun h => tail_waits hs hc hn inv _ i rfl hin open_ j h hj
    refine ⟨hjn, ?_⟩
    rcases Nat.decEq j i with h | h
    · obtain ⟨jopen, oj, hoj, hall⟩ := mem_ready.1 hj
      have waits : ∀ e ∈ oj.after, Region.binds md e = true → e.on ≠ i := by
        intro e he hb heq
        have := hall e he hb
        rw [heq, getD_both open_] at this
        cases this
      obtain ⟨p1, p2, p3⟩ := Oper.apart_spec (free j oj hoj h jopen waits)
      have keep : ∀ u, Grows P ops w0 oi v (a.put oj.dst u) := fun u => hy.of_same (execOp_put oi (fun cs b => hsel i oi cs b hi) a oj.dst u p3) (wanted_put oi a oj.dst u p3)
      have free' : ∀ k ok, ops[k]? = some ok → k ≠ i → (done.setIfInBounds j true).getD k true = false → (∀ e ∈ ok.after, Region.binds md e = true → e.on ≠ i) → oi.apart ops ok = true := by
        intro k ok hk hki kopen hno
        refine free k ok hk hki ?_ hno
        rcases Nat.decEq j k with e | e
        · rwa [getD_set_ne true e] at kopen
        · rw [← e]; exact jopen
      rcases (H.2 j (ready_mono hj h)).2 with ⟨rfl, hb⟩ | ⟨rfl, hb⟩ | ⟨hjm, hjm2, o, u, ho, hg, hK⟩
      · obtain rfl : oj = om := Option.some.inj (hoj.symm.trans hm)
        refine .inl ⟨rfl, fun b hbb => ih _ _ (inv.set hj hjn) free' (ready_mono hr (Ne.symm h)) ?_ ?_⟩
        · rw [← hdm]; exact keep _
        · have := hb b hbb
          rw [← hdm, Act.put_comm a v _ p2] at this
          rw [← hdm, Array.setIfInBounds_comm _ _ h]
          exact this
      · obtain rfl : oj = ob := Option.some.inj (hoj.symm.trans hmb)
        refine .inr (.inl ⟨rfl, fun b hbb => ih _ _ (inv.set hj hjn) free' (ready_mono hr (Ne.symm h)) ?_ ?_⟩)
        · rw [← hdb]; exact keep _
        · have := hb b hbb
          rw [← hdb, Act.put_comm a v _ p2] at this
          rw [← hdb, Array.setIfInBounds_comm _ _ h]
          exact this
      · obtain rfl : oj = o := Option.some.inj (hoj.symm.trans ho)
        refine .inr (.inr ⟨hjm, hjm2, oj, u, hoj, ?_, ih _ _ (inv.set hj hjn) free' (ready_mono hr (Ne.symm h)) (keep u) ?_⟩)
        · exact hg.of_same (execOp_put oj (fun cs b => hsel j oj cs b hoj) a oi.dst v p1).symm (wanted_put oj a oi.dst v p1).symm
        · rw [Act.put_comm a v u p2] at hK
          rw [Array.setIfInBounds_comm _ _ h]
          exact hK
    · subst h
      exact .inr (.inr ⟨him, him2, oi, v, hi, hy, H⟩)

theorem headV_lex {m ta tb g : Nat} {om ob : Oper} {Lq : Act → Prop} (hm : ops[m]? = some om) (hdm : om.dst = some ta) (hmb : ops[m + 1]? = some ob) (hdb : ob.dst = some tb) (hab : ta ≠ tb) (hsel : Region.noSelect ops = true) (hs : Region.sinkB md ops (m + 2) = true) (hc : Region.chainB md ops (m + 2) = true) (hn : m + 2 < ops.size) :
    ∀ (l : List Oper) (k : Nat) (done : Array Bool) (a : Act), (∀ j, j < l.length → l[j]? = ops[k + j]?) → k + l.length = m → HeadInv md ops (m + 2) done → (∀ j, j < k → done.getD j true = true) →
    Region.lexHead md ops g (l.length + 2) k done = true → WalkG P ops w0 (fun a' => ∀ b c, w0.heap.size ≤ b → w0.heap.size ≤ c → Lq ((a'.put (some ta) (ptrTo b)).put (some tb) (ptrTo c))) l a →
    HeadV P md ops w0 (m + 2) m ta tb (fun done' a' => Region.seqB md ops g (m + 2) done' = true ∧ Lq a') (l.length + 2) done a := by
  intro l
  induction l with
  | nil =>
    intro k done a _ hk inv hd hB h
    obtain rfl : k = m := by simpa using hk
    simp only [List.length_nil, Region.lexHead, Bool.and_eq_true] at hB
    have hr : k ∈ Region.ready md ops done := by simpa using hB.1.1
    have hr2 : k + 1 ∈ Region.ready md ops (done.setIfInBounds k true) := by simpa using hB.2.1.1
    have open_ := (mem_ready.1 hr).1
    have low : ∀ j ∈ Region.ready md ops done, ¬ j < k := fun j hj h => by
      have h1 := hd j h
      rw [(mem_ready.1 hj).1] at h1
      cases h1
    refine ⟨List.ne_nil_of_mem hr, fun j hj => ?_⟩
    have hjn : j < k + 2 := Nat.lt_of_not_le fun h => tail_waits hs hc hn inv _ k rfl (by omega) open_ j h hj
    have hjk := low j hj
    have hcase : j = k ∨ j = k + 1 := by omega
    rcases hcase with rfl | rfl
    · refine ⟨hjn, .inl ⟨rfl, fun b hb => ?_⟩⟩
      have inv' := inv.set hj hjn
      have open2 := (mem_ready.1 hr2).1
      refine ⟨List.ne_nil_of_mem hr2, fun i hi => ?_⟩
      have hin : i < j + 2 := Nat.lt_of_not_le fun h => tail_waits hs hc hn inv' _ (j + 1) rfl (by omega) open2 i h hi
      have : i = j + 1 := by
        have h1 := (mem_ready.1 hi).1
        rcases Nat.lt_trichotomy i j with h | h | h
        · rw [getD_set_ne true (by omega), hd i h] at h1
          cases h1
        · subst h
          have hsz : i < done.size := by rw [inv.size]; omega
          simp [hsz] at h1
        · omega
      subst this
      exact ⟨hin, .inr (.inl ⟨rfl, fun c hc' => ⟨hB.2.2, h b c hb hc'⟩⟩)⟩
    · refine ⟨hjn, .inr (.inl ⟨rfl, fun c hc' => ?_⟩)⟩
      have inv' := inv.set hj hjn
      have hr3 : k ∈ Region.ready md ops (done.setIfInBounds (k + 1) true) := ready_mono hr (by omega)
      have open3 := (mem_ready.1 hr3).1
      refine ⟨List.ne_nil_of_mem hr3, fun i hi => ?_⟩
      have hin : i < k + 2 := Nat.lt_of_not_le fun h => tail_waits hs hc hn inv' _ k rfl (by omega) open3 i h hi
      have : i = k := by
        have h1 := (mem_ready.1 hi).1
        rcases Nat.lt_trichotomy i k with h | h | h
        · rw [getD_set_ne true (by omega), hd i h] at h1
          cases h1
        · exact h
        · have : i = k + 1 := by omega
          subst this
          have hsz : k + 1 < done.size := by rw [inv.size]; omega
          simp [hsz] at h1
      subst this
      refine ⟨hin, .inl ⟨rfl, fun b hb => ⟨?_, ?_⟩⟩⟩
      · rw [Array.setIfInBounds_comm _ _ (by omega)]
        exact hB.2.2
      · rw [Act.put_comm a _ _ (fun d hd' e => by cases hd'; exact hab (Option.some.inj e))]
        exact h b c hb hc'
  | cons o l ih =>
    intro k done a hl hk inv hd hB h
    have h0 : ops[k]? = some o := by simpa using (hl 0 (by simp)).symm
    rw [List.length_cons] at hk
    rw [show (o :: l).length + 2 = (l.length + 2) + 1 from rfl, Region.lexHead] at hB
    simp only [Bool.and_eq_true] at hB
    have hkn : k < m + 2 := by omega
    have hr : k ∈ Region.ready md ops done := by simpa using hB.1.1
    obtain ⟨v, hy, hK⟩ := h
    have hsz : k < done.size := by rw [inv.size]; exact (Array.getElem?_eq_some_iff.1 h0).1
    rw [show (o :: l).length + 2 = (l.length + 2) + 1 from rfl]
    refine headV_first hm hdm hmb hdb h0 (by omega) (by omega) (Region.noSelect_spec hsel) hs hc hn hkn (fun _ _ hL => seqB_ready hL.1) (l.length + 2) done a inv (Region.free_spec h0 hB.1.2) hr hy (ih (k + 1) _ _ ?_ (by omega) (inv.set hr hkn) ?_ hB.2 hK)
    · intro j hj
      have := hl (j + 1) (by simp; omega)
      simpa [Nat.add_assoc, Nat.add_comm 1 j] using this
    · intro j hj
      by_cases e : j = k
      · subst e; simp [hsz]
      · rw [getD_set_ne true (Ne.symm e)]; exact hd j (by omega)

/-- All but two operations have other temporaries than ta and tb. -/
def offDst2 (ta tb m : Nat) (l : List Oper) : Bool := (List.range l.length).all fun i => i == m || i == m + 1 || (decide ((l[i]?.bind (·.dst)) ≠ some ta) && decide ((l[i]?.bind (·.dst)) ≠ some tb))

theorem wp_region_float2 {id : Nat} {Q : Exit → Act → World → Prop} {a : Act} {w : World} {l : List Oper} (m ta tb s : Nat) (za zb : Obj) (om ob : Oper) (hmo : P.follows .mixedOrders = true) (hB : Region.lexTailB .any l.toArray (m + 2) = true) (hm : l[m]? = some om) (hgd : om.guard = none) (hdm : om.dst = some ta) (hmb : l[m + 1]? = some ob) (hgb : ob.guard = none) (hdb : ob.dst = some tb) (hab : ta ≠ tb)
    (hal : ∀ (a : Act) (w : World), (execOp a.eval om).run P w = .ok (.value (ptrTo w.heap.size)) (w.alloc za)) (hbl : ∀ (a : Act) (w : World), (execOp a.eval ob).run P w = .ok (.value (ptrTo w.heap.size)) (w.alloc zb)) (hoff : offDst2 ta tb m l = true) (hown : ownDst s (l.take m) = true) (hs : a.tmps.size = s) (hta : a.tmps[ta]? = some undef) (htb : a.tmps[tb]? = some undef)
    (h : ∃ af, (∀ w1, Below w.heap.size w w1 → ∀ K : Act → Prop, K af → wpQuiet P l.toArray (fun w' => ∃ x : Later w1, w' = x.w) K (l.take m) a) ∧
      ∀ (b c : Nat) (w' : World), w.heap.size ≤ b → w.heap.size ≤ c → b ≠ c → Below w.heap.size w w' → w'.heap[b]? = some za → w'.heap[c]? = some zb → wpList P l.toArray Q (l.drop (m + 2)) ((af.put (some ta) (ptrTo b)).put (some tb) (ptrTo c)) w') :
    (Code.region id l.toArray true).wp P Q a w := by
  refine wp_region_any hmo ?_
  obtain ⟨af, h1', h2⟩ := h
  have h1 := fun w1 hb => h1' w1 hb (fun a' => a' = af) rfl
  simp only [Region.lexTailB, Bool.and_eq_true, decide_eq_true_eq] at hB
  obtain ⟨⟨⟨⟨hsel, hn⟩, hsk⟩, hc⟩, hlex⟩ := hB
  have hn' : m + 2 < l.length := by simpa using hn
  have htl : (l.take m).length = m := by simp; omega
  have hdl : (l.drop (m + 2)).length = l.toArray.size - (m + 2) := by simp
  have hm' : l.toArray[m]? = some om := by simpa using hm
  have hmb' : l.toArray[m + 1]? = some ob := by simpa using hmb
  have inv0 : HeadInv .any l.toArray (m + 2) (Array.replicate l.toArray.size false) :=
    ⟨by simp, fun j oj _ hl => (by rw [getD_replicate_false] at hl; cases hl), fun t _ ht => getD_in (by simpa using ht) (getD_replicate_false _ _)⟩
  have hW := walkG_of (K := fun a' => ∀ b c, w.heap.size ≤ b → w.heap.size ≤ c → (fun a'' => ∃ b c, a'' = (af.put (some ta) (ptrTo b)).put (some tb) (ptrTo c)) ((a'.put (some ta) (ptrTo b)).put (some tb) (ptrTo c))) (fun b c _ _ => ⟨b, c, rfl⟩) (l.take m) a hs hown h1
  have H := headV_lex (md := .any) (g := l.toArray.size - (m + 2)) (Lq := fun a'' => ∃ b c, a'' = (af.put (some ta) (ptrTo b)).put (some tb) (ptrTo c)) hm' hdm hmb' hdb hab hsel hsk hc hn (l.take m) 0 _ a (fun j hj => by
    rw [htl] at hj
    simp [hj]) (by simpa using htl) inv0 (fun j hj => absurd hj (Nat.not_lt_zero _)) (by rw [htl]; exact hlex) hW
  have hta' : ta < a.tmps.size := (Array.getElem?_eq_some_iff.1 hta).1
  have htb' : tb < a.tmps.size := (Array.getElem?_eq_some_iff.1 htb).1
  have hasz : af.tmps.size = s := by
    have key : ∀ (l' : List Oper) (a' : Act), wpQuiet P l.toArray (fun w' => ∃ x : Later w, w' = x.w) (fun a' => a' = af) l' a' → af.tmps.size = a'.tmps.size := by
      intro l'
      induction l' with
      | nil => intro a' h; rw [← (show a' = af from h)]
      | cons o l' ih =>
        intro a' h
        simp only [wpQuiet] at h
        split at h
        · obtain ⟨v, _, hK⟩ := h
          rw [ih _ hK]
          cases o.dst <;> simp [Act.put]
        · rw [ih _ h]
          cases o.dst <;> simp [Act.put]
    rw [key _ _ (h1 w (Below.refl _ w)), hs]
  have hdst : ∀ i o, i ≠ m → i ≠ m + 1 → l.toArray[i]? = some o → o.dst ≠ some ta ∧ o.dst ≠ some tb := fun i o hi hi2 ho => by
    have hil : i < l.length := by have := (Array.getElem?_eq_some_iff.1 ho).1; simpa using this
    have := List.all_eq_true.1 hoff i (by simpa using hil)
    have ho' : l[i]? = some o := by simpa using ho
    simpa [ho', hi, hi2] using this
  have hne : (some ta : Option Tmp) ≠ some tb := fun e => hab (Option.some.inj e)
  have := headV_any (Q := Q) (za := za) (zb := zb) (g := l.toArray.size - (m + 2)) hm' hgd hdm hmb' hgb hdb hab hal hbl hdst (fun done a' w' hw' hL => by
    obtain ⟨hq, b, c, rfl⟩ := hL
    have eb : ((af.put (some ta) (ptrTo b)).put (some tb) (ptrTo c)).tmps[ta]? = some (ptrTo b) := by
      rw [put_other (Ne.symm hne)]
      simp [Act.put, hasz, ← hs, hta']
    have ec : ((af.put (some ta) (ptrTo b)).put (some tb) (ptrTo c)).tmps[tb]? = some (ptrTo c) := by
      simp [Act.put, hasz, ← hs, htb']
    have hfa := hw'.2.1 b eb
    have hfb := hw'.2.2.1 c ec
    have := wpAny_of_seq (md := .any) (Q' := Q) (l.drop (m + 2)) (m + 2) done _ w' (fun j => by simp [List.getElem?_drop]) (by rw [hdl]; exact hq) (h2 b c w' hfa.1 hfb.1 (hw'.2.2.2 b c eb ec) hw'.1 hfa.2 hfb.2)
    rwa [hdl] at this) _ _ _ { w with drawn := w.drawn + 1 } ⟨(Below.refl _ w).drew, fun b hb => (by rw [hta] at hb; cases hb), fun b hb => (by rw [htb] at hb; cases hb), fun b c hb => (by rw [hta] at hb; cases hb)⟩ H
  rw [htl, show m + 2 + (l.toArray.size - (m + 2)) = l.toArray.size by omega] at this
  exact this
end

end Go.Proofs.YtehafggcncbnkaaGreat
