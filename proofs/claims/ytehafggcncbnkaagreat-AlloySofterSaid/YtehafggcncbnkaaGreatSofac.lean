/- A metal that is written into a list of metals of its own. -/
import Derived.Test.YtehafggcncbnkaaGreatProg
import Derived.Test.YtehafggcncbnkaaGreatBasaa
import Derived.Test.YtehafggcncbnkaaGreatBasai
import Derived.Test.YtehafggcncbnkaaGreatSofaa
import Derived.Test.YtehafggcncbnkaaGreatSofab
import Derived.Test.YtehafggcncbnkaaGreatBasas
import Derived.Test.YtehafggcncbnkaaGreatBasau
namespace Go.Proofs.YtehafggcncbnkaaGreat
open Go Go.RowKit

def putM (m : Nat → M5) (i : Nat) (q : M5) (j : Nat) : M5 := if j = i then q else m j
/-- A metal's five cells are written. -/
def put5 (w : World) (g i : Nat) (q : M5) : World :=
  ((((w.setCell ⟨g, i * 5, none⟩ (.int .i64 q.p)).setCell ⟨g, i * 5 + 1, none⟩ (.int .i64 q.l0)).setCell ⟨g, i * 5 + 2, none⟩ (.int .i64 q.l1)).setCell ⟨g, i * 5 + 3, none⟩ (.int .i64 q.c0)).setCell ⟨g, i * 5 + 4, none⟩ (.int .i64 q.c1)

theorem mCells_get (m : Nat → M5) {n a b : Nat} (ha : a < n) (hb : b < 5) : (mCells m n)[a * 5 + b]? = ((m a).cells)[b]? := catF_get (fun i => (m i).cells) 5 (fun _ => rfl) a b hb n ha
theorem put_list (m : Nat → M5) {n i : Nat} (hi : i < n) (q : M5) :
    (((((mCells m n).set (i * 5) (.int .i64 q.p)).set (i * 5 + 1) (.int .i64 q.l0)).set (i * 5 + 2) (.int .i64 q.l1)).set (i * 5 + 3) (.int .i64 q.c0)).set (i * 5 + 4) (.int .i64 q.c1) = mCells (putM m i q) n := by
  refine List.ext_getElem? fun j => ?_
  simp only [List.getElem?_set, List.length_set, mCells_len]
  by_cases hj : j < n * 5
  · obtain ⟨a, ha⟩ : ∃ a, j / 5 = a := ⟨_, rfl⟩
    obtain ⟨b, hb⟩ : ∃ b, j % 5 = b := ⟨_, rfl⟩
    have hj' : j = a * 5 + b := by omega
    have ha' : a < n := by omega
    have hb' : b < 5 := by omega
    subst hj'
    rw [mCells_get m ha' hb', mCells_get (putM m i q) ha' hb']
    unfold putM
    by_cases e : a = i
    · rw [if_pos e]
      subst e
      have hcase : b = 0 ∨ b = 1 ∨ b = 2 ∨ b = 3 ∨ b = 4 := by omega
      rcases hcase with rfl | rfl | rfl | rfl | rfl <;> simp [M5.cells] <;> omega
    · rw [if_neg e, if_neg (by omega), if_neg (by omega), if_neg (by omega), if_neg (by omega), if_neg (by omega)]
  · rw [List.getElem?_eq_none (l := mCells m n) (by rw [mCells_len]; omega), List.getElem?_eq_none (l := mCells (putM m i q) n) (by rw [mCells_len]; omega)]
    rw [if_neg (by omega), if_neg (by omega), if_neg (by omega), if_neg (by omega), if_neg (by omega)]
theorem put_own {w : World} {base : Nat} {e : TypeId} {g n cap i : Nat} {m : Nat → M5} (h : w.ownsRow base e 5 (.slice (some ⟨g, 0, none⟩) n cap) n (mCells m n)) (hi : i < n) (q : M5) :
    (put5 w g i q).ownsRow base e 5 (.slice (some ⟨g, 0, none⟩) n cap) n (mCells (putM m i q) n) := by
  have h1 := (h.stored (i * 5) (.int .i64 q.p)).1
  have h2 := (h1.stored (i * 5 + 1) (.int .i64 q.l0)).1
  have h3 := (h2.stored (i * 5 + 2) (.int .i64 q.l1)).1
  have h4 := (h3.stored (i * 5 + 3) (.int .i64 q.c0)).1
  have h5 := (h4.stored (i * 5 + 4) (.int .i64 q.c1)).1
  rw [put_list m hi q] at h5
  exact h5
theorem put_below {w w0 : World} {B g : Nat} (h : Below B w0 w) (hg : B ≤ g) (i : Nat) (q : M5) : Below B w0 (put5 w g i q) :=
  ((((h.setCell (p := ⟨g, i * 5, none⟩) hg _).setCell (p := ⟨g, i * 5 + 1, none⟩) hg _).setCell (p := ⟨g, i * 5 + 2, none⟩) hg _).setCell (p := ⟨g, i * 5 + 3, none⟩) hg _).setCell (p := ⟨g, i * 5 + 4, none⟩) hg _

theorem own_lit (w : World) {base N : Nat} (e : TypeId) (size : Nat) (hb : base ≤ w.heap.size) (hN : w.heap.size = N) : (w.alloc (.cells #[] e)).ownsRow base e size (.slice (some ⟨N, 0, none⟩) 0 0) 0 [] := by
  subst hN
  have h := World.ownsRow_lit (base := base) (e := e) (size := size) w #[] 0 hb (by unfold maxLen; omega) (by simp)
  exact h
theorem own_drew {w : World} {base : Nat} {e : TypeId} {size n : Nat} {v : Value} {xs : List Value} (h : w.ownsRow base e size v n xs) : w.drew.ownsRow base e size v n xs := h

end Go.Proofs.YtehafggcncbnkaaGreat

namespace Go.Proofs.YtehafggcncbnkaaGreat
open Go Go.RowKit

theorem part_le {f : Nat → Int} {n k : Nat} (hf : ∀ i, i < n → 0 ≤ f i) (hk : k < n) : f k ≤ sumF f n := by
  have h := sumF_nonneg (f := fun i => f i - f i * (if i = k then 1 else 0)) (n := n) fun i hi => by
    have := hf i hi
    by_cases e : i = k
    · simp [e]
    · simp [e, this]
  have e := sumF_lin 1 (-1) f (fun i => f i * (if i = k then 1 else 0)) n
  rw [sumC (g := fun i => 1 * f i + -1 * (f i * (if i = k then 1 else 0))) fun i _ => by grind, e, sum_unit _ _ hk] at h
  omega
/-- A share is small, and no more than 1. -/
theorem share_small {n k : Nat} {f : Nat → Int} (hn : n ≤ 6) (hk : k < n) (hf : ∀ i, i < n → 0 ≤ f i ∧ f i ≤ 1000000) (hp : 0 < sumF f n) :
    smallB (ratN (f k) (sumF f n)) (ratD (f k) (sumF f n)) = true ∧ ratN (f k) (sumF f n) ≤ ratD (f k) (sumF f n) := by
  have h1 := part_le (fun i hi => (hf i hi).1) hk
  have h2 := (sumF_nn f 1000000 n hf).2
  have h0 := (hf k hk).1
  refine ⟨small_rat hp (by omega) h0 (by omega), ?_⟩
  obtain ⟨g, hg, e1, e2, _⟩ := rat_parts (f k) hp
  have h3 : ratN (f k) (sumF f n) * g ≤ ratD (f k) (sumF f n) * g := by rw [← e1, ← e2]; exact h1
  exact Int.le_of_mul_le_mul_right h3 hg

end Go.Proofs.YtehafggcncbnkaaGreat
