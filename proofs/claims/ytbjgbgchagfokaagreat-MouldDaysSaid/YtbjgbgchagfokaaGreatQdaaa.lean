/- What kit.Lists yields, and which one is best, in the words of the mathematics: it imports words of the program alone. -/
import Derived.Test.YtbjgbgchagfokaaGreatBasaa
import Derived.Test.YtbjgbgchagfokaaGreatBasae
import Derived.Test.YtbjgbgchagfokaaGreatBasan
import Derived.Test.YtbjgbgchagfokaaGreatBasah
import Derived.Test.YtbjgbgchagfokaaGreatProg
import Derived.Test.YtbjgbgchagfokaaGreatBasab
import Derived.Test.YtbjgbgchagfokaaGreatBasay
import Derived.Test.YtbjgbgchagfokaaGreatBasba
import Derived.Test.YtbjgbgchagfokaaGreatBasap
import Derived.StillTail
import Derived.Test.YtbjgbgchagfokaaGreatBasaj
import Derived.Test.YtbjgbgchagfokaaGreatBasai
import Derived.Deep.Upon
import Derived.Maps.AppendAt
import Derived.Laws.OwnMore
namespace Go.Proofs.YtbjgbgchagfokaaGreat
open Go Go.RowKit

/-- The lists of the last m numbers below n, one after another. -/
def lastsL (g : Nat → List (List Nat)) (n : Nat) : Nat → List (List Nat)
  | 0 => []
  | m + 1 => g (n - (m + 1)) ++ lastsL g n m
theorem lastsL_range (g : Nat → List (List Nat)) (n : Nat) : ∀ m, m ≤ n → (List.range' (n - m) m).flatMap g = lastsL g n m
  | 0, _ => by simp [lastsL]
  | m + 1, h => by
    rw [List.range'_succ, List.flatMap_cons, lastsL, show n - (m + 1) + 1 = n - m by omega, lastsL_range g n m (by omega)]
theorem lastsL_drop (g : Nat → List (List Nat)) (n : Nat) : ∀ k, k ≤ n → (∀ i, i < k → g i = []) → lastsL g n n = lastsL g n (n - k)
  | 0, _, _ => rfl
  | k + 1, hk, h => by
    rw [lastsL_drop g n k (by omega) fun i hi => h i (by omega)]
    obtain ⟨m, hm⟩ : ∃ m, n - k = m + 1 := ⟨n - (k + 1), by omega⟩
    rw [hm, lastsL, show n - (m + 1) = k by omega, h k (by omega), show n - (k + 1) = m by omega]
    rfl
theorem lastsL_congr {g h : Nat → List (List Nat)} {n : Nat} : ∀ m, m ≤ n → (∀ i, n - m ≤ i → i < n → g i = h i) → lastsL g n m = lastsL h n m
  | 0, _, _ => rfl
  | m + 1, hm, he => by rw [lastsL, lastsL, lastsL_congr m (by omega) fun i h1 h2 => he i (by omega) h2, he (n - (m + 1)) (Nat.le_refl _) (by omega)]
theorem tailsL_lasts (F : List Nat → Nat → Bool) (n : Nat) (b : List Nat) : ∀ m, m ≤ n → tailsL F n m b = lastsL (fun i => if F b i then (b ++ [i]) :: tailsL F n (n - (i + 1)) (b ++ [i]) else []) n m
  | 0, _ => rfl
  | m + 1, h => by rw [tailsL, lastsL, tailsL_lasts F n b m (by omega), show n - (n - (m + 1) + 1) = m by omega]

/-- The first number behind a list's last one. -/
def nxtL (b : List Nat) : Nat := if b.length = 0 then 0 else b.getD (b.length - 1) 0 + 1
theorem nxtL_more (b : List Nat) (i : Nat) : nxtL (b ++ [i]) = i + 1 := by simp [nxtL]
theorem rise_nxt (F : List Nat → Nat → Bool) (b : List Nat) (i : Nat) : riseB F b i = (decide (nxtL b ≤ i) && F b i) := by
  unfold riseB nxtL
  by_cases h : b.length = 0
  · simp [h]
  · simp [h, Nat.succ_le_iff]
theorem grow_tails (F : List Nat → Nat → Bool) (n : Nat) : ∀ r b, nxtL b ≤ n → n - nxtL b ≤ r → growL (riseB F) n r b = b :: tailsL F n (n - nxtL b) b
  | 0, b, h1, h2 => by
    rw [show n - nxtL b = 0 by omega]
    rfl
  | r + 1, b, h1, h2 => by
    rw [growL, List.range_eq_range']
    have e := lastsL_range (fun i => if riseB F b i then growL (riseB F) n r (b ++ [i]) else []) n n (Nat.le_refl _)
    rw [Nat.sub_self] at e
    rw [e, lastsL_drop _ n (nxtL b) h1 fun i hi => by rw [rise_nxt]; simp; omega, tailsL_lasts F n b _ (by omega)]
    congr 1
    refine lastsL_congr _ (by omega) fun i hi1 hi2 => ?_
    have hle : nxtL b ≤ i := by omega
    simp only [rise_nxt, hle, decide_true, Bool.true_and]
    cases F b i with
    | false => rfl
    | true =>
      simp only [if_true]
      rw [grow_tails F n r (b ++ [i]) (by rw [nxtL_more]; omega) (by rw [nxtL_more]; omega), nxtL_more]
theorem lists_tails (F : List Nat → Nat → Bool) (n : Nat) : listsL F n = [] :: tailsL F n n [] := grow_tails F n n [] (by simp [nxtL]) (by simp [nxtL])

theorem bestS_best : ∀ (xs : List (List Nat)) (b : List Nat), xs.foldl (bestStep longerB) (some b) = some (bestL b xs)
  | [], _ => rfl
  | x :: xs, b => by
    rw [List.foldl_cons, bestL]
    have : bestStep longerB (some b) x = some (pick b x) := by
      simp only [bestStep, longerB, pick, decide_eq_true_eq]
      split <;> rfl
    rw [this, bestS_best xs]
theorem bestOf_best (f : Nat → W2) (n : Nat) : bestOf f n = bestL [] (tailsL (apartL f n) n n []) := by
  unfold bestOf bestS
  rw [lists_tails, List.foldl_cons]
  show (List.foldl (bestStep longerB) (some []) _).getD [] = _
  rw [bestS_best]
  rfl

theorem bestS_key (f : Nat → W2) (n : Nat) : ∀ (xs : List (List Nat)) (b : List Nat), xs.foldl (bestStep (shorterB f n)) (some b) = some (bestK (fewL f n) b xs)
  | [], _ => rfl
  | x :: xs, b => by
    rw [List.foldl_cons, bestK]
    have : bestStep (shorterB f n) (some b) x = some (pickK (fewL f n) b x) := by
      simp only [bestStep, shorterB, pickK, decide_eq_true_eq]
      split <;> rfl
    rw [this, bestS_key f n xs]
theorem shortOf_best (f : Nat → W2) (n s : Nat) (l : Nat → Int) : shortOf f n s l = bestK (fewL f n) [] (tailsL (fun _ i => decide (0 < l i)) s s []) := by
  unfold shortOf bestS
  rw [lists_tails, List.foldl_cons]
  show (List.foldl (bestStep (shorterB f n)) (some []) _).getD [] = _
  rw [bestS_key]
  rfl

end Go.Proofs.YtbjgbgchagfokaaGreat

namespace Go.Proofs.YtbjgbgchagfokaaGreat
open Go Go.RowKit

/-- The fewest days are the greatest load. -/
theorem few_great {s M : Int} {n : Nat} {f : Nat → W2} (hG : GoodBook s M n f) : ∃ D : Nat, fewN (bookL f n) = (D : Int) ∧ D ≤ 14 ∧ D ≤ n ∧ IsGreatest f n D := by
  obtain ⟨h1, h2, h3, h4⟩ := hG
  have h0 : 0 ≤ fewN (bookL f n) := Int.le_trans (ldF_bd f (fun _ => true) 0 n).1 (maxF_ge (bookL f n) 11 0 (by omega))
  have h14 : fewN (bookL f n) ≤ n := maxF_le _ _ _ fun i _ => (ldF_bd f (fun _ => true) i n).2
  obtain ⟨D, hD⟩ : ∃ D : Nat, fewN (bookL f n) = (D : Int) := ⟨(fewN (bookL f n)).toNat, by omega⟩
  refine ⟨D, hD, by omega, by omega, fun E => ⟨fun hE => ?_, fun hE => ⟨fun x => ?_, fun x => ?_⟩⟩⟩
  · have : fewN (bookL f n) ≤ (E : Int) := maxF_le _ _ _ fun i hi => by
      by_cases h6 : i < 6
      · have e := ldF_shop (f := f) (n := n) (x := i) h6 fun i hi => (h4 i hi).2.1
        have := hE.1 i
        show ldF f (fun _ => true) i n ≤ _
        omega
      · obtain ⟨y, rfl⟩ := Nat.exists_eq_add_of_le (Nat.not_lt.1 h6)
        have e := ldF_mould (f := f) (n := n) (y := y) fun i hi => by have := (h4 i hi).1.2; omega
        have := hE.2 y
        show ldF f (fun _ => true) (6 + y) n ≤ _
        omega
    omega
  · by_cases hx : 0 ≤ x ∧ x < 6
    · obtain ⟨k, rfl⟩ := Int.eq_ofNat_of_zero_le hx.1
      have := maxF_ge (bookL f n) 11 k (by omega)
      have e := ldF_shop (f := f) (n := n) (x := k) (by omega) fun i hi => (h4 i hi).2.1
      have : (many (fun i => (f i).s) (k : Int) n : Int) ≤ fewN (bookL f n) := by rw [← e]; exact this
      omega
    · rw [many_none fun i hi => by have := (h4 i hi).1; omega]
      exact Nat.zero_le _
  · by_cases hx : 0 ≤ x ∧ x < 6
    · obtain ⟨k, rfl⟩ := Int.eq_ofNat_of_zero_le hx.1
      have := maxF_ge (bookL f n) 11 (6 + k) (by omega)
      have e := ldF_mould (f := f) (n := n) (y := k) fun i hi => by have := (h4 i hi).1.2; omega
      have : (many (fun i => (f i).m) (k : Int) n : Int) ≤ fewN (bookL f n) := by rw [← e]; exact this
      omega
    · rw [many_none fun i hi => by have := (h4 i hi).2; omega]
      exact Nat.zero_le _

theorem natD_cast (d : Nat → Nat) : natD (fun i => (d i : Int)) = d := by
  funext i
  show ((d i : Nat) : Int).toNat = d i
  omega
/-- Right days below 15 are without an error. -/
theorem days_zero {S M : Int} {n : Nat} {f : Nat → W2} {d : Nat → Nat} {D : Nat} (hE : bookE S M n f = 0) (hD : D ≤ 14) (hR : Right f n D d) : daysE S M n f n (fun i => (d i : Int)) = 0 := by
  have h1 : daysIn (fun i => (d i : Int)) n = true := (daysIn_iff _ n).2 fun i hi => ⟨by omega, by have := hR.1 i hi; omega⟩
  have h2 : rightB f (fun i => (d i : Int)) n = true := (right_iff (D := D) fun i hi => ⟨by omega, by have := hR.1 i hi; omega⟩).2 (by rw [natD_cast]; exact hR)
  rw [daysE, if_pos hE, if_pos rfl, if_pos h1, if_pos h2]
/-- As many days as the fewest are all used. -/
theorem days_few {f : Nat → W2} {n D : Nat} {d : Nat → Nat} (hG : IsGreatest f n D) (hR : Right f n D d) : differentN (fun i => (d i : Int)) n = D := by
  rw [differentN_used (D := D) fun i hi => ⟨by omega, by have := hR.1 i hi; omega⟩, natD_cast]
  exact greatest_used hG hR

def natG (x : List Nat) (i : Nat) : Int := ((x.getD i 0 : Nat) : Int)

theorem apartB_iff (f : Nat → W2) (n : Nat) (g : Nat → Int) (len want : Nat) : apartB f n g len want = true ↔ ∀ i, i < n → i ≠ want → clashB f i want = true → ∀ k, k < len → g k ≠ (i : Int) := by
  unfold apartB clashL
  simp only [List.all_eq_true, List.mem_filter, List.mem_range, Bool.and_eq_true, decide_eq_true_eq, Bool.not_eq_true']
  constructor
  · intro h i hi hne hc k hk e
    have := h i ⟨hi, hne, hc⟩
    rw [(hasB_iff g i len).2 ⟨k, hk, e⟩] at this
    cases this
  · intro h i ⟨hi, hne, hc⟩
    cases hb : hasB g i len with
    | false => rfl
    | true =>
      obtain ⟨k, hk, e⟩ := (hasB_iff g i len).1 hb
      exact absurd e (h i hi hne hc k hk)
theorem apartB_same {f : Nat → W2} {n : Nat} {g h : Nat → Int} {len want : Nat} (e : ∀ i, i < len → g i = h i) (hg : apartB f n g len want = true) : apartB f n h len want = true :=
  (apartB_iff f n h len want).2 fun i hi hne hc k hk => by rw [← e k hk]; exact (apartB_iff f n g len want).1 hg i hi hne hc k hk
theorem apartAll_iff (f : Nat → W2) (n : Nat) (g : Nat → Int) : ∀ m, apartAll f n g m = true ↔ ∀ k, k < m → apartB f n g k (g k).toNat = true
  | 0 => ⟨fun _ k hk => absurd hk (Nat.not_lt_zero _), fun _ => rfl⟩
  | m + 1 => by
    rw [apartAll, Bool.and_eq_true, apartAll_iff f n g m]
    exact ⟨fun h k hk => by
      by_cases e : k = m
      · rw [e]; exact h.2
      · exact h.1 k (by omega), fun h => ⟨fun k hk => h k (by omega), h m (by omega)⟩⟩
/-- The program's question about a list is the document's. -/
theorem apart_day {f : Nat → W2} {n : Nat} {g : Nat → Int} {len : Nat} (hl : listB g n len = true) : apartAll f n g len = dayB f g len := by
  rw [Bool.eq_iff_iff, apartAll_iff, dayB_iff]
  have hr := fun i hi => ((listB_iff g n len).1 hl i hi).1
  have key : ∀ j k, j < k → k < len → natD g j ≠ natD g k := fun j k h1 h2 e => by
    have := listB_mono hl h1 h2
    have := hr j (by omega)
    have := hr k h2
    unfold natD at e
    omega
  constructor
  · intro h
    have one : ∀ j k, j < k → k < len → ¬ Clashes f (natD g j) (natD g k) := fun j k h1 h2 hc => by
      have hj := hr j (by omega)
      refine (apartB_iff f n g k (g k).toNat).1 (h k h2) (natD g j) (by unfold natD; omega) (key j k h1 h2) ((clashB_iff f _ _).2 hc) j h1 ?_
      unfold natD
      omega
    intro i k hi hk hne hc
    rcases Nat.lt_or_gt_of_ne hne with h1 | h1
    · exact one i k h1 hk hc
    · exact one k i h1 hi hc.symm
  · intro h k hk
    refine (apartB_iff f n g k (g k).toNat).2 fun i hi hne hc j hj e => ?_
    have hc' := (clashB_iff f _ _).1 hc
    have : natD g j = i := by unfold natD; omega
    rw [← this] at hc'
    exact h j k (by omega) hk (by omega) hc'

theorem natG_lo (b : List Nat) (j : Nat) {i : Nat} (h : i < b.length) : natG (b ++ [j]) i = natG b i := by
  unfold natG
  rw [List.getD_eq_getElem?_getD, List.getD_eq_getElem?_getD, List.getElem?_append_left h]
theorem natG_hi (b : List Nat) (j : Nat) : natG (b ++ [j]) b.length = (j : Int) := by
  unfold natG
  rw [List.getD_eq_getElem?_getD, List.getElem?_append_right (Nat.le_refl _)]
  simp
theorem natG_mem {b : List Nat} {i : Nat} (h : i < b.length) : b.getD i 0 ∈ b := by
  rw [List.getD_eq_getElem?_getD, List.getElem?_eq_getElem h, Option.getD_some]
  exact List.getElem_mem h
theorem mem_natG {b : List Nat} {k : Nat} (h : k ∈ b) : ∃ i, i < b.length ∧ b.getD i 0 = k := by
  obtain ⟨i, hi, e⟩ := List.mem_iff_getElem.1 h
  exact ⟨i, hi, by rw [List.getD_eq_getElem?_getD, List.getElem?_eq_getElem hi, Option.getD_some, e]⟩

theorem apartL_iff (f : Nat → W2) (n : Nat) (b : List Nat) (j : Nat) (hj : j < n) (hlt : ∀ k, k ∈ b → k < j) : apartL f n b j = true ↔ ∀ k, k ∈ b → (f k).s ≠ (f j).s ∧ (f k).m ≠ (f j).m := by
  unfold apartL
  rw [apartB_iff]
  constructor
  · intro h k hk
    obtain ⟨i, hi, e⟩ := mem_natG hk
    have := hlt k hk
    have hc : ¬ clashB f k j = true := fun hc => h k (by omega) (by omega) hc i hi (by rw [e])
    rw [clashB_iff] at hc
    exact ⟨fun h1 => hc (.inl h1), fun h1 => hc (.inr h1)⟩
  · intro h i hi hne hc k hk e
    have hm := natG_mem hk
    have e' : b.getD k 0 = i := by omega
    rw [e'] at hm
    rcases (clashB_iff f i j).1 hc with h1 | h1
    · exact (h i hm).1 h1
    · exact (h i hm).2 h1

/-- A list that is a day's list as the checks say it. -/
def GoodL (f : Nat → W2) (n : Nat) (x : List Nat) : Prop := listB (natG x) n x.length = true ∧ apartAll f n (natG x) x.length = true
theorem goodL_nil (f : Nat → W2) (n : Nat) : GoodL f n [] := ⟨rfl, rfl⟩
theorem goodL_more {f : Nat → W2} {n : Nat} {b : List Nat} {j : Nat} (h : GoodL f n b) (hj : j < n) (hlt : ∀ k, k ∈ b → k < j) (ha : apartL f n b j = true) : GoodL f n (b ++ [j]) := by
  have hlen : (b ++ [j]).length = b.length + 1 := by simp
  refine ⟨?_, ?_⟩
  · rw [hlen, listB_iff]
    intro i hi
    by_cases e : i = b.length
    · subst e
      rw [natG_hi]
      refine ⟨by omega, fun h0 => ?_⟩
      rw [natG_lo b j (by omega)]
      have := hlt _ (natG_mem (b := b) (i := b.length - 1) (by omega))
      unfold natG
      omega
    · have h1 := (listB_iff _ _ _).1 h.1 i (by omega)
      rw [natG_lo b j (by omega)]
      refine ⟨h1.1, fun h0 => ?_⟩
      rw [natG_lo b j (by omega)]
      exact h1.2 h0
  · rw [hlen, apartAll_iff]
    intro k hk
    by_cases e : k = b.length
    · subst e
      rw [natG_hi]
      exact apartB_same (fun i hi => (natG_lo b j hi).symm) ha
    · rw [natG_lo b j (by omega)]
      exact apartB_same (fun i hi => (natG_lo b j (by omega)).symm) ((apartAll_iff _ _ _ _).1 h.2 k (by omega))
theorem best_good (f : Nat → W2) (n : Nat) : GoodL f n (bestOf f n) := by
  rw [bestOf_best]
  rcases bestL_mem (tailsL (apartL f n) n n []) [] with h | h
  · rw [h]; exact goodL_nil f n
  · exact tails_all (apartL f n) n (GoodL f n) (fun b j hb hj hlt ha => goodL_more hb hj hlt ha) n [] (Nat.le_refl _) (goodL_nil f n) (fun k hk => absurd hk List.not_mem_nil) _ h
theorem best_most (f : Nat → W2) (n : Nat) : Day f n (fun i => i ∈ bestOf f n) ∧ cnt (fun i => i ∈ bestOf f n) n = (bestOf f n).length ∧ (∀ k, k ∈ bestOf f n → k < n) ∧ ∀ M', Day f n M' → cnt M' n ≤ (bestOf f n).length := by
  rw [bestOf_best]
  exact bestL_most f n (apartL f n) fun b j hj hlt => apartL_iff f n b j hj hlt
/-- A list that the document calls a day's list is no longer than the best. -/
theorem list_best {f : Nat → W2} {n len : Nat} {g : Nat → Int} (hl : listB g n len = true) (hd : dayB f g len = true) : len ≤ (bestOf f n).length := by
  have h := (best_most f n).2.2.2 _ ((dayB_day hl).1 hd)
  rw [listB_cnt hl] at h
  exact h
end Go.Proofs.YtbjgbgchagfokaaGreat

namespace Go.Proofs.YtbjgbgchagfokaaGreat
open Classical

section
variable {f : Nat → W2} {n S D G : Nat} {d : Nat → Nat}
/-- If each shop has as many wants as there are different days, each of these has a want of each shop, and no more. -/
theorem even_day (hS : ∀ i, i < n → 0 ≤ (f i).s ∧ (f i).s < S) (hR : Right f n D d) (he : ∀ x : Nat, x < S → cnt (Used n d) D ≤ many (fun i => (f i).s) x n) (a : Nat) (ha : Used n d a) : cnt (fun i => d i = a) n = S := by
  rw [← list_shops hS (day_list hR a)]
  exact cnt_all fun x hx => by
    obtain ⟨i, hi, e1, e2⟩ := full_day hR x (he x hx) a ha
    exact ⟨i, hi, e2, e1⟩
/-- On some day there are as many wants as all, divided by the days, rounded up. -/
theorem most_day (hR : Right f n D d) {m : Nat} (hm : ∀ a, cnt (fun i => d i = a) n ≤ m) : n ≤ m * cnt (Used n d) D := by
  have h1 := days_full d D n hR.1
  have h2 := days_least n d m hm D
  omega
/-- No day has more wants than a greatest list. -/
theorem day_most (hR : Right f n D d) {M : Nat → Prop} (hmax : ∀ M', Day f n M' → cnt M' n ≤ cnt M n) (a : Nat) : cnt (fun i => d i = a) n ≤ cnt M n := hmax _ (day_list hR a)
/-- The fewest days, with numbers below the greatest load, are first among all days with so few different numbers. -/
theorem fewest_least (hG : IsGreatest f n G) (hR : Right f n D d) : G ≤ cnt (Used n d) D := greatest_right hG hR
/-- The document's own search needs its first number of days only. -/
theorem search_found (hG : IsGreatest f n G) {l : Option (Nat → Nat)} (h : ∀ p, l = none → Nones f n G 0 p) : ∃ d, l = some d := by
  cases l with
  | some d => exact ⟨d, rfl⟩
  | none =>
    obtain ⟨e, he⟩ := greatest_days hG
    exact absurd (fun j hj => by omega) (h e rfl e he)
/-- The greatest load is no more than there are wants. -/
theorem greatest_le (hG : IsGreatest f n G) : G ≤ n := (hG n).1 ⟨fun x => by rw [many_cnt]; exact cnt_atmost _ _, fun x => by rw [many_cnt]; exact cnt_atmost _ _⟩
/-- With wants there is a day. -/
theorem greatest_pos (hG : IsGreatest f n G) (hn : 0 < n) : 0 < G := by
  have h1 := ((hG G).2 (Nat.le_refl _)).1 (f 0).s
  rw [many_cnt] at h1
  have h2 := cnt_less (p := fun _ => False) (q := fun i => (f i).s = (f 0).s) (v := 0) hn (fun h => h) rfl fun i _ h => h.elim
  omega
end

end Go.Proofs.YtbjgbgchagfokaaGreat

namespace Go.Proofs.YtbjgbgchagfokaaGreat.RC
open Go Go.RowKit Go.Proofs.YtbjgbgchagfokaaGreat

section
variable {P : Program} {ops : Array Oper} {md : Region.Mode} {Q : Exit → Act → World → Prop} {C C' : World → Prop}

/-- A function is called, and a value comes of it that may hang on the world. -/
def CallIn (P : Program) (ops : Array Oper) (C F : World → Prop) (o : Oper) (F' : Value → World → Prop) (a : Act) : Prop :=
  Region.wanted o (yielded ops a.tmps) = true ∧ (∀ v, Stable (F' v)) ∧ (∀ v w, F' v w → C w) ∧ ∀ w, F w → ∃ fn args, (execOp a.eval o).run P w = .ok (.enter fn args) w ∧ Calls P fn args w fun e w' => ∃ v, e = .returned v ∧ F' v w'

def Run (P : Program) (md : Region.Mode) (ops : Array Oper) (Q : Exit → Act → World → Prop) (C : World → Prop) : Nat → Array Bool → Act → (World → Prop) → Prop
  | 0, done, a, F => Region.ready md ops done = [] ∧ ∀ w, F w → Q .normal a w
  | f + 1, done, a, F => Region.ready md ops done ≠ [] ∧ ∀ i ∈ Region.ready md ops done, ∃ o, ops[i]? = some o ∧
      ((∃ v, QuietIn P ops F o v a ∧ Run P md ops Q C f (done.setIfInBounds i true) (a.put o.dst v) F) ∨
       (∃ G, NewIn P ops F o G a ∧ ∀ v, (∃ w, G v w) → Run P md ops Q C f (done.setIfInBounds i true) (a.put o.dst v) (fun w => F w ∧ G v w)) ∨
       (∃ F', StoreIn P ops C F o F' a ∧ Run P md ops Q C f (done.setIfInBounds i true) (a.put o.dst undef) F') ∨
       (∃ F', UpdIn P ops C F o F' a ∧ ∀ v, (∃ w, F' v w) → Run P md ops Q C f (done.setIfInBounds i true) (a.put o.dst v) (F' v)) ∨
       (∃ F', CallIn P ops C F o F' a ∧ ∀ v, (∃ w, F' v w) → Run P md ops Q C f (done.setIfInBounds i true) (a.put o.dst v) (F' v)))

theorem run_any : ∀ (f : Nat) (done : Array Bool) (a : Act) (F : World → Prop) (w : World), Stable F → F w → Run P md ops Q C f done a F → wpAny P md ops Q f done a w := by
  intro f
  induction f with
  | zero => intro done a F w _ hw h; exact ⟨h.1, h.2 w hw⟩
  | succ f ih =>
    intro done a F w hF hw h
    refine ⟨fun e => absurd e h.1, fun i hi => ?_⟩
    obtain ⟨o, ho, h⟩ := h.2 i hi
    unfold wpOp
    simp only [ho]
    rcases h with ⟨v, hq, hK⟩ | ⟨G, ⟨hwt, hG, hr⟩, hK⟩ | ⟨F', ⟨hwt, hS, _, hr⟩, hK⟩ | ⟨F', ⟨hwt, hS, _, hr⟩, hK⟩ | ⟨F', ⟨hwt, hS, _, hr⟩, hK⟩
    · rcases hq with ⟨hwt, hg⟩ | ⟨hwt, rfl⟩
      · rw [if_pos hwt]
        refine .inl ?_
        have h3 := hg w hw
        unfold Oper.wp
        generalize (execOp a.eval o).run P w = r at h3 ⊢
        cases r with
        | ok x w' =>
          cases x <;> simp only [growUpon] at h3 <;> simp only [Oper.upon]
          case value u =>
            obtain ⟨e1, e2⟩ := h3
            rw [e1, e2]
            exact ih _ _ F _ hF hw hK
          case skip =>
            obtain ⟨e1, e2⟩ := h3
            rw [e1, ← e2]
            exact ih _ _ F _ hF hw hK
          case enter f' args =>
            obtain ⟨e1, hc⟩ := h3
            rw [e1]
            exact hc.mono fun e w'' ⟨he, hb⟩ => by subst he; exact ih _ _ F _ hF (hF _ _ hw hb) hK
        | halt x w' => simp only [growUpon] at h3
      · rw [if_neg (by simp [hwt])]
        exact ih _ _ F _ hF hw hK
    · rw [if_pos hwt]
      refine .inl ?_
      obtain ⟨v, w', e, hb, hg⟩ := hr w hw
      unfold Oper.wp
      rw [e, Oper.upon_value]
      exact ih _ _ _ _ (stable_and hF (hG v)) ⟨hF _ _ hw hb, hg⟩ (hK v ⟨w', hg⟩)
    · rw [if_pos hwt]
      refine .inl ?_
      obtain ⟨w', e, hf⟩ := hr w hw
      unfold Oper.wp
      rw [e]
      simp only [Oper.upon]
      exact ih _ _ _ _ hS hf hK
    · rw [if_pos hwt]
      refine .inl ?_
      obtain ⟨v, w', e, hf⟩ := hr w hw
      unfold Oper.wp
      rw [e, Oper.upon_value]
      exact ih _ _ _ _ (hS v) hf (hK v ⟨w', hf⟩)
    · rw [if_pos hwt]
      refine .inl ?_
      obtain ⟨fn, args, e, hc⟩ := hr w hw
      unfold Oper.wp
      rw [e]
      simp only [Oper.upon]
      exact hc.mono fun e w'' ⟨v, he, hf⟩ => by subst he; exact ih _ _ _ _ (hS v) hf (hK v ⟨w'', hf⟩)

theorem run_mono : ∀ (f : Nat) (done : Array Bool) (a : Act) (F F' : World → Prop), (∀ w, F' w → F w) → Run P md ops Q C f done a F → Run P md ops Q C f done a F' := by
  intro f
  induction f with
  | zero => intro done a F F' hF h; exact ⟨h.1, fun w hw => h.2 w (hF w hw)⟩
  | succ f ih =>
    intro done a F F' hF h
    refine ⟨h.1, fun i hi => ?_⟩
    obtain ⟨o, ho, h⟩ := h.2 i hi
    refine ⟨o, ho, ?_⟩
    rcases h with ⟨v, hq, hK⟩ | ⟨G, ⟨hwt, hG, hr⟩, hK⟩ | ⟨F2, ⟨hwt, hS, hC, hr⟩, hK⟩ | ⟨F2, ⟨hwt, hS, hC, hr⟩, hK⟩ | ⟨F2, ⟨hwt, hS, hC, hr⟩, hK⟩
    · exact .inl ⟨v, hq.mono hF, ih _ _ _ _ hF hK⟩
    · exact .inr (.inl ⟨G, ⟨hwt, hG, fun w hw => hr w (hF w hw)⟩, fun v hv => ih _ _ _ _ (fun w hw => ⟨hF w hw.1, hw.2⟩) (hK v hv)⟩)
    · exact .inr (.inr (.inl ⟨F2, ⟨hwt, hS, hC, fun w hw => hr w (hF w hw)⟩, hK⟩))
    · exact .inr (.inr (.inr (.inl ⟨F2, ⟨hwt, hS, hC, fun w hw => hr w (hF w hw)⟩, hK⟩)))
    · exact .inr (.inr (.inr (.inr ⟨F2, ⟨hwt, hS, hC, fun w hw => hr w (hF w hw)⟩, hK⟩)))

theorem run_first {i : Nat} {oi : Oper} {v : Value} (hi : ops[i]? = some oi) (hsel : ∀ (j : Nat) (o : Oper) cs b, ops[j]? = some o → o.op ≠ .select cs b) :
    ∀ (f : Nat) (done : Array Bool) (a : Act) (F : World → Prop),
      (∀ j oj, ops[j]? = some oj → j ≠ i → done.getD j true = false → (∀ e ∈ oj.after, Region.binds md e = true → e.on ≠ i) → oi.apart ops oj = true) →
      i ∈ Region.ready md ops done → QuietIn P ops C oi v a → (∀ w, F w → C w) →
      Run P md ops Q C f (done.setIfInBounds i true) (a.put oi.dst v) F → Run P md ops Q C (f + 1) done a F := by
  intro f
  induction f with
  | zero =>
    intro done a F _ hr hy hC H
    refine ⟨List.ne_nil_of_mem hr, fun j hj => ?_⟩
    rcases Nat.decEq j i with h | h
    · have := ready_mono hj h
      rw [H.1] at this
      cases this
    · subst h
      exact ⟨oi, hi, .inl ⟨v, hy.mono hC, H⟩⟩
  | succ f ih =>
    intro done a F free hr hy hC H
    refine ⟨List.ne_nil_of_mem hr, fun j hj => ?_⟩
    rcases Nat.decEq j i with h | h
    · obtain ⟨oj, hoj, HS⟩ := H.2 j (ready_mono hj h)
      obtain ⟨jopen, oj', hoj', hall⟩ := mem_ready.1 hj
      obtain rfl : oj' = oj := Option.some.inj (hoj'.symm.trans hoj)
      have open_ := (mem_ready.1 hr).1
      have waits : ∀ e ∈ oj'.after, Region.binds md e = true → e.on ≠ i := by
        intro e he hb heq
        have := hall e he hb
        rw [heq, getD_both open_] at this
        cases this
      obtain ⟨p1, p2, p3⟩ := Oper.apart_spec (free j oj' hoj h jopen waits)
      have keep : ∀ u, QuietIn P ops C oi v (a.put oj'.dst u) := fun u => hy.of_same (execOp_put oi (fun cs b => hsel i oi cs b hi) a oj'.dst u p3) (wanted_put oi a oj'.dst u p3)
      have free' : ∀ k ok, ops[k]? = some ok → k ≠ i → (done.setIfInBounds j true).getD k true = false → (∀ e ∈ ok.after, Region.binds md e = true → e.on ≠ i) → oi.apart ops ok = true := by
        intro k ok hk hki kopen hno
        refine free k ok hk hki ?_ hno
        rcases Nat.decEq j k with e | e
        · rwa [getD_set_ne true e] at kopen
        · rw [← e]; exact jopen
      have e1 := execOp_put oj' (fun cs b => hsel j oj' cs b hoj) a oi.dst v p1
      have e2 := wanted_put oj' a oi.dst v p1
      refine ⟨oj', hoj, ?_⟩
      rcases HS with ⟨u, hq, hK⟩ | ⟨G, ⟨hwt, hG, hrun⟩, hK⟩ | ⟨F2, ⟨hwt, hS, hC2, hrun⟩, hK⟩ | ⟨F2, ⟨hwt, hS, hC2, hrun⟩, hK⟩ | ⟨F2, ⟨hwt, hS, hC2, hrun⟩, hK⟩
      · refine .inl ⟨u, hq.of_same e1.symm e2.symm, ih _ _ _ free' (ready_mono hr (Ne.symm h)) (keep u) hC ?_⟩
        rw [Act.put_comm a v u p2, Array.setIfInBounds_comm _ _ (Ne.symm h)] at hK
        exact hK
      · refine .inr (.inl ⟨G, ⟨by rw [← e2]; exact hwt, hG, fun w hw => by rw [← e1]; exact hrun w hw⟩, fun u hu => ih _ _ _ free' (ready_mono hr (Ne.symm h)) (keep u) (fun w hw => hC w hw.1) ?_⟩)
        have := hK u hu
        rw [Act.put_comm a v u p2, Array.setIfInBounds_comm _ _ (Ne.symm h)] at this
        exact this
      · refine .inr (.inr (.inl ⟨F2, ⟨by rw [← e2]; exact hwt, hS, hC2, fun w hw => by rw [← e1]; exact hrun w hw⟩, ih _ _ _ free' (ready_mono hr (Ne.symm h)) (keep _) hC2 ?_⟩))
        rw [Act.put_comm a v undef p2, Array.setIfInBounds_comm _ _ (Ne.symm h)] at hK
        exact hK
      · refine .inr (.inr (.inr (.inl ⟨F2, ⟨by rw [← e2]; exact hwt, hS, hC2, fun w hw => by rw [← e1]; exact hrun w hw⟩, fun u hu => ih _ _ _ free' (ready_mono hr (Ne.symm h)) (keep _) (hC2 u) ?_⟩)))
        have := hK u hu
        rw [Act.put_comm a v u p2, Array.setIfInBounds_comm _ _ (Ne.symm h)] at this
        exact this
      · refine .inr (.inr (.inr (.inr ⟨F2, ⟨by rw [← e2]; exact hwt, hS, hC2, fun w hw => by rw [← e1]; exact hrun w hw⟩, fun u hu => ih _ _ _ free' (ready_mono hr (Ne.symm h)) (keep _) (hC2 u) ?_⟩)))
        have := hK u hu
        rw [Act.put_comm a v u p2, Array.setIfInBounds_comm _ _ (Ne.symm h)] at this
        exact this
    · subst h
      exact ⟨oi, hi, .inl ⟨v, hy.mono hC, H⟩⟩

/-- Only one operation may come up: it stores. -/
theorem run_store {f i : Nat} {o : Oper} {done : Array Bool} {a : Act} {F : World → Prop} (F' : World → Prop) (hr : Region.ready md ops done = [i]) (ho : ops[i]? = some o) (hg : o.guard = none) (hS : Stable F') (hC : ∀ w, F' w → C w) (hrun : ∀ w, F w → ∃ w', (execOp a.eval o).run P w = .ok .skip w' ∧ F' w')
    (h : Run P md ops Q C f (done.setIfInBounds i true) (a.put o.dst undef) F') : Run P md ops Q C (f + 1) done a F := by
  refine ⟨by rw [hr]; simp, fun j hj => ?_⟩
  rw [hr] at hj
  simp only [List.mem_cons, List.not_mem_nil, or_false] at hj
  subst hj
  exact ⟨o, ho, .inr (.inr (.inl ⟨F', ⟨by simp [Region.wanted, hg], hS, hC, hrun⟩, h⟩))⟩
/-- Only one operation may come up: it reads. -/
theorem run_quiet {f i : Nat} {o : Oper} {done : Array Bool} {a : Act} {F : World → Prop} (v : Value) (hr : Region.ready md ops done = [i]) (ho : ops[i]? = some o) (hg : o.guard = none) (hrun : ∀ w, F w → (execOp a.eval o).run P w = .ok (.value v) w)
    (h : Run P md ops Q C f (done.setIfInBounds i true) (a.put o.dst v) F) : Run P md ops Q C (f + 1) done a F := by
  refine ⟨by rw [hr]; simp, fun j hj => ?_⟩
  rw [hr] at hj
  simp only [List.mem_cons, List.not_mem_nil, or_false] at hj
  subst hj
  exact ⟨o, ho, .inl ⟨v, .inl ⟨by simp [Region.wanted, hg], fun w hw => by rw [hrun w hw]; exact ⟨rfl, rfl⟩⟩, h⟩⟩

/-- An operation that only reads is taken first. -/
theorem run_take {f i : Nat} {o : Oper} {done : Array Bool} {a : Act} {F : World → Prop} (v : Value) (ho : ops[i]? = some o) (hsel : Region.noSelect ops = true) (hf : Region.free md ops done i = true) (hr : (Region.ready md ops done).contains i = true) (hg : o.guard = none) (hC : ∀ w, F w → C w)
    (hrun : ∀ w, C w → (execOp a.eval o).run P w = .ok (.value v) w) (h : Run P md ops Q C f (done.setIfInBounds i true) (a.put o.dst v) F) : Run P md ops Q C (f + 1) done a F :=
  run_first ho (Region.noSelect_spec hsel) f done a F (Region.free_spec ho hf) (by simpa using hr) (.inl ⟨by simp [Region.wanted, hg], fun w hw => by rw [hrun w hw]; exact ⟨rfl, rfl⟩⟩) hC h

/-- What may come up next, one by one. -/
def RunAt (P : Program) (md : Region.Mode) (ops : Array Oper) (Q : Exit → Act → World → Prop) (C : World → Prop) (f : Nat) (done : Array Bool) (a : Act) (F : World → Prop) (i : Nat) : Prop :=
  ∃ o, ops[i]? = some o ∧
      ((∃ v, QuietIn P ops F o v a ∧ Run P md ops Q C f (done.setIfInBounds i true) (a.put o.dst v) F) ∨
       (∃ G, NewIn P ops F o G a ∧ ∀ v, (∃ w, G v w) → Run P md ops Q C f (done.setIfInBounds i true) (a.put o.dst v) (fun w => F w ∧ G v w)) ∨
       (∃ F', StoreIn P ops C F o F' a ∧ Run P md ops Q C f (done.setIfInBounds i true) (a.put o.dst undef) F') ∨
       (∃ F', UpdIn P ops C F o F' a ∧ ∀ v, (∃ w, F' v w) → Run P md ops Q C f (done.setIfInBounds i true) (a.put o.dst v) (F' v)) ∨
       (∃ F', CallIn P ops C F o F' a ∧ ∀ v, (∃ w, F' v w) → Run P md ops Q C f (done.setIfInBounds i true) (a.put o.dst v) (F' v)))
theorem run_each {f : Nat} {done : Array Bool} {a : Act} {F : World → Prop} (rs : List Nat) (hr : Region.ready md ops done = rs) (hne : rs ≠ []) (h : ∀ i ∈ rs, RunAt P md ops Q C f done a F i) : Run P md ops Q C (f + 1) done a F := by
  subst hr
  exact ⟨hne, h⟩
theorem at_upd {f i : Nat} {o : Oper} {done : Array Bool} {a : Act} {F : World → Prop} (F' : Value → World → Prop) (ho : ops[i]? = some o) (hg : o.guard = none) (hS : ∀ v, Stable (F' v)) (hC : ∀ v w, F' v w → C w) (hrun : ∀ w, F w → ∃ v w', (execOp a.eval o).run P w = .ok (.value v) w' ∧ F' v w')
    (h : ∀ v, (∃ w, F' v w) → Run P md ops Q C f (done.setIfInBounds i true) (a.put o.dst v) (F' v)) : RunAt P md ops Q C f done a F i :=
  ⟨o, ho, .inr (.inr (.inr (.inl ⟨F', ⟨by simp [Region.wanted, hg], hS, hC, hrun⟩, h⟩)))⟩
theorem at_quiet {f i : Nat} {o : Oper} {done : Array Bool} {a : Act} {F : World → Prop} (v : Value) (ho : ops[i]? = some o) (hq : QuietIn P ops F o v a) (h : Run P md ops Q C f (done.setIfInBounds i true) (a.put o.dst v) F) : RunAt P md ops Q C f done a F i :=
  ⟨o, ho, .inl ⟨v, hq, h⟩⟩
theorem at_call {f i : Nat} {o : Oper} {done : Array Bool} {a : Act} {F : World → Prop} (F' : Value → World → Prop) (ho : ops[i]? = some o) (hg : o.guard = none) (hS : ∀ v, Stable (F' v)) (hC : ∀ v w, F' v w → C w)
    (hrun : ∀ w, F w → ∃ fn args, (execOp a.eval o).run P w = .ok (.enter fn args) w ∧ Calls P fn args w fun e w' => ∃ v, e = .returned v ∧ F' v w')
    (h : ∀ v, (∃ w, F' v w) → Run P md ops Q C f (done.setIfInBounds i true) (a.put o.dst v) (F' v)) : RunAt P md ops Q C f done a F i :=
  ⟨o, ho, .inr (.inr (.inr (.inr ⟨F', ⟨by simp [Region.wanted, hg], hS, hC, hrun⟩, h⟩)))⟩
/-- Something new is made, which is named by a value; it is none of what is there. -/
theorem at_make {w0 : World} {f i t : Nat} {o : Oper} {z : Obj} {done : Array Bool} {a : Act} {F : World → Prop} (va : Nat → Value) (X : Nat → Prop) (inj : ∀ b c, va b = va c → b = c) (ho : ops[i]? = some o) (hg : o.guard = none) (hd : o.dst = some t)
    (hal : ∀ w, F w → (execOp a.eval o).run P w = .ok (.value (va w.heap.size)) (w.alloc z)) (hF : ∀ w, F w → w0.heap.size ≤ w.heap.size) (hX : ∀ w, F w → ∀ k, X k → k < w.heap.size)
    (h : ∀ b, w0.heap.size ≤ b → ¬ X b → Run P md ops Q C f (done.setIfInBounds i true) (a.put (some t) (va b)) (fun w => F w ∧ w.heap[b]? = some z)) : RunAt P md ops Q C f done a F i := by
  refine ⟨o, ho, .inr (.inl ⟨fun v w => ∃ b, v = va b ∧ (w0.heap.size ≤ b ∧ ¬ X b) ∧ w.heap[b]? = some z, ⟨by simp [Region.wanted, hg], fun v w w' h hb => ?_, fun w hw => ⟨_, _, hal w hw, (Below.refl _ w).alloc (Nat.le_refl _) z, w.heap.size, rfl, ⟨hF w hw, fun hx => Nat.lt_irrefl _ (hX w hw _ hx)⟩, World.alloc_heap_new w z⟩⟩, fun v hv => ?_⟩)⟩
  · obtain ⟨b, e, h1, h2⟩ := h
    exact ⟨b, e, h1, (hb.block b (heap_size_lt h2)).trans h2⟩
  obtain ⟨_, b, rfl, ⟨hb0, hbX⟩, _⟩ := hv
  rw [hd]
  refine run_mono _ _ _ _ _ ?_ (h b hb0 hbX)
  rintro w ⟨h1, b', e1, _, h2⟩
  have eb := inj _ _ e1
  subst eb
  exact ⟨h1, h2⟩
/-- Only one operation may come up. -/
theorem run_only {f i : Nat} {done : Array Bool} {a : Act} {F : World → Prop} (hr : Region.ready md ops done = [i]) (h : RunAt P md ops Q C f done a F i) : Run P md ops Q C (f + 1) done a F :=
  run_each [i] hr (by simp) (fun j hj => by rw [List.mem_singleton] at hj; rw [hj]; exact h)
/-- One of two operations comes up. -/
theorem run_both {f i j : Nat} {done : Array Bool} {a : Act} {F : World → Prop} (hr : Region.ready md ops done = [i, j]) (h1 : RunAt P md ops Q C f done a F i) (h2 : RunAt P md ops Q C f done a F j) : Run P md ops Q C (f + 1) done a F :=
  run_each [i, j] hr (by simp) (fun k hk => by
    simp only [List.mem_cons, List.not_mem_nil, or_false] at hk
    rcases hk with rfl | rfl
    · exact h1
    · exact h2)
theorem wp_region_runF {id : Nat} {a : Act} {w : World} {l : List Oper} (F : World → Prop) (hmo : P.follows .mixedOrders = true) (hF : Stable F) (h0 : F w) (h : Run P .any l.toArray Q C l.length (Array.replicate l.toArray.size false) a F) : (Code.region id l.toArray true).wp P Q a w :=
  wp_region_any hmo (by
    rw [show l.toArray.size = l.length by simp] at *
    exact run_any _ _ _ _ _ hF (hF _ _ h0 ((Below.refl _ w).drew)) h)
end

end Go.Proofs.YtbjgbgchagfokaaGreat.RC

namespace Go.Proofs.YtbjgbgchagfokaaGreat
open Go Go.RowKit

section
variable {P : Program} {ops : Array Oper} {md : Region.Mode} {Q : Exit → Act → World → Prop} {C : World → Prop}

/-- As UpdIn: blocks outside of X stay, and X grows by new blocks alone. -/
def UpdX (P : Program) (ops : Array Oper) (C F : World → Prop) (X : Nat → Prop) (o : Oper) (F' : Value → World → Prop) (X' : Value → Nat → Prop) (a : Act) : Prop :=
  Region.wanted o (yielded ops a.tmps) = true ∧ (∀ v, Stable (F' v)) ∧ (∀ v w, F' v w → C w) ∧ (∀ v w, F' v w → ∀ b, X' v b → b < w.heap.size) ∧
    ∀ w, F w → ∃ v w', (execOp a.eval o).run P w = .ok (.value v) w' ∧ F' v w' ∧ (∀ b z, ¬ X b → w.heap[b]? = some z → w'.heap[b]? = some z) ∧ ∀ b, X' v b → X b ∨ w.heap.size ≤ b

/-- The steps beside number x, which makes the variable; number c is the last of them. -/
def RunX (P : Program) (md : Region.Mode) (ops : Array Oper) (Q : Exit → Act → World → Prop) (C : World → Prop) (w0 : World) (x c tx : Nat) (z : Obj) (g : Nat) : Nat → Array Bool → Act → (World → Prop) → (Nat → Prop) → Prop
  | 0, done, a, F, X => Run P md ops Q C (g + 1) done a F ∧ ∀ b, w0.heap.size ≤ b → ¬ X b → Run P md ops Q C g (done.setIfInBounds x true) (a.put (some tx) (ptrTo b)) (fun w => F w ∧ w.heap[b]? = some z)
  | f + 1, done, a, F, X => done.getD c true = false ∧ x ∈ Region.ready md ops done ∧ (∃ i ∈ Region.ready md ops done, i ≠ x) ∧ ∀ i ∈ Region.ready md ops done, i ≠ x → ∃ o, ops[i]? = some o ∧
      ((∃ v, QuietIn P ops F o v a ∧ RunX P md ops Q C w0 x c tx z g f (done.setIfInBounds i true) (a.put o.dst v) F X) ∨
       (∃ F' X', UpdX P ops C F X o F' X' a ∧ ∀ v, (∃ w, F' v w) → RunX P md ops Q C w0 x c tx z g f (done.setIfInBounds i true) (a.put o.dst v) (F' v) (X' v)))

variable {w0 : World} {x c tx : Nat} {z : Obj} {g : Nat} {ox : Oper}

/-- What waits for the variable waits for the last step, too. -/
def waitsB (md : Region.Mode) (ops : Array Oper) (x c : Nat) : Bool := (List.range ops.size).all fun t => !(Region.waitsFor md ops t x) || Region.waitsFor md ops t c
/-- All else that does not wait for it is apart from it. -/
def apartXB (md : Region.Mode) (ops : Array Oper) (x : Nat) : Bool := (List.range ops.size).all fun j => j == x || Region.waitsFor md ops j x || (match ops[x]?, ops[j]? with
  | some ox, some oj => ox.apart ops oj
  | _, _ => true)

theorem not_ready_waits {t i : Nat} {done : Array Bool} (hw : Region.waitsFor md ops t i = true) (hd : done.getD i false = false) : t ∉ Region.ready md ops done := fun h => by
  obtain ⟨_, o, ho, hall⟩ := mem_ready.1 h
  obtain ⟨o', ho', e, he, hb, hi⟩ := Region.waitsFor_spec hw
  obtain rfl : o' = o := Option.some.inj (ho'.symm.trans ho)
  have := hall e he hb
  rw [hi, hd] at this
  cases this
theorem not_waits {t i : Nat} {o : Oper} (ho : ops[t]? = some o) (hw : Region.waitsFor md ops t i = false) : ∀ e ∈ o.after, Region.binds md e = true → e.on ≠ i := fun e he hb hi => by
  unfold Region.waitsFor at hw
  simp only [ho] at hw
  rw [← Bool.not_eq_true, Array.any_eq_true'] at hw
  exact hw ⟨e, he, by simp [hb, hi]⟩
theorem ready_back {done : Array Bool} {i : Nat} (hW : waitsB md ops x c = true) (hc : done.getD c true = false) (hxc : x ≠ c) (hxs : x < done.size) (hi : i ∈ Region.ready md ops (done.setIfInBounds x true)) : i ∈ Region.ready md ops done ∧ i ≠ x := by
  obtain ⟨h0, o, ho, hall⟩ := mem_ready.1 hi
  have hix : i ≠ x := fun e => by
    subst e
    simp [hxs] at h0
  have hil : i < ops.size := (Array.getElem?_eq_some_iff.1 ho).1
  have hnw : Region.waitsFor md ops i x = false := by
    cases e : Region.waitsFor md ops i x with
    | false => rfl
    | true =>
      have h1 := List.all_eq_true.1 hW i (by simpa using hil)
      simp only [e, Bool.not_true, Bool.false_or] at h1
      exact absurd hi (not_ready_waits h1 (by rw [getD_set_ne false hxc]; exact getD_both hc))
  refine ⟨mem_ready.2 ⟨by rwa [getD_set_ne true (Ne.symm hix)] at h0, o, ho, fun e he hb => ?_⟩, hix⟩
  have h2 := hall e he hb
  have hx := not_waits ho hnw e he hb
  rwa [getD_set_ne false (Ne.symm hx)] at h2
theorem apart_of {done : Array Bool} {i : Nat} {oi : Oper} (hA : apartXB md ops x = true) (hox : ops[x]? = some ox) (hoi : ops[i]? = some oi) (hix : i ≠ x) (hr : i ∈ Region.ready md ops done) (hx : done.getD x false = false) : ox.apart ops oi = true := by
  have hil : i < ops.size := (Array.getElem?_eq_some_iff.1 hoi).1
  have h1 := List.all_eq_true.1 hA i (by simpa using hil)
  simp only [hox, hoi, Bool.or_eq_true, beq_iff_eq] at h1
  rcases h1 with (h1 | h1) | h1
  · exact absurd h1 hix
  · exact absurd hr (not_ready_waits h1 hx)
  · exact h1

/-- The variable is made already. -/
theorem runX_made (hox : ops[x]? = some ox) (hdx : ox.dst = some tx) (hsel : ∀ (j : Nat) (o : Oper) cs b, ops[j]? = some o → o.op ≠ .select cs b) (hW : waitsB md ops x c = true) (hA : apartXB md ops x = true) (hxc : x ≠ c) :
    ∀ (f : Nat) (done : Array Bool) (a : Act) (F : World → Prop) (X : Nat → Prop) (b : Nat), done.size = ops.size → w0.heap.size ≤ b → ¬ X b → (∀ w, F w → C w) → RunX P md ops Q C w0 x c tx z g f done a F X →
      Run P md ops Q C (f + g) (done.setIfInBounds x true) (a.put (some tx) (ptrTo b)) (fun w => F w ∧ w.heap[b]? = some z) := by
  intro f
  induction f with
  | zero => intro done a F X b _ hb hX _ h; rw [Nat.zero_add]; exact h.2 b hb hX
  | succ f ih =>
    intro done a F X b hds hb hX hC h
    obtain ⟨hc, hxr, ⟨i0, hi0, hi0x⟩, hall⟩ := h
    have hxs : x < done.size := by rw [hds]; exact (Array.getElem?_eq_some_iff.1 hox).1
    have hx0 : done.getD x false = false := getD_both (mem_ready.1 hxr).1
    rw [Nat.succ_add]
    refine ⟨List.ne_nil_of_mem (ready_mono hi0 hi0x), fun i hi => ?_⟩
    obtain ⟨hir, hix⟩ := ready_back hW hc hxc hxs hi
    obtain ⟨o, ho, hstep⟩ := hall i hir hix
    obtain ⟨p1, p2, p3⟩ := Oper.apart_spec (apart_of hA hox ho hix hir hx0)
    rw [hdx] at p1 p2
    have e1 := execOp_put o (fun cs b => hsel i o cs b ho) a (some tx) (ptrTo b) p1
    have e2 := wanted_put o a (some tx) (ptrTo b) p1
    refine ⟨o, ho, ?_⟩
    rcases hstep with ⟨v, hq, hK⟩ | ⟨F', X', ⟨hwt, hS, hC', hX', hrun⟩, hK⟩
    · refine .inl ⟨v, (hq.of_same e1 e2).mono (fun w hw => hw.1), ?_⟩
      have := ih _ _ F X b (by simpa using hds) hb hX hC hK
      rw [Act.put_comm a _ _ (fun d hd e => p2 d hd e), Array.setIfInBounds_comm _ _ hix.symm]
      exact this
    · refine .inr (.inr (.inr ⟨fun v w => F' v w ∧ w.heap[b]? = some z ∧ ¬ X' v b, ⟨by rw [e2]; exact hwt, fun v w w' h hb' => ⟨hS v w w' h.1 hb', (hb'.block b (heap_size_lt h.2.1)).trans h.2.1, h.2.2⟩, fun v w hw => hC' v w hw.1, fun w hw => ?_⟩, fun v hv => ?_⟩))
      · obtain ⟨v, w', e, hf, hkeep, hnew⟩ := hrun w hw.1
        rw [e1]
        refine ⟨v, w', e, hf, hkeep b z hX hw.2, fun hxb => ?_⟩
        rcases hnew b hxb with h1 | h1
        · exact hX h1
        · have := heap_size_lt hw.2
          omega
      · obtain ⟨w, hf, _, hnx⟩ := hv
        have := ih _ _ (F' v) (X' v) b (by simpa using hds) hb hnx (hC' v) (hK v ⟨w, hf⟩)
        rw [Act.put_comm a _ _ (fun d hd e => p2 d hd e), Array.setIfInBounds_comm _ _ hix.symm]
        exact run_mono _ _ _ _ _ (fun w hw => ⟨hw.1, hw.2.1⟩) this
/-- The variable is made at whatever moment. -/
theorem runX_float (hox : ops[x]? = some ox) (hgx : ox.guard = none) (hdx : ox.dst = some tx) (hal : ∀ (a : Act) (w : World), (execOp a.eval ox).run P w = .ok (.value (ptrTo w.heap.size)) (w.alloc z)) (hsel : ∀ (j : Nat) (o : Oper) cs b, ops[j]? = some o → o.op ≠ .select cs b) (hW : waitsB md ops x c = true) (hA : apartXB md ops x = true) (hxc : x ≠ c) (hC0 : ∀ w, C w → w0.heap.size ≤ w.heap.size) :
    ∀ (f : Nat) (done : Array Bool) (a : Act) (F : World → Prop) (X : Nat → Prop), done.size = ops.size → (∀ w, F w → C w) → (∀ w, F w → ∀ b, X b → b < w.heap.size) → RunX P md ops Q C w0 x c tx z g f done a F X → Run P md ops Q C (f + g + 1) done a F := by
  intro f
  induction f with
  | zero => intro done a F X _ _ _ h; rw [Nat.zero_add]; exact h.1
  | succ f ih =>
    intro done a F X hds hC hXs H
    have H' := H
    obtain ⟨hc, hxr, ⟨i0, hi0, hi0x⟩, hall⟩ := H
    refine ⟨List.ne_nil_of_mem hxr, fun i hi => ?_⟩
    by_cases hix : i = x
    · subst hix
      refine ⟨ox, hox, .inr (.inl ⟨fun v w => ∃ b, v = ptrTo b ∧ (w0.heap.size ≤ b ∧ ¬ X b) ∧ w.heap[b]? = some z, ⟨by simp [Region.wanted, hgx], fun v w w' h hb => ?_, fun w hw => ⟨_, _, hal a w, (Below.refl _ w).alloc (Nat.le_refl _) z, w.heap.size, rfl, ⟨hC0 w (hC w hw), fun hx => Nat.lt_irrefl _ (hXs w hw _ hx)⟩, World.alloc_heap_new w z⟩⟩, fun v hv => ?_⟩)⟩
      · obtain ⟨b, e, h1, h2⟩ := h
        exact ⟨b, e, h1, (hb.block b (heap_size_lt h2)).trans h2⟩
      obtain ⟨_, b, rfl, ⟨hb0, hbX⟩, _⟩ := hv
      rw [hdx]
      refine run_mono _ _ _ _ _ ?_ (runX_made hox hdx hsel hW hA hxc (f + 1) done a F X b hds hb0 hbX hC H')
      rintro w ⟨h1, b', e1, _, h2⟩
      have eb := ptr_inj e1
      subst eb
      exact ⟨h1, h2⟩
    · obtain ⟨o, ho, hstep⟩ := hall i hi hix
      refine ⟨o, ho, ?_⟩
      rcases hstep with ⟨v, hq, hK⟩ | ⟨F', X', ⟨hwt, hS, hC', hX', hrun⟩, hK⟩
      · refine .inl ⟨v, hq, ?_⟩
        have := ih _ _ F X (by simpa using hds) hC hXs hK
        rw [show f + 1 + g = f + g + 1 by omega]
        exact this
      · refine .inr (.inr (.inr ⟨F', ⟨hwt, hS, hC', fun w hw => ?_⟩, fun v hv => ?_⟩))
        · obtain ⟨v, w', e, hf, _, _⟩ := hrun w hw
          exact ⟨v, w', e, hf⟩
        · have := ih _ _ (F' v) (X' v) (by simpa using hds) (hC' v) (hX' v) (hK v hv)
          rw [show f + 1 + g = f + g + 1 by omega]
          exact this

/-- What may come up next beside the variable, one by one. -/
def RunXAt (P : Program) (md : Region.Mode) (ops : Array Oper) (Q : Exit → Act → World → Prop) (C : World → Prop) (w0 : World) (x c tx : Nat) (z : Obj) (g f : Nat) (done : Array Bool) (a : Act) (F : World → Prop) (X : Nat → Prop) (i : Nat) : Prop :=
  ∃ o, ops[i]? = some o ∧
      ((∃ v, QuietIn P ops F o v a ∧ RunX P md ops Q C w0 x c tx z g f (done.setIfInBounds i true) (a.put o.dst v) F X) ∨
       (∃ F' X', UpdX P ops C F X o F' X' a ∧ ∀ v, (∃ w, F' v w) → RunX P md ops Q C w0 x c tx z g f (done.setIfInBounds i true) (a.put o.dst v) (F' v) (X' v)))
theorem runX_each {f : Nat} {done : Array Bool} {a : Act} {F : World → Prop} {X : Nat → Prop} (rs : List Nat) (hc : done.getD c true = false) (hr : (Region.ready md ops done).filter (· != x) = rs) (hxr : (Region.ready md ops done).contains x = true) (hne : rs ≠ []) (h : ∀ i ∈ rs, RunXAt P md ops Q C w0 x c tx z g f done a F X i) : RunX P md ops Q C w0 x c tx z g (f + 1) done a F X := by
  subst hr
  refine ⟨hc, by simpa using hxr, ?_, fun i hi hix => h i (by simp [hi, hix])⟩
  cases e : (Region.ready md ops done).filter (· != x) with
  | nil => exact absurd e hne
  | cons i r =>
    have : i ∈ (Region.ready md ops done).filter (· != x) := by rw [e]; exact List.mem_cons_self
    simp only [List.mem_filter, bne_iff_ne, ne_eq] at this
    exact ⟨i, this.1, this.2⟩
theorem atX_upd {f i : Nat} {o : Oper} {done : Array Bool} {a : Act} {F : World → Prop} {X : Nat → Prop} (F' : Value → World → Prop) (X' : Value → Nat → Prop) (ho : ops[i]? = some o) (hg : o.guard = none) (hS : ∀ v, Stable (F' v)) (hC : ∀ v w, F' v w → C w) (hX : ∀ v w, F' v w → ∀ b, X' v b → b < w.heap.size)
    (hrun : ∀ w, F w → ∃ v w', (execOp a.eval o).run P w = .ok (.value v) w' ∧ F' v w' ∧ (∀ b z, ¬ X b → w.heap[b]? = some z → w'.heap[b]? = some z) ∧ ∀ b, X' v b → X b ∨ w.heap.size ≤ b)
    (h : ∀ v, (∃ w, F' v w) → RunX P md ops Q C w0 x c tx z g f (done.setIfInBounds i true) (a.put o.dst v) (F' v) (X' v)) : RunXAt P md ops Q C w0 x c tx z g f done a F X i :=
  ⟨o, ho, .inr ⟨F', X', ⟨by simp [Region.wanted, hg], hS, hC, hX, hrun⟩, h⟩⟩
theorem atX_quiet {f i : Nat} {o : Oper} {done : Array Bool} {a : Act} {F : World → Prop} {X : Nat → Prop} (v : Value) (ho : ops[i]? = some o) (hq : QuietIn P ops F o v a) (h : RunX P md ops Q C w0 x c tx z g f (done.setIfInBounds i true) (a.put o.dst v) F X) : RunXAt P md ops Q C w0 x c tx z g f done a F X i :=
  ⟨o, ho, .inl ⟨v, hq, h⟩⟩
theorem runX_mono : ∀ (f : Nat) (done : Array Bool) (a : Act) (F F' : World → Prop) (X X' : Nat → Prop), (∀ w, F' w → F w) → (∀ b, X b → X' b) → (∀ b, X' b → X b) → RunX P md ops Q C w0 x c tx z g f done a F X → RunX P md ops Q C w0 x c tx z g f done a F' X' := by
  intro f
  induction f with
  | zero => intro done a F F' X X' hF hX _ h; exact ⟨run_mono _ _ _ _ _ hF h.1, fun b hb hb' => run_mono _ _ _ _ _ (fun w hw => ⟨hF w hw.1, hw.2⟩) (h.2 b hb fun hh => hb' (hX b hh))⟩
  | succ f ih =>
    intro done a F F' X X' hF hX hX2 h
    refine ⟨h.1, h.2.1, h.2.2.1, fun i hi hix => ?_⟩
    obtain ⟨o, ho, hs⟩ := h.2.2.2 i hi hix
    refine ⟨o, ho, ?_⟩
    rcases hs with ⟨v, hq, hK⟩ | ⟨F2, X2, ⟨hwt, hS, hC, hXs, hrun⟩, hK⟩
    · exact .inl ⟨v, hq.mono hF, ih _ _ _ _ _ _ hF hX hX2 hK⟩
    · refine .inr ⟨F2, X2, ⟨hwt, hS, hC, hXs, fun w hw => ?_⟩, hK⟩
      obtain ⟨v, w', e, h1, h2, h3⟩ := hrun w (hF w hw)
      exact ⟨v, w', e, h1, fun b z hb => h2 b z fun hh => hb (hX b hh), fun b hb => (h3 b hb).imp (hX b) id⟩

end

end Go.Proofs.YtbjgbgchagfokaaGreat

namespace Go.Proofs.YtbjgbgchagfokaaGreat
open Go Go.RowKit

abbrev sl (b n c : Nat) : Value := .slice (some ⟨b, 0, none⟩) n c
theorem sl_inj {b n c b' n' c' : Nat} (h : sl b n c = sl b' n' c') : b = b' ∧ n = n' ∧ c = c' := by
  unfold sl at h
  injection h with h1 h2 h3
  injection h1 with h1
  injection h1 with h1
  exact ⟨h1, h2, h3⟩
/-- The call's own list, at block g. -/
def OwnR (e : TypeId) (size B : Nat) (w : World) (n : Nat) (xs : List Value) (g c : Nat) : Prop := w.ownsRow B e size (sl g n c) n xs
theorem OwnR.below {e : TypeId} {size B n g c : Nat} {xs : List Value} {w w' : World} (h : OwnR e size B w n xs g c) (hb : Below w.heap.size w w') : OwnR e size B w' n xs g c := by
  refine ⟨h.1, ?_⟩
  rcases h.2 with h2 | ⟨g', cap, cur, hv, hbg, hg, h3⟩
  · exact .inl h2
  · exact .inr ⟨g', cap, cur, hv, hbg, (hb.block g' (Array.getElem?_eq_some_iff.1 hg).1).trans hg, h3⟩
theorem OwnR.st {e : TypeId} {size B n g c : Nat} {xs : List Value} : Stable fun w => OwnR e size B w n xs g c := fun _ _ h hb => h.below hb
theorem OwnR.lt {e : TypeId} {size B n g c : Nat} {xs : List Value} {w : World} (h : OwnR e size B w n xs g c) : B ≤ g ∧ g < w.heap.size := World.ownsRow.lt h g rfl
theorem OwnR.cap {e : TypeId} {size B n g c : Nat} {xs : List Value} {w : World} (h : OwnR e size B w n xs g c) : n ≤ c ∧ c ≤ maxLen := by
  rcases h.2 with ⟨h2, _⟩ | ⟨g', cap, cur, hv, hbg, hg, h3, h4, _⟩
  · cases h2
  · obtain ⟨-, -, rfl⟩ := sl_inj hv
    exact ⟨h3, h4⟩
theorem lit_owns {e : TypeId} {size B : Nat} {w : World} (hB : B ≤ w.heap.size) : OwnR e size B (w.alloc (.cells #[] e)) 0 [] w.heap.size 0 := by
  have h := World.ownsRow_lit (base := B) (e := e) (size := size) w #[] 0 hB (by unfold maxLen; omega) (by simp)
  exact h
theorem OwnR.ne {e e' : TypeId} {size B n g c b : Nat} {xs : List Value} {w : World} {cs : Array Value} (h : OwnR e size B w n xs g c) (hb : w.heap[b]? = some (.cells cs e' (0, 0))) (he : e ≠ e') : g ≠ b := fun hgb => by
  subst hgb
  rcases h.2 with ⟨h2, _⟩ | ⟨g', cap, cur, hv, hbg, hg, _⟩
  · cases h2
  · obtain ⟨rfl, -, -⟩ := sl_inj hv
    rw [hb] at hg
    injection hg with hg
    injection hg with _ h3 _
    exact he h3.symm
theorem OwnR.keep {e : TypeId} {size B n g c : Nat} {xs : List Value} {w w' : World} (h : OwnR e size B w n xs g c) (hg : w'.heap[g]? = w.heap[g]?) : OwnR e size B w' n xs g c := by
  refine ⟨h.1, ?_⟩
  rcases h.2 with h2 | ⟨g', cap, cur, hv, hbg, hg', h3⟩
  · exact .inl h2
  · obtain ⟨rfl, -, -⟩ := sl_inj hv
    exact .inr ⟨g, cap, cur, hv, hbg, hg.trans hg', h3⟩
/-- One new block with these cells. -/
def RowK (ks : Array Value) (e : TypeId) (w : World) (d : Nat) : Prop := w.heap[d]? = some (.cells ks e (0, 0))
theorem RowK.st {ks : Array Value} {e : TypeId} {d : Nat} : Stable fun w => RowK ks e w d := fun _ _ h hb => (hb.block d (heap_size_lt h)).trans h

section
variable {P : Program} {ts e : TypeId} {i0 : TypeInfo} {z : Value} {size bytes : Nat} (ht : P.underlying ts = some (.slice e)) (hi : P.info? e = some i0) (hz : i0.zero = some z) (hs : i0.size = size) (hby : i0.bytes = bytes) (hzs : z.cells.size = size) (hsz : 0 < size)
include ht hi hz hs hby hzs hsz
/-- A list is appended to one of one's own. -/
theorem app_list {ty : TypeId} {B b c m n cap : Nat} {w0 w : World} {xs news : List Value} {a : Option Addr} (hC : Below B w0 w) (hB : B = w0.heap.size) (h : OwnR e size B w m xs b c)
    (hsrc : (n = 0 ∧ news = []) ∨ ∃ ad, a = some ad ∧ news.length = n * size ∧ ∀ j u, news[j]? = some u → w.cell? (ad.add j) = some u) (h1 : ∀ u ∈ news, u.oneCell' = true) (hm : m + n ≤ maxLen) (hbytes : (m + n) * bytes ≤ 140737488355328) :
    ∃ g c' w', (Builtin.append_ #[ts, ts] ty #[sl b m c, .slice a n cap]).run P w = .ok (sl g (m + n) c') w' ∧ OwnR e size B w' (m + n) (xs ++ news) g c' ∧ Below B w0 w' ∧ (∀ q o, q ≠ b → w.heap[q]? = some o → w'.heap[q]? = some o) ∧ (g = b ∨ w.heap.size ≤ g) := by
  by_cases h0 : n = 0
  · subst h0
    have hn0 : news = [] := by
      rcases hsrc with ⟨-, h2⟩ | ⟨ad, -, h2, -⟩
      · exact h2
      · exact List.length_eq_zero_iff.1 (by omega)
    subst hn0
    refine ⟨b, c, w, ?_, by simpa using h, hC, fun _ _ _ h => h, .inl rfl⟩
    have hfc : ∀ w : World, (Builtin.firstCells i0.size 0 (.slice a 0 cap)).run P w = .ok #[] w := fun w => by
      cases a <;> simp [Builtin.firstCells, loadCells, loadCellsFrom]
    exact run_append_nothing w ts ts ty e i0 ht hi (some ⟨b, 0, none⟩) m c h.cap.1 (.slice a 0 cap) ⟨.inl ⟨e, ht⟩, fun w' => rfl, hfc _, hfc _, by simp, by simp⟩
  · obtain ⟨ad, rfl, hl, hnews⟩ : ∃ ad, a = some ad ∧ news.length = n * size ∧ ∀ j u, news[j]? = some u → w.cell? (ad.add j) = some u := by
      rcases hsrc with ⟨h2, -⟩ | h2
      · exact absurd h2 h0
      · exact h2
    obtain ⟨v', w', hr, h2, h3, -, h5⟩ := run_append_own_at (P := P) w B ts ty e i0 z size bytes ht hi hz hs hby hzs hsz _ m xs h ad n cap news hl hnews h1 hm hbytes (by rw [hB]; exact hC.size)
    have hf : ∃ g cap, v' = sl g (m + n) cap := by
      rcases h2.2 with ⟨_, e0⟩ | ⟨g, cap, cur, rfl, _⟩
      · omega
      · exact ⟨g, cap, rfl⟩
    obtain ⟨g, c', rfl⟩ := hf
    refine ⟨g, c', w', hr, h2, hC.grown h3 (by rw [hB]; exact hC.size) (fun j hj => by cases hj; exact h.lt.1), fun q o hq ho => ?_, ?_⟩
    · rw [h3.block q (heap_size_lt ho) (fun e => hq (by cases e; rfl))]
      exact ho
    · rcases h5 with h5 | h5
      · left
        have := Option.some.inj h5
        exact this
      · right
        have := Option.some.inj h5
        exact Nat.le_of_eq this.symm
end

end Go.Proofs.YtbjgbgchagfokaaGreat
