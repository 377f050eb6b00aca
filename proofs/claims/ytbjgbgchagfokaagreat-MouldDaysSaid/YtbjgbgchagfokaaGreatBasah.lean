/- Plain mathematics: all day's lists one after another, and the first of the longest. It uses nothing of the program but words. -/
import Derived.Test.YtbjgbgchagfokaaGreatBasag
namespace Go.Proofs.YtbjgbgchagfokaaGreat
open Classical

/-- All that a list begins, in lexicographic order, with r indexes left. -/
def tailsL (fits : List Nat → Nat → Bool) (n : Nat) : Nat → List Nat → List (List Nat)
  | 0, _ => []
  | r + 1, b => (if fits b (n - (r + 1)) then (b ++ [n - (r + 1)]) :: tailsL fits n r (b ++ [n - (r + 1)]) else []) ++ tailsL fits n r b
/-- The longer one of both, the first one of as long ones. -/
def pick (b x : List Nat) : List Nat := if b.length < x.length then x else b
theorem pick_lt {b x : List Nat} (h : b.length < x.length) : pick b x = x := if_pos h
theorem pick_le {b x : List Nat} (h : x.length ≤ b.length) : pick b x = b := if_neg (by omega)
theorem pick_len (b x : List Nat) : b.length ≤ (pick b x).length ∧ x.length ≤ (pick b x).length := by
  by_cases h : b.length < x.length
  · rw [pick_lt h]; omega
  · rw [pick_le (by omega)]; omega
/-- The first of the longest. -/
def bestL (b : List Nat) : List (List Nat) → List Nat
  | [] => b
  | x :: xs => bestL (pick b x) xs
theorem bestL_len : ∀ (xs : List (List Nat)) (b : List Nat), b.length ≤ (bestL b xs).length
  | [], _ => Nat.le_refl _
  | x :: xs, b => Nat.le_trans (pick_len b x).1 (bestL_len xs (pick b x))
theorem bestL_max : ∀ (xs : List (List Nat)) (b y : List Nat), y ∈ xs → y.length ≤ (bestL b xs).length
  | x :: xs, b, y, h => by
    rcases List.mem_cons.1 h with h | h
    · subst h
      exact Nat.le_trans (pick_len b y).2 (bestL_len xs (pick b y))
    · exact bestL_max xs (pick b x) y h
theorem bestL_mem : ∀ (xs : List (List Nat)) (b : List Nat), bestL b xs = b ∨ bestL b xs ∈ xs
  | [], _ => .inl rfl
  | x :: xs, b => by
    have h1 : bestL b (x :: xs) = bestL (pick b x) xs := rfl
    rw [h1]
    by_cases h : b.length < x.length
    · rw [pick_lt h]
      rcases bestL_mem xs x with e | e
      · rw [e]; exact .inr List.mem_cons_self
      · exact .inr (List.mem_cons_of_mem _ e)
    · rw [pick_le (by omega)]
      exact (bestL_mem xs b).imp_right (List.mem_cons_of_mem _)
theorem bestL_app : ∀ (xs ys : List (List Nat)) (b : List Nat), bestL b (xs ++ ys) = bestL (bestL b xs) ys
  | [], _, _ => rfl
  | x :: xs, ys, b => bestL_app xs ys (pick b x)
theorem bestL_over : ∀ (xs : List (List Nat)) (b x : List Nat), x.length ≤ b.length → bestL b xs = pick b (bestL x xs)
  | [], b, x, h => (pick_le h).symm
  | y :: xs, b, x, h => by
    have h1 : bestL b (y :: xs) = bestL (pick b y) xs := rfl
    have h2 : bestL x (y :: xs) = bestL (pick x y) xs := rfl
    rw [h1, h2]
    by_cases h1 : b.length < y.length
    · rw [pick_lt h1, pick_lt (show x.length < y.length by omega), pick_lt (Nat.lt_of_lt_of_le h1 (bestL_len xs y))]
    · rw [pick_le (show y.length ≤ b.length by omega)]
      exact bestL_over xs b (pick x y) (by
        by_cases h2 : x.length < y.length
        · rw [pick_lt h2]; omega
        · rw [pick_le (by omega)]; exact h)
/-- The best of what one begins, taken if it is longer, is the best of all. -/
theorem bestL_step (xs : List (List Nat)) (b x : List Nat) : bestL b (x :: xs) = pick b (bestL x xs) := by
  have h1 : bestL b (x :: xs) = bestL (pick b x) xs := rfl
  rw [h1]
  by_cases h : b.length < x.length
  · rw [pick_lt h, pick_lt (Nat.lt_of_lt_of_le h (bestL_len xs x))]
  · rw [pick_le (by omega)]
    exact bestL_over xs b x (by omega)
theorem tails_all (fits : List Nat → Nat → Bool) (n : Nat) (P : List Nat → Prop) (hstep : ∀ b j, P b → j < n → (∀ k, k ∈ b → k < j) → fits b j = true → P (b ++ [j])) : ∀ r b, r ≤ n → P b → (∀ k, k ∈ b → k < n - r) → ∀ x, x ∈ tailsL fits n r b → P x
  | 0, _, _, _, _, _, h => by simp only [tailsL, List.not_mem_nil] at h
  | r + 1, b, hr, hP, hb, x, h => by
    simp only [tailsL, List.mem_append] at h
    rcases h with h | h
    · by_cases hf : fits b (n - (r + 1)) = true
      · rw [if_pos hf] at h
        have hP' := hstep b (n - (r + 1)) hP (by omega) hb hf
        rcases List.mem_cons.1 h with h | h
        · rw [h]; exact hP'
        · refine tails_all fits n P hstep r _ (by omega) hP' (fun k hk => ?_) x h
          rcases List.mem_append.1 hk with hk | hk
          · have := hb k hk; omega
          · have := List.mem_singleton.1 hk; omega
      · rw [if_neg hf] at h
        exact absurd h List.not_mem_nil
    · exact tails_all fits n P hstep r b (by omega) hP (fun k hk => by have := hb k hk; omega) x h
/-- The numbers below k that are so, as a list. -/
noncomputable def filt (M : Nat → Prop) : Nat → List Nat
  | 0 => []
  | k + 1 => filt M k ++ if M k then [k] else []
theorem filt_len (M : Nat → Prop) : ∀ k, (filt M k).length = cnt M k
  | 0 => rfl
  | k + 1 => by
    simp only [filt, cnt, List.length_append, filt_len M k]
    split <;> rfl
theorem filt_mem (M : Nat → Prop) (i : Nat) : ∀ k, i ∈ filt M k ↔ i < k ∧ M i
  | 0 => by simp [filt]
  | k + 1 => by
    simp only [filt, List.mem_append, filt_mem M i k]
    by_cases h : M k
    · rw [if_pos h, List.mem_singleton]
      exact ⟨fun h1 => by rcases h1 with h1 | h1; exact ⟨by omega, h1.2⟩; rw [h1]; exact ⟨by omega, h⟩, fun h1 => by
        by_cases e : i = k
        · exact .inr e
        · exact .inl ⟨by omega, h1.2⟩⟩
    · rw [if_neg h]
      exact ⟨fun h1 => by rcases h1 with h1 | h1; exact ⟨by omega, h1.2⟩; exact absurd h1 List.not_mem_nil, fun h1 => .inl ⟨by
        by_cases e : i = k
        · rw [e] at h1; exact absurd h1.2 h
        · omega, h1.2⟩⟩
theorem filt_tails (fits : List Nat → Nat → Bool) (n : Nat) (M : Nat → Prop) (hM : ∀ j, j < n → M j → fits (filt M j) j = true) : ∀ r, r ≤ n → filt M n = filt M (n - r) ∨ filt M n ∈ tailsL fits n r (filt M (n - r))
  | 0, _ => .inl rfl
  | r + 1, hr => by
    have ih := filt_tails fits n M hM r (by omega)
    rw [show n - r = (n - (r + 1)) + 1 by omega] at ih
    simp only [filt] at ih
    simp only [tailsL, List.mem_append]
    by_cases h : M (n - (r + 1))
    · rw [if_pos h] at ih
      rw [if_pos (hM _ (by omega) h)]
      exact .inr (.inl (List.mem_cons.2 ih))
    · rw [if_neg h, List.append_nil] at ih
      exact ih.imp_right .inr

/-- The first of the longest lists is a greatest day's list. -/
theorem bestL_most (f : Nat → W2) (n : Nat) (fits : List Nat → Nat → Bool) (hf : ∀ b j, j < n → (∀ k, k ∈ b → k < j) → (fits b j = true ↔ ∀ k, k ∈ b → (f k).s ≠ (f j).s ∧ (f k).m ≠ (f j).m)) :
    Day f n (fun i => i ∈ bestL [] (tailsL fits n n [])) ∧ cnt (fun i => i ∈ bestL [] (tailsL fits n n [])) n = (bestL [] (tailsL fits n n [])).length ∧ (∀ k, k ∈ bestL [] (tailsL fits n n []) → k < n) ∧
    ∀ M', Day f n M' → cnt M' n ≤ (bestL [] (tailsL fits n n [])).length := by
  have h0 : ∀ x, x = [] ∨ x ∈ tailsL fits n n [] → Day f n (fun i => i ∈ x) ∧ cnt (fun i => i ∈ x) n = x.length ∧ ∀ k, k ∈ x → k < n := by
    have hnil : Day f n (fun i => i ∈ ([] : List Nat)) ∧ cnt (fun i => i ∈ ([] : List Nat)) n = ([] : List Nat).length ∧ ∀ k, k ∈ ([] : List Nat) → k < n :=
      ⟨fun i k _ _ h => absurd h List.not_mem_nil, cnt_none fun i _ => List.not_mem_nil, fun k h => absurd h List.not_mem_nil⟩
    intro x hx
    rcases hx with hx | hx
    · rw [hx]; exact hnil
    · refine tails_all fits n (fun x => Day f n (fun i => i ∈ x) ∧ cnt (fun i => i ∈ x) n = x.length ∧ ∀ k, k ∈ x → k < n) (fun b j hb hj hlt hfit => ⟨fun i k hi hk a c hne => ?_, ?_, fun k hk => ?_⟩) n [] (Nat.le_refl _) hnil (fun k h => absurd h List.not_mem_nil) x hx
      · have hc := (hf b j hj hlt).1 hfit
        rcases List.mem_append.1 a with a | a <;> rcases List.mem_append.1 c with c | c
        · exact hb.1 i k hi hk a c hne
        · rw [List.mem_singleton.1 c]; exact hc i a
        · rw [List.mem_singleton.1 a]
          have := hc k c
          exact ⟨fun h => this.1 h.symm, fun h => this.2 h.symm⟩
        · exact absurd ((List.mem_singleton.1 a).trans (List.mem_singleton.1 c).symm) hne
      · rw [cnt_more (p := fun i => i ∈ b) (v := j) hj (fun h => by have := hlt j h; omega) fun i _ => by rw [List.mem_append, List.mem_singleton], hb.2.1, List.length_append]
        rfl
      · rcases List.mem_append.1 hk with hk | hk
        · exact hb.2.2 k hk
        · rw [List.mem_singleton.1 hk]; exact hj
  have h1 := h0 _ (bestL_mem (tailsL fits n n []) [])
  refine ⟨h1.1, h1.2.1, h1.2.2, fun M' hM' => ?_⟩
  have h2 := filt_tails fits n M' (fun j hj hj' => (hf _ j hj fun k hk => ((filt_mem M' k j).1 hk).1).2 fun k hk => by
    have := (filt_mem M' k j).1 hk
    exact hM' k j (by omega) hj this.2 hj' (by omega)) n (Nat.le_refl _)
  rw [Nat.sub_self, filt] at h2
  rw [← filt_len M' n]
  rcases h2 with h2 | h2
  · rw [h2]; exact Nat.zero_le _
  · exact bestL_max _ _ _ h2

end Go.Proofs.YtbjgbgchagfokaaGreat

namespace Go.Proofs.YtbjgbgchagfokaaGreat
open Classical

/-- The first one with the greatest key. -/
def pickK (key : List Nat → Int) (b x : List Nat) : List Nat := if key b < key x then x else b
def bestK (key : List Nat → Int) (b : List Nat) : List (List Nat) → List Nat
  | [] => b
  | x :: xs => bestK key (pickK key b x) xs
theorem pickK_len (key : List Nat → Int) (b x : List Nat) : key b ≤ key (pickK key b x) ∧ key x ≤ key (pickK key b x) := by
  unfold pickK
  split <;> omega
theorem bestK_len (key : List Nat → Int) : ∀ (xs : List (List Nat)) (b : List Nat), key b ≤ key (bestK key b xs)
  | [], _ => Int.le_refl _
  | x :: xs, b => Int.le_trans (pickK_len key b x).1 (bestK_len key xs (pickK key b x))
theorem bestK_max (key : List Nat → Int) : ∀ (xs : List (List Nat)) (b y : List Nat), y ∈ xs → key y ≤ key (bestK key b xs)
  | x :: xs, b, y, h => by
    rcases List.mem_cons.1 h with h | h
    · subst h
      exact Int.le_trans (pickK_len key b y).2 (bestK_len key xs (pickK key b y))
    · exact bestK_max key xs (pickK key b x) y h
theorem bestK_mem (key : List Nat → Int) : ∀ (xs : List (List Nat)) (b : List Nat), bestK key b xs = b ∨ bestK key b xs ∈ xs
  | [], _ => .inl rfl
  | x :: xs, b => by
    have h1 : bestK key b (x :: xs) = bestK key (pickK key b x) xs := rfl
    rw [h1]
    by_cases h : key b < key x
    · rw [show pickK key b x = x from if_pos h]
      rcases bestK_mem key xs x with e | e
      · rw [e]; exact .inr List.mem_cons_self
      · exact .inr (List.mem_cons_of_mem _ e)
    · rw [show pickK key b x = b from if_neg h]
      exact (bestK_mem key xs b).imp_right (List.mem_cons_of_mem _)

/-- Shops in a list. -/
def InL (l : List Nat) (r : Int) : Prop := ∃ x : Nat, x ∈ l ∧ r = (x : Int)
theorem inL_nat (l : List Nat) (x : Nat) : InL l (x : Int) ↔ x ∈ l := ⟨fun ⟨y, h, e⟩ => by rw [show x = y by omega]; exact h, fun h => ⟨x, h, rfl⟩⟩
/-- By how many the moulds that these shops want are fewer. -/
noncomputable def tooFewK (f : Nat → W2) (n T : Nat) (l : List Nat) : Int := (l.length : Int) - (cnt (WantM f n (InL l)) T : Int)

section
variable {f : Nat → W2} {n S T : Nat} (hS : ∀ i, i < n → 0 ≤ (f i).s ∧ (f i).s < S) (hT : ∀ i, i < n → 0 ≤ (f i).m ∧ (f i).m < T)
include hS hT
omit hS hT in
/-- Shops with wants that are not of some, and the moulds that these want, are a cover. -/
theorem rest_cover (A : Int → Prop) (hA : ∀ x : Nat, x < S → A x → WantS f n x) :
    IsCover f n (fun r => (∃ i, i < n ∧ (f i).s = r) ∧ ¬ A r) (fun y => ∃ i, i < n ∧ A (f i).s ∧ (f i).m = y) ∧
    cnt (fun x : Nat => (∃ i, i < n ∧ (f i).s = (x : Int)) ∧ ¬ A (x : Int)) S + cnt (fun x => A (x : Int)) S = cnt (WantS f n) S := by
  refine ⟨fun i hi => ?_, ?_⟩
  · by_cases h : A (f i).s
    · exact .inr ⟨i, hi, h, rfl⟩
    · exact .inl ⟨⟨i, hi, rfl⟩, h⟩
  · have h5 := cnt_split (WantS f n) (fun x => A (x : Int)) S
    have h6 : cnt (fun x => WantS f n x ∧ A (x : Int)) S = cnt (fun x => A (x : Int)) S := cnt_congr fun x hx => ⟨fun h => h.2, fun h => ⟨hA x hx h, h⟩⟩
    have h7 : cnt (fun x : Nat => (∃ i, i < n ∧ (f i).s = (x : Int)) ∧ ¬ A (x : Int)) S = cnt (fun x => WantS f n x ∧ ¬ A (x : Int)) S := rfl
    omega
/-- The list that is found has wants only, and with it a greatest day's list has as many wants as there are shops with wants. -/
theorem short_most (fits : List Nat → Nat → Bool) (hf : ∀ b j, j < S → (fits b j = true ↔ WantS f n j)) {M : Nat → Prop} (hD : Day f n M) (hmax : ∀ M', Day f n M' → cnt M' n ≤ cnt M n) :
    (∀ x, x ∈ bestK (tooFewK f n T) [] (tailsL fits S S []) → x < S ∧ WantS f n x) ∧ cnt (fun x => x ∈ bestK (tooFewK f n T) [] (tailsL fits S S [])) S = (bestK (tooFewK f n T) [] (tailsL fits S S [])).length ∧
    (cnt M n : Int) + tooFewK f n T (bestK (tooFewK f n T) [] (tailsL fits S S [])) = cnt (WantS f n) S := by
  have h0 : ∀ l, l = [] ∨ l ∈ tailsL fits S S [] → (∀ x, x ∈ l → x < S ∧ WantS f n x) ∧ cnt (fun x => x ∈ l) S = l.length := by
    have hnil : (∀ x, x ∈ ([] : List Nat) → x < S ∧ WantS f n x) ∧ cnt (fun x => x ∈ ([] : List Nat)) S = ([] : List Nat).length :=
      ⟨fun x h => absurd h List.not_mem_nil, cnt_none fun i _ => List.not_mem_nil⟩
    intro l hl
    rcases hl with hl | hl
    · rw [hl]; exact hnil
    · refine tails_all fits S (fun l => (∀ x, x ∈ l → x < S ∧ WantS f n x) ∧ cnt (fun x => x ∈ l) S = l.length) (fun b j hb hj hlt hfit => ⟨fun x hx => ?_, ?_⟩) S [] (Nat.le_refl _) hnil (fun k h => absurd h List.not_mem_nil) l hl
      · rcases List.mem_append.1 hx with hx | hx
        · exact hb.1 x hx
        · rw [List.mem_singleton.1 hx]; exact ⟨hj, (hf b j hj).1 hfit⟩
      · rw [cnt_more (p := fun i => i ∈ b) (v := j) hj (fun h => by have := hlt j h; omega) fun i _ => by rw [List.mem_append, List.mem_singleton], hb.2, List.length_append]
        rfl
  have h1 := h0 _ (bestK_mem (tooFewK f n T) (tailsL fits S S []) [])
  refine ⟨h1.1, h1.2, ?_⟩
  have hin : ∀ l : List Nat, cnt (fun x => InL l (x : Int)) S = cnt (fun x => x ∈ l) S := fun l => cnt_congr fun x _ => inL_nat l x
  have h2 := list_most hS hT hD (InL (bestK (tooFewK f n T) [] (tailsL fits S S []))) fun x _ h => (h1.1 x ((inL_nat _ x).1 h)).2
  rw [hin, h1.2] at h2
  obtain ⟨A, hA, h3⟩ := list_least hS hT hD hmax
  have h4 := filt_tails fits S (fun x => A (x : Int)) (fun j hj hAj => (hf _ j hj).2 (hA j hj hAj)) S (Nat.le_refl _)
  rw [Nat.sub_self, filt] at h4
  have h5 : tooFewK f n T (filt (fun x => A (x : Int)) S) ≤ tooFewK f n T (bestK (tooFewK f n T) [] (tailsL fits S S [])) := by
    rcases h4 with h4 | h4
    · rw [h4]; exact bestK_len _ _ _
    · exact bestK_max _ _ _ _ h4
  have h6 : cnt (WantM f n (InL (filt (fun x => A (x : Int)) S))) T ≤ cnt (WantM f n A) T := cnt_mono fun y _ ⟨i, hi, ⟨x, hx, e⟩, e2⟩ => ⟨i, hi, by rw [e]; exact ((filt_mem _ x S).1 hx).2, e2⟩
  have h7 : tooFewK f n T (filt (fun x => A (x : Int)) S) = (cnt (fun x => A (x : Int)) S : Int) - (cnt (WantM f n (InL (filt (fun x => A (x : Int)) S))) T : Int) := by unfold tooFewK; rw [filt_len]
  have h8 : tooFewK f n T (bestK (tooFewK f n T) [] (tailsL fits S S [])) = ((bestK (tooFewK f n T) [] (tailsL fits S S [])).length : Int) - (cnt (WantM f n (InL (bestK (tooFewK f n T) [] (tailsL fits S S [])))) T : Int) := rfl
  omega
end

/-- All wants, by their days. -/
theorem days_full (d : Nat → Nat) (D : Nat) : ∀ n, (∀ i, i < n → d i < D) → n = sumN (fun a => cnt (fun i => d i = a) n) D
  | 0, _ => by
    have : (fun a => cnt (fun i => d i = a) 0) = fun _ => 0 := rfl
    rw [this, sumN_zero]
  | n + 1, h => by
    have ih := days_full d D n fun i hi => h i (by omega)
    have h1 : (fun a => cnt (fun i => d i = a) (n + 1)) = fun a => cnt (fun i => d i = a) n + (if d n = a then 1 else 0) := funext fun a => by
      simp only [cnt]
      by_cases e : d n = a <;> simp only [e, if_true, if_false]
    have h2 : ∀ E, sumN (fun a => if d n = a then 1 else 0) E = if d n < E then 1 else 0 := fun E => by
      induction E with
      | zero => rfl
      | succ E ih =>
        simp only [sumN, ih]
        by_cases e : d n = E
        · rw [if_pos e, if_neg (by omega), if_pos (by omega)]
        · by_cases e2 : d n < E
          · rw [if_neg e, if_pos e2, if_pos (by omega)]
          · rw [if_neg e, if_neg e2, if_neg (by omega)]
    have h3 := h2 D
    rw [if_pos (h n (by omega))] at h3
    have h4 : sumN (fun a => cnt (fun i => d i = a) (n + 1)) D = sumN (fun a => cnt (fun i => d i = a) n) D + sumN (fun a => if d n = a then 1 else 0) D := by
      rw [h1, sumN_add]
    omega
/-- With so many different days, and no more wants on each, there are no more wants than both multiplied. -/
theorem days_least (n : Nat) (d : Nat → Nat) (m : Nat) (hm : ∀ a, cnt (fun i => d i = a) n ≤ m) : ∀ D, sumN (fun a => cnt (fun i => d i = a) n) D ≤ m * cnt (Used n d) D
  | 0 => Nat.zero_le _
  | D + 1 => by
    have ih := days_least n d m hm D
    simp only [sumN, cnt]
    by_cases h : Used n d D
    · rw [if_pos h, Nat.mul_add, Nat.mul_one]
      have := hm D
      omega
    · rw [if_neg h, Nat.add_zero, cnt_none fun i hi e => h ⟨i, hi, e⟩]
      exact ih

end Go.Proofs.YtbjgbgchagfokaaGreat

namespace Go.Proofs.YtbjgbgchagfokaaGreat
open Classical

/-- No load is greater. -/
def Load (f : Nat → W2) (n D : Nat) : Prop := (∀ x, many (fun i => (f i).s) x n ≤ D) ∧ ∀ x, many (fun i => (f i).m) x n ≤ D
/-- The greatest load. -/
def IsGreatest (f : Nat → W2) (n D : Nat) : Prop := ∀ E, Load f n E ↔ D ≤ E
theorem IsGreatest.one {f : Nat → W2} {n D D' : Nat} (h : IsGreatest f n D) (h' : IsGreatest f n D') : D = D' := by
  have h1 := (h D').1 ((h' D').2 (Nat.le_refl _))
  have h2 := (h' D).1 ((h D).2 (Nat.le_refl _))
  omega
theorem load_le {f : Nat → W2} {n D E : Nat} (h : Load f n D) (hE : D ≤ E) : Load f n E := ⟨fun x => Nat.le_trans (h.1 x) hE, fun x => Nat.le_trans (h.2 x) hE⟩
theorem load_right {f : Nat → W2} {n D : Nat} {d : Nat → Nat} (hR : Right f n D d) : Load f n (cnt (Used n d) D) := ⟨load_s hR, load_m hR⟩
theorem greatest_right {f : Nat → W2} {n G D : Nat} {d : Nat → Nat} (h : IsGreatest f n G) (hR : Right f n D d) : G ≤ cnt (Used n d) D := (h _).1 (load_right hR)
theorem greatest_days {f : Nat → W2} {n G : Nat} (h : IsGreatest f n G) : ∃ d, Right f n G d :=
  have h1 := (h G).2 (Nat.le_refl _)
  days_enough f G n h1.1 h1.2
/-- Days with numbers below the greatest load have all of these. -/
theorem greatest_used {f : Nat → W2} {n G : Nat} {d : Nat → Nat} (h : IsGreatest f n G) (hR : Right f n G d) : cnt (Used n d) G = G := by
  have h1 := greatest_right h hR
  have h2 := cnt_atmost (Used n d) G
  omega
/-- With one more want the greatest load is no less, and at most one more. -/
theorem greatest_more {f : Nat → W2} {n D D' : Nat} (h : IsGreatest f n D) (h' : IsGreatest f (n + 1) D') : D ≤ D' ∧ D' ≤ D + 1 := by
  have h1 := (h' D').2 (Nat.le_refl _)
  have h2 := (h D).2 (Nat.le_refl _)
  refine ⟨(h D').1 ⟨fun x => Nat.le_trans (many_mono _ x (Nat.le_succ n)) (h1.1 x), fun x => Nat.le_trans (many_mono _ x (Nat.le_succ n)) (h1.2 x)⟩, (h' (D + 1)).1 ⟨fun x => ?_, fun x => ?_⟩⟩
  · have := h2.1 x
    simp only [many]
    split <;> omega
  · have := h2.2 x
    simp only [many]
    split <;> omega

/-- Shops and moulds exchanged. -/
def turnW (f : Nat → W2) (i : Nat) : W2 := ⟨(f i).m, (f i).s⟩
theorem turn_right {f : Nat → W2} {n D : Nat} {d : Nat → Nat} : Right (turnW f) n D d ↔ Right f n D d :=
  ⟨fun h => ⟨h.1, fun i k hi hk hne e => (h.2 i k hi hk hne e).symm⟩, fun h => ⟨h.1, fun i k hi hk hne e => (h.2 i k hi hk hne e).symm⟩⟩
theorem turn_day {f : Nat → W2} {n : Nat} {M : Nat → Prop} : Day (turnW f) n M ↔ Day f n M :=
  ⟨fun h i k hi hk a b hne => (h i k hi hk a b hne).symm, fun h i k hi hk a b hne => (h i k hi hk a b hne).symm⟩
theorem turn_load {f : Nat → W2} {n D : Nat} : Load (turnW f) n D ↔ Load f n D := ⟨fun h => ⟨h.2, h.1⟩, fun h => ⟨h.2, h.1⟩⟩
theorem turn_firsts {f : Nat → W2} {n D k : Nat} {p l : Nat → Nat} : Firsts (turnW f) n D k p l ↔ Firsts f n D k p l :=
  ⟨fun h => ⟨turn_right.1 h.right, h.begins, fun d hd => h.first d (turn_right.2 hd)⟩, fun h => ⟨turn_right.2 h.right, h.begins, fun d hd => h.first d (turn_right.1 hd)⟩⟩

/-- Two books taken together. -/
def joinW (f : Nat → W2) (n : Nat) (g : Nat → W2) (S T : Int) (i : Nat) : W2 := if i < n then f i else ⟨(g (i - n)).s + S, (g (i - n)).m + T⟩
theorem join_lo {f : Nat → W2} {n : Nat} {g : Nat → W2} {S T : Int} {i : Nat} (h : i < n) : joinW f n g S T i = f i := if_pos h
theorem join_hi {f : Nat → W2} {n : Nat} {g : Nat → W2} {S T : Int} (i : Nat) : joinW f n g S T (n + i) = ⟨(g i).s + S, (g i).m + T⟩ := by
  unfold joinW
  rw [if_neg (by omega), Nat.add_sub_cancel_left]
theorem cnt_add (p : Nat → Prop) (a : Nat) : ∀ b, cnt p (a + b) = cnt p a + cnt (fun i => p (a + i)) b
  | 0 => rfl
  | b + 1 => by
    have := cnt_add p a b
    show cnt p (a + b) + (if p (a + b) then 1 else 0) = cnt p a + (cnt (fun i => p (a + i)) b + if p (a + b) then 1 else 0)
    omega

section
variable {f g : Nat → W2} {n m : Nat} {S T : Int} (hS : ∀ i, i < n → 0 ≤ (f i).s ∧ (f i).s < S) (hT : ∀ i, i < n → 0 ≤ (f i).m ∧ (f i).m < T) (hg : ∀ i, i < m → 0 ≤ (g i).s ∧ 0 ≤ (g i).m)
include hS hT hg
/-- The best lists are added. -/
theorem list_apart {M N O : Nat → Prop} (hM : Day f n M) (hN : Day g m N) (hO : Day (joinW f n g S T) (n + m) O) (xM : ∀ M', Day f n M' → cnt M' n ≤ cnt M n) (xN : ∀ N', Day g m N' → cnt N' m ≤ cnt N m)
    (xO : ∀ O', Day (joinW f n g S T) (n + m) O' → cnt O' (n + m) ≤ cnt O (n + m)) : cnt O (n + m) = cnt M n + cnt N m := by
  have h1 : Day f n O := fun i k hi hk a b hne => by
    have := hO i k (by omega) (by omega) a b hne
    rwa [join_lo hi, join_lo hk] at this
  have h2 : Day g m fun i => O (n + i) := fun i k hi hk a b hne => by
    have := hO (n + i) (n + k) (by omega) (by omega) a b (by omega)
    rw [join_hi, join_hi] at this
    exact ⟨fun e => this.1 (by show (g i).s + S = (g k).s + S; rw [e]), fun e => this.2 (by show (g i).m + T = (g k).m + T; rw [e])⟩
  have h3 := xM _ h1
  have h4 := xN _ h2
  have h5 : Day (joinW f n g S T) (n + m) fun i => (i < n ∧ M i) ∨ (n ≤ i ∧ N (i - n)) := fun i k hi hk a b hne => by
    by_cases c1 : i < n <;> by_cases c2 : k < n
    · rw [join_lo c1, join_lo c2]
      exact hM i k c1 c2 (by rcases a with a | a; exact a.2; omega) (by rcases b with b | b; exact b.2; omega) hne
    · obtain ⟨k', rfl⟩ : ∃ k', k = n + k' := ⟨k - n, by omega⟩
      rw [join_lo c1, join_hi]
      have u1 := hS i c1
      have u2 := hT i c1
      have u3 := hg k' (by omega)
      exact ⟨by show (f i).s ≠ (g k').s + S; omega, by show (f i).m ≠ (g k').m + T; omega⟩
    · obtain ⟨i', rfl⟩ : ∃ i', i = n + i' := ⟨i - n, by omega⟩
      rw [join_lo c2, join_hi]
      have u1 := hS k c2
      have u2 := hT k c2
      have u3 := hg i' (by omega)
      exact ⟨by show (g i').s + S ≠ (f k).s; omega, by show (g i').m + T ≠ (f k).m; omega⟩
    · obtain ⟨i', rfl⟩ : ∃ i', i = n + i' := ⟨i - n, by omega⟩
      obtain ⟨k', rfl⟩ : ∃ k', k = n + k' := ⟨k - n, by omega⟩
      rw [join_hi, join_hi]
      have := hN i' k' (by omega) (by omega) (by rcases a with a | a; omega; have := a.2; rwa [Nat.add_sub_cancel_left] at this) (by rcases b with b | b; omega; have := b.2; rwa [Nat.add_sub_cancel_left] at this) (by omega)
      exact ⟨by show (g i').s + S ≠ (g k').s + S; have := this.1; omega, by show (g i').m + T ≠ (g k').m + T; have := this.2; omega⟩
  have h6 := xO _ h5
  rw [cnt_add, cnt_add] at h6
  rw [cnt_add]
  have h7 : cnt (fun i => (i < n ∧ M i) ∨ (n ≤ i ∧ N (i - n))) n = cnt M n := cnt_congr fun i hi => ⟨fun a => by rcases a with a | a; exact a.2; omega, fun a => .inl ⟨hi, a⟩⟩
  have h8 : cnt (fun i => (n + i < n ∧ M (n + i)) ∨ (n ≤ n + i ∧ N (n + i - n))) m = cnt N m := cnt_congr fun i _ => by
    rw [Nat.add_sub_cancel_left]
    exact ⟨fun a => by rcases a with a | a; omega; exact a.2, fun a => .inr ⟨by omega, a⟩⟩
  omega
/-- The greatest load is the greater one of both. -/
theorem load_apart (D : Nat) : Load (joinW f n g S T) (n + m) D ↔ Load f n D ∧ Load g m D := by
  have e1 : ∀ x, many (fun i => (joinW f n g S T i).s) x (n + m) = cnt (fun i => (f i).s = x) n + cnt (fun i => (g i).s = x - S) m := fun x => by
    rw [many_cnt, cnt_add]
    congr 1
    · exact cnt_congr fun i hi => by rw [join_lo hi]
    · exact cnt_congr fun i _ => by rw [join_hi]; constructor <;> intro h <;> have h' : (g i).s + S = x := (by first | exact h | omega) <;> omega
  have e2 : ∀ x, many (fun i => (joinW f n g S T i).m) x (n + m) = cnt (fun i => (f i).m = x) n + cnt (fun i => (g i).m = x - T) m := fun x => by
    rw [many_cnt, cnt_add]
    congr 1
    · exact cnt_congr fun i hi => by rw [join_lo hi]
    · exact cnt_congr fun i _ => by rw [join_hi]; constructor <;> intro h <;> have h' : (g i).m + T = x := (by first | exact h | omega) <;> omega
  constructor
  · intro h
    refine ⟨⟨fun x => ?_, fun x => ?_⟩, ⟨fun x => ?_, fun x => ?_⟩⟩
    · have := h.1 x; rw [e1] at this; rw [many_cnt]; omega
    · have := h.2 x; rw [e2] at this; rw [many_cnt]; omega
    · have := h.1 (x + S); rw [e1, Int.add_sub_cancel] at this; rw [many_cnt]; omega
    · have := h.2 (x + T); rw [e2, Int.add_sub_cancel] at this; rw [many_cnt]; omega
  · intro h
    refine ⟨fun x => ?_, fun x => ?_⟩
    · rw [e1]
      by_cases c : x < S
      · rw [cnt_none (p := fun i => (g i).s = x - S) fun i hi e => by have := hg i hi; omega]
        have := h.1.1 x
        rw [many_cnt] at this
        omega
      · rw [cnt_none (p := fun i => (f i).s = x) fun i hi e => by have := hS i hi; omega]
        have := h.2.1 (x - S)
        rw [many_cnt] at this
        omega
    · rw [e2]
      by_cases c : x < T
      · rw [cnt_none (p := fun i => (g i).m = x - T) fun i hi e => by have := hg i hi; omega]
        have := h.1.2 x
        rw [many_cnt] at this
        omega
      · rw [cnt_none (p := fun i => (f i).m = x) fun i hi e => by have := hT i hi; omega]
        have := h.2.2 (x - T)
        rw [many_cnt] at this
        omega
theorem greatest_apart {D E : Nat} (hD : IsGreatest f n D) (hE : IsGreatest g m E) : IsGreatest (joinW f n g S T) (n + m) (max D E) := fun F => by
  rw [load_apart hS hT hg, hD F, hE F]
  omega
end

end Go.Proofs.YtbjgbgchagfokaaGreat

namespace Go.Proofs.YtbjgbgchagfokaaGreat
open Classical

/-- Nothing more is reached. -/
def Closed (f : Nat → W2) (n : Nat) (P C : Nat → Prop) : Prop := ∀ i k, C i → k < n → P k → Clashes f i k → C k
theorem closed_chain {f : Nat → W2} {n w : Nat} {P C : Nat → Prop} (hw : C w) (hc : Closed f n P C) {i : Nat} (h : Chn f n P w i) : C i := by
  induction h with
  | self => exact hw
  | next i k _ hk hP hcl ih => exact hc i k ih hk hP hcl
theorem cnt_less {p q : Nat → Prop} {v : Nat} : ∀ {n}, v < n → ¬ p v → q v → (∀ i, i < n → p i → q i) → cnt p n + 1 ≤ cnt q n
  | 0, h, _, _, _ => by omega
  | n + 1, hv, hp, hq, h => by
    have hn := h n (by omega)
    rw [cnt, cnt]
    by_cases e : v = n
    · subst e
      rw [if_neg hp, if_pos hq]
      have := cnt_mono (p := p) (q := q) (n := v) fun i hi => h i (by omega)
      omega
    · have := cnt_less (p := p) (q := q) (v := v) (n := n) (by omega) hp hq fun i hi => h i (by omega)
      by_cases c : p n
      · rw [if_pos c, if_pos (hn c)]; omega
      · rw [if_neg c]; omega
/-- What is reached behind r rounds. -/
structure Round (f : Nat → W2) (n : Nat) (P : Nat → Prop) (w r : Nat) (C : Nat → Prop) : Prop where
  start : C w
  only : ∀ i, C i → Chn f n P w i
  more : Closed f n P C ∨ r + 1 ≤ cnt C n
theorem round_start {f : Nat → W2} {n w : Nat} {P : Nat → Prop} (hw : w < n) : Round f n P w 0 fun i => i = w :=
  ⟨rfl, fun i e => by rw [e]; exact .self, .inr (by
    have := cnt_more (p := fun _ => False) (q := fun i => i = w) (v := w) (n := n) hw (fun h => h) fun i _ => ⟨.inr, fun h => by rcases h with h | h; exact h.elim; exact h⟩
    omega)⟩
theorem Round.next {f : Nat → W2} {n w r : Nat} {P C C' : Nat → Prop} (h : Round f n P w r C) (hin : ∀ i, C i → C' i) (honly : ∀ i, C' i → Chn f n P w i) (hstep : ∀ i k, C i → k < n → P k → Clashes f i k → C' k) : Round f n P w (r + 1) C' := by
  refine ⟨hin w h.start, honly, ?_⟩
  by_cases hc : Closed f n P C
  · exact .inl fun i k hi hk hPk hcl => hin k (hc i k (closed_chain h.start hc (honly i hi)) hk hPk hcl)
  · have h1 := h.more.resolve_left hc
    have h2 : ∃ i k, C i ∧ k < n ∧ P k ∧ Clashes f i k ∧ ¬ C k := by
      by_cases e : ∃ i k, C i ∧ k < n ∧ P k ∧ Clashes f i k ∧ ¬ C k
      · exact e
      · exact absurd (fun i k hi hk hPk hcl => by
          by_cases h3 : C k
          · exact h3
          · exact absurd ⟨i, k, hi, hk, hPk, hcl, h3⟩ e) hc
    obtain ⟨i, k, hi, hk, hPk, hcl, hno⟩ := h2
    have := cnt_less (p := C) (q := C') (n := n) hk hno (hstep i k hi hk hPk hcl) fun i _ => hin i
    exact .inr (by omega)
/-- As many rounds as wants are enough. -/
theorem Round.all {f : Nat → W2} {n w : Nat} {P C : Nat → Prop} (h : Round f n P w n C) (i : Nat) : C i ↔ Chn f n P w i :=
  ⟨h.only i, fun hi => by
    have hc : Closed f n P C := by
      rcases h.more with h1 | h1
      · exact h1
      · have := cnt_atmost C n; omega
    exact closed_chain h.start hc hi⟩

/-- One after another: all that clash with those that are done are reached. -/
structure Queue (f : Nat → W2) (n : Nat) (P : Nat → Prop) (w : Nat) (q : List Nat) (done : Nat) (C : Nat → Prop) : Prop where
  start : C w
  only : ∀ i, C i → Chn f n P w i
  list : ∀ i, i ∈ q ↔ C i
  nodup : q.Nodup
  reached : ∀ j, j < done → ∀ i, q[j]? = some i → ∀ k, k < n → P k → Clashes f i k → C k
theorem Queue.all {f : Nat → W2} {n w : Nat} {P C : Nat → Prop} {q : List Nat} (h : Queue f n P w q q.length C) (i : Nat) : C i ↔ Chn f n P w i :=
  ⟨h.only i, fun hi => closed_chain h.start (fun i k hi hk hP hc => by
    obtain ⟨j, hj, e⟩ := List.getElem_of_mem ((h.list i).2 hi)
    exact h.reached j hj i (by rw [List.getElem?_eq_getElem hj, e]) k hk hP hc) hi⟩
theorem nodup_len : ∀ (q : List Nat) (n : Nat), q.Nodup → (∀ i, i ∈ q → i < n) → q.length = cnt (fun i => i ∈ q) n
  | [], n, _, _ => (cnt_none fun i _ => List.not_mem_nil).symm
  | x :: q, n, hd, h => by
    have h1 := List.nodup_cons.1 hd
    have ih := nodup_len q n h1.2 fun i hi => h i (List.mem_cons_of_mem _ hi)
    rw [cnt_more (p := fun i => i ∈ q) (q := fun i => i ∈ x :: q) (v := x) (h x List.mem_cons_self) h1.1 fun i _ => by rw [List.mem_cons]; exact Or.comm, ← ih]
    rfl
theorem Queue.len {f : Nat → W2} {n w done : Nat} {P C : Nat → Prop} {q : List Nat} (h : Queue f n P w q done C) (hw : w < n) (hP : P w) : q.length ≤ n := by
  rw [nodup_len q n h.nodup fun i hi => ((h.only i ((h.list i).1 hi)).in hw hP).1]
  exact cnt_atmost _ _

theorem used_le (d : Nat → Nat) (D : Nat) : ∀ n, cnt (Used n d) D ≤ n
  | 0 => by rw [cnt_none fun a _ ⟨i, hi, _⟩ => by omega]; exact Nat.le_refl _
  | n + 1 => by
    have ih := used_le d D n
    by_cases h : Used n d (d n)
    · rw [cnt_congr (q := Used n d) fun a _ => ⟨fun ⟨i, hi, e⟩ => by
        by_cases c : i = n
        · rw [c] at e; rw [← e]; exact h
        · exact ⟨i, by omega, e⟩, fun ⟨i, hi, e⟩ => ⟨i, by omega, e⟩⟩]
      omega
    · by_cases hD : d n < D
      · have hiff : ∀ a, a < D → (Used (n + 1) d a ↔ Used n d a ∨ a = d n) := fun a _ => by
          constructor
          · rintro ⟨i, hi, e⟩
            by_cases c : i = n
            · rw [c] at e; exact .inr e.symm
            · exact .inl ⟨i, by omega, e⟩
          · intro h1
            rcases h1 with ⟨i, hi, e⟩ | h1
            · exact ⟨i, by omega, e⟩
            · exact ⟨n, by omega, h1.symm⟩
        rw [cnt_more (p := Used n d) (v := d n) hD h hiff]
        omega
      · rw [cnt_congr (q := Used n d) fun a ha => ⟨fun ⟨i, hi, e⟩ => by
          by_cases c : i = n
          · rw [c] at e; omega
          · exact ⟨i, by omega, e⟩, fun ⟨i, hi, e⟩ => ⟨i, by omega, e⟩⟩]
        omega
theorem cnt_all {p : Nat → Prop} : ∀ {n}, (∀ i, i < n → p i) → cnt p n = n
  | 0, _ => rfl
  | n + 1, h => by rw [cnt, cnt_all fun i hi => h i (by omega), if_pos (h n (by omega))]
/-- Days that are tried one after another, round: as long as all are taken they are fewer than there are days. -/
theorem tried_few {n D s t : Nat} {d : Nat → Nat} (hD : n < D) (h : ∀ j, j < t → Used n d ((s + j) % D)) : t < D := by
  by_cases e : t < D
  · exact e
  · have h1 : ∀ a, a < D → Used n d a := fun a ha => by
      have hs := Nat.mod_lt s (show 0 < D by omega)
      have hdm := Nat.div_add_mod s D
      by_cases c : s % D ≤ a
      · have := h (a - s % D) (by omega)
        rwa [show s + (a - s % D) = a + D * (s / D) by omega, Nat.add_mul_mod_self_left, Nat.mod_eq_of_lt ha] at this
      · have := h (D + a - s % D) (by omega)
        rwa [show s + (D + a - s % D) = a + D * (s / D + 1) by rw [Nat.mul_add, Nat.mul_one]; omega, Nat.add_mul_mod_self_left, Nat.mod_eq_of_lt ha] at this
    have h2 := cnt_all h1
    have h3 := used_le d D n
    omega

end Go.Proofs.YtbjgbgchagfokaaGreat

namespace Go.Proofs.YtbjgbgchagfokaaGreat

/-- Can the next one have this number, by the first of those before. -/
def fitsB (f : Nat → W2) (k : Nat) (p : Nat → Nat) (v : Nat) : Nat → Bool
  | 0 => true
  | i + 1 => fitsB f k p v i && !(decide (p i = v) && (decide ((f i).s = (f k).s) || decide ((f i).m = (f k).m)))
def tryR (sub : Nat → Option (Nat → Nat)) : Nat → Nat → Option (Nat → Nat)
  | 0, _ => none
  | c + 1, v => match sub v with
    | some l => some l
    | none => tryR sub c (v + 1)
/-- The first days, with r that have none yet. -/
def firstR (f : Nat → W2) (D : Nat) : Nat → Nat → (Nat → Nat) → Option (Nat → Nat)
  | 0, _, p => some p
  | r + 1, k, p => tryR (fun v => if fitsB f k p v k then firstR f D r (k + 1) (updD p k v) else none) D 0
/-- Does one of these shops want this mould. -/
def anyB (f : Nat → W2) (l : List Nat) (y : Nat) : Nat → Bool
  | 0 => false
  | i + 1 => anyB f l y i || (l.any (fun x => decide ((f i).s = (x : Int))) && decide ((f i).m = (y : Int)))
def wantedN (f : Nat → W2) (n : Nat) (l : List Nat) : Nat → Nat
  | 0 => 0
  | y + 1 => wantedN f n l y + if anyB f l y n then 1 else 0
def tooFewI (f : Nat → W2) (n T : Nat) (l : List Nat) : Int := (l.length : Int) - (wantedN f n l T : Int)
/-- The greatest number of the first. -/
def topL (h : Nat → Nat) : Nat → Nat
  | 0 => 0
  | k + 1 => max (topL h k) (h k)
/-- The greatest load. -/
def greatestN (S T n : Nat) (f : Nat → W2) : Nat := max (topL (fun x => many (fun i => (f i).s) x n) S) (topL (fun y => many (fun i => (f i).m) y n) T)

open Classical
theorem fitsB_iff (f : Nat → W2) (k : Nat) (p : Nat → Nat) (v : Nat) : ∀ n, fitsB f k p v n = true ↔ ∀ i, i < n → p i = v → (f i).s ≠ (f k).s ∧ (f i).m ≠ (f k).m
  | 0 => ⟨fun _ i hi => by omega, fun _ => rfl⟩
  | n + 1 => by
    rw [fitsB, Bool.and_eq_true, fitsB_iff f k p v n, Bool.not_eq_true', Bool.and_eq_false_iff, Bool.or_eq_false_iff, decide_eq_false_iff_not, decide_eq_false_iff_not, decide_eq_false_iff_not]
    exact ⟨fun h i hi e => by
      by_cases c : i = n
      · rw [c] at e ⊢; exact h.2.resolve_left fun h1 => h1 e
      · exact h.1 i (by omega) e, fun h => ⟨fun i hi => h i (by omega), by
        by_cases c : p n = v
        · exact .inr (h n (by omega) c)
        · exact .inl c⟩⟩
theorem tryR_is {f : Nat → W2} {n D k : Nat} {p : Nat → Nat} (hk : k < n) (sub : Nat → Option (Nat → Nat)) (h1 : ∀ v l, v < D → sub v = some l → Firsts f n D (k + 1) (updD p k v) l) (h2 : ∀ v, v < D → sub v = none → NoneTo f n D k p v → NoneTo f n D k p (v + 1)) :
    ∀ c v, v + c = D → NoneTo f n D k p v → (∀ l, tryR sub c v = some l → Firsts f n D k p l) ∧ (tryR sub c v = none → Nones f n D k p)
  | 0, v, e, h => ⟨fun l h => absurd h (by simp [tryR]), fun _ => none_whole hk (by rwa [show D = v by omega] at h ⊢)⟩
  | c + 1, v, e, h => by
    cases hv : sub v with
    | some l =>
      have := h1 v l (by omega) hv
      simp only [tryR, hv]
      exact ⟨fun l' h3 => by rw [← Option.some.inj h3]; exact firsts_sub h this, fun h => absurd h (by simp)⟩
    | none =>
      simp only [tryR, hv]
      exact tryR_is hk sub h1 h2 c (v + 1) (by omega) (h2 v (by omega) hv h)
theorem firstR_is {f : Nat → W2} {n D : Nat} : ∀ r k p, k + r = n → Right f k D p → (∀ l, firstR f D r k p = some l → Firsts f n D k p l) ∧ (firstR f D r k p = none → Nones f n D k p)
  | 0, k, p, e, h => by
    obtain rfl : k = n := by omega
    exact ⟨fun l h1 => by rw [← Option.some.inj h1]; exact firsts_end h, fun h => absurd h (by simp [firstR])⟩
  | r + 1, k, p, e, h => by
    simp only [firstR]
    refine tryR_is (by omega) _ (fun v l hv h1 => ?_) (fun v hv h1 h2 => ?_) D 0 (by omega) (none_zero f n D k p)
    · by_cases c : fitsB f k p v k = true
      · rw [if_pos c] at h1
        exact (firstR_is r (k + 1) (updD p k v) (by omega) (right_upd h hv ((fitsB_iff f k p v k).1 c))).1 l h1
      · rw [if_neg c] at h1
        exact absurd h1 (by simp)
    · by_cases c : fitsB f k p v k = true
      · rw [if_pos c] at h1
        exact none_sub h2 ((firstR_is r (k + 1) (updD p k v) (by omega) (right_upd h hv ((fitsB_iff f k p v k).1 c))).2 h1)
      · exact none_unfit (by omega) h2 fun h3 => c ((fitsB_iff f k p v k).2 h3)
theorem anyB_iff (f : Nat → W2) (l : List Nat) (y : Nat) : ∀ n, anyB f l y n = true ↔ WantM f n (InL l) y
  | 0 => ⟨fun h => absurd h (by simp [anyB]), fun ⟨i, hi, _⟩ => by omega⟩
  | n + 1 => by
    rw [anyB, Bool.or_eq_true, anyB_iff f l y n, Bool.and_eq_true, List.any_eq_true, decide_eq_true_eq]
    constructor
    · rintro (⟨i, hi, h⟩ | ⟨⟨x, hx, e⟩, e2⟩)
      · exact ⟨i, by omega, h⟩
      · exact ⟨n, by omega, ⟨x, hx, of_decide_eq_true e⟩, e2⟩
    · rintro ⟨i, hi, ⟨x, hx, e⟩, e2⟩
      by_cases c : i = n
      · rw [c] at e e2
        exact .inr ⟨⟨x, hx, decide_eq_true e⟩, e2⟩
      · exact .inl ⟨i, by omega, ⟨x, hx, e⟩, e2⟩
theorem wantedN_cnt (f : Nat → W2) (n : Nat) (l : List Nat) : ∀ T, wantedN f n l T = cnt (WantM f n (InL l)) T
  | 0 => rfl
  | T + 1 => by
    rw [wantedN, cnt, wantedN_cnt f n l T]
    by_cases c : anyB f l T n = true
    · rw [if_pos c, if_pos ((anyB_iff f l T n).1 c)]
    · rw [if_neg c, if_neg fun h => c ((anyB_iff f l T n).2 h)]
theorem tooFewI_eq (f : Nat → W2) (n T : Nat) : tooFewI f n T = tooFewK f n T := funext fun l => by unfold tooFewI tooFewK; rw [wantedN_cnt]
theorem topL_le {h : Nat → Nat} {D : Nat} : ∀ {k}, topL h k ≤ D ↔ ∀ i, i < k → h i ≤ D
  | 0 => ⟨fun _ i hi => by omega, fun _ => Nat.zero_le _⟩
  | k + 1 => by
    rw [topL, Nat.max_le, topL_le]
    exact ⟨fun h1 i hi => by
      by_cases c : i = k
      · rw [c]; exact h1.2
      · exact h1.1 i (by omega), fun h1 => ⟨fun i hi => h1 i (by omega), h1 k (by omega)⟩⟩
theorem many_absent {g : Nat → Int} {x : Int} {n : Nat} (h : ∀ i, i < n → g i ≠ x) : many g x n = 0 := by rw [many_cnt]; exact cnt_none h
theorem greatestN_is {f : Nat → W2} {n S T : Nat} (hS : ∀ i, i < n → 0 ≤ (f i).s ∧ (f i).s < S) (hT : ∀ i, i < n → 0 ≤ (f i).m ∧ (f i).m < T) : IsGreatest f n (greatestN S T n f) := fun E => by
  unfold greatestN
  rw [Nat.max_le, topL_le, topL_le]
  constructor
  · exact fun h => ⟨fun i _ => h.1 i, fun i _ => h.2 i⟩
  · rintro ⟨h1, h2⟩
    refine ⟨fun x => ?_, fun x => ?_⟩
    · by_cases c : 0 ≤ x ∧ x < S
      · have := h1 x.toNat (by omega)
        rwa [show ((x.toNat : Nat) : Int) = x by omega] at this
      · rw [many_absent fun i hi e => c (by rw [← e]; exact hS i hi)]
        exact Nat.zero_le _
    · by_cases c : 0 ≤ x ∧ x < T
      · have := h2 x.toNat (by omega)
        rwa [show ((x.toNat : Nat) : Int) = x by omega] at this
      · rw [many_absent fun i hi e => c (by rw [← e]; exact hT i hi)]
        exact Nat.zero_le _

end Go.Proofs.YtbjgbgchagfokaaGreat

namespace Go.Proofs.YtbjgbgchagfokaaGreat
open Go Go.RowKit

/-- Wants out of a list. -/
def wantsOf (l : List (Int × Int)) (i : Nat) : W2 := let x := l.getD i (0, 0); ⟨x.1, x.2⟩
def threeW : Nat → W2 := wantsOf [(0, 0), (0, 1), (1, 0), (1, 1), (2, 1)]
def twoW : Nat → W2 := wantsOf [(0, 0), (1, 0), (2, 1), (2, 1)]
def shown (n : Nat) (l : Option (Nat → Nat)) : Option (List Nat) := l.map fun d => (List.range n).map d
def apartW (f : Nat → W2) (b : List Nat) (j : Nat) : Bool := b.all fun k => !(decide ((f k).s = (f j).s) || decide ((f k).m = (f j).m))
theorem apartW_iff (f : Nat → W2) (b : List Nat) (j : Nat) : apartW f b j = true ↔ ∀ k, k ∈ b → (f k).s ≠ (f j).s ∧ (f k).m ≠ (f j).m := by
  rw [apartW, List.all_eq_true]
  exact ⟨fun h k hk => by
    have := h k hk
    rw [Bool.not_eq_true', Bool.or_eq_false_iff, decide_eq_false_iff_not, decide_eq_false_iff_not] at this
    exact this, fun h k hk => by
    rw [Bool.not_eq_true', Bool.or_eq_false_iff, decide_eq_false_iff_not, decide_eq_false_iff_not]
    exact h k hk⟩
def wantsB (f : Nat → W2) (n : Nat) (x : Nat) : Bool := decide (0 < many (fun i => (f i).s) x n)
theorem x_great3 : greatestN 3 3 5 threeW = 3 := by kernel_rfl
theorem x_great2 : greatestN 3 2 4 twoW = 2 := by kernel_rfl
theorem x_days3 : shown 5 (firstR threeW 3 5 0 fun _ => 0) = some [0, 1, 1, 0, 2] := by kernel_rfl
theorem x_days2 : shown 4 (firstR twoW 2 4 0 fun _ => 0) = some [0, 1, 0, 1] := by kernel_rfl
theorem x_list3 : bestL [] (tailsL (apartW threeW) 5 5 []) = [0, 3] := by kernel_rfl
theorem x_short3 : bestK (tooFewI threeW 5 3) [] (tailsL (fun _ j => wantsB threeW 5 j) 3 3 []) = [0, 1, 2] := by kernel_rfl
theorem x_few3 : tooFewI threeW 5 3 [0, 1, 2] = 1 := by kernel_rfl
theorem x_few2 : tooFewI twoW 4 2 [0, 1] = 1 := by kernel_rfl

end Go.Proofs.YtbjgbgchagfokaaGreat
