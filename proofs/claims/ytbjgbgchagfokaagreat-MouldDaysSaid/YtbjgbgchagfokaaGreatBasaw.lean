/- Contracts of layer 2: newPlan with all its errors; CheckDays. -/
import Derived.Test.YtbjgbgchagfokaaGreatProg
import Derived.Test.YtbjgbgchagfokaaGreatBasaa
import Derived.Test.YtbjgbgchagfokaaGreatBasab
import Derived.Test.YtbjgbgchagfokaaGreatBasam
import Derived.Test.YtbjgbgchagfokaaGreatBasaq
import Derived.Test.YtbjgbgchagfokaaGreatBasar
import Derived.Test.YtbjgbgchagfokaaGreatBasap
import Derived.Test.YtbjgbgchagfokaaGreatBasav
namespace Go.Proofs.YtbjgbgchagfokaaGreat
open Go Go.RowKit Go.Shelf

theorem ints_congr {w : World} {a : Option Addr} {n : Nat} {g h : Nat → Int} (hi : Ints w a n g) (e : ∀ i, i < n → g i = h i) : Ints w a n h := by
  rcases hi with hi | ⟨b, off, rfl, hlt, hc⟩
  · exact .inl hi
  · exact .inr ⟨b, off, rfl, hlt, fun i hi => (hc i hi).trans (by show some (Value.int .i64 (g i)) = some (Value.int .i64 (h i)); rw [e i hi])⟩
theorem withinB_iff (lo hi : Int) (g : Nat → Int) : ∀ n, withinB lo hi g n = true ↔ ∀ i, i < n → lo ≤ g i ∧ g i ≤ hi
  | 0 => ⟨fun _ i hi => absurd hi (Nat.not_lt_zero _), fun _ => rfl⟩
  | n + 1 => by
    rw [withinB, Bool.and_eq_true, withinB_iff lo hi g n, decide_eq_true_eq]
    exact ⟨fun h i hi => by
      by_cases e : i = n
      · rw [e]; exact h.2
      · exact h.1 i (by omega), fun h => ⟨fun i hi => h i (by omega), h n (by omega)⟩⟩
theorem within_days (g : Nat → Int) (n : Nat) : withinB 0 13 g n = daysIn g n := Bool.eq_iff_iff.2 ((withinB_iff 0 13 g n).trans (daysIn_iff g n).symm)
theorem hasB_same {g h : Nat → Int} {x : Int} : ∀ {n}, (∀ i, i < n → g i = h i) → hasB g x n = hasB h x n
  | 0, _ => rfl
  | n + 1, e => by rw [hasB, hasB, e n (by omega), hasB_same fun i hi => e i (by omega)]
theorem differentN_same {g h : Nat → Int} : ∀ {n}, (∀ i, i < n → g i = h i) → differentN g n = differentN h n
  | 0, _ => rfl
  | n + 1, e => by rw [differentN, differentN, differentN_same fun i hi => e i (by omega), e n (by omega), hasB_same fun i hi => e i (by omega)]
theorem rightB_same {f : Nat → W2} {g h : Nat → Int} {n : Nat} (e : ∀ i, i < n → g i = h i) : rightB f g n = rightB f h n :=
  Bool.eq_iff_iff.2 ((rightB_iff f g n).trans (Iff.trans (by
    constructor
    · intro H i k hi hk hne hh
      exact H i k hi hk hne (by rw [e i hi, e k hk]; exact hh)
    · intro H i k hi hk hne hh
      exact H i k hi hk hne (by rw [← e i hi, ← e k hk]; exact hh)) (rightB_iff f h n).symm))
theorem natD_int {g : Nat → Int} {n : Nat} (h : daysIn g n = true) (i : Nat) (hi : i < n) : ((natD g i : Nat) : Int) = g i := by
  have := (daysIn_iff g n).1 h i hi
  unfold natD
  omega

/-- newPlan: the plan, or the error. -/
theorem newPlan_all_c (S M : Int) (a : Option Addr) (n cap : Nat) (f : Nat → W2) (da : Option Addr) (k dcap : Nat) (g : Nat → Int) (w : World) (hf : Wants w a n f) (hn : n ≤ 1048576) (hd : Ints w da k g) :
    Calls Tryz.prog 34 #[bookV S M a n cap, .slice da k dcap] w fun e w' => Below w.heap.size w w' ∧ ((daysE S M n f k g = 0 ∧ ∃ b, e = .returned (.tuple #[planV S M a n cap (bookL f n) (some ⟨b, 0, none⟩) n n, .int .i64 0]) ∧ RowIs w' b (rowA n fun i => ((natD g i : Nat) : Int)) 3 ∧ w.heap.size ≤ b) ∨ (daysE S M n f k g ≠ 0 ∧ e = .returned (.tuple #[noPlanV, .int .i64 (daysE S M n f k g)]))) := by
  by_cases hE : bookE S M n f = 0
  · by_cases hk : k = n
    · subst hk
      cases hw : withinB 0 13 g k with
      | false =>
        have hw2 : daysIn g k = false := by rw [← within_days]; exact hw
        have h3 : daysE S M k f k g = 3 := by simp [daysE, hE, hw2]
        refine (newPlan_range_c S M a k cap f da dcap g w hf hn hE hd hw).mono ?_
        rintro e w' ⟨he, hb⟩
        exact ⟨hb, .inr ⟨by rw [h3]; decide, by rw [h3]; exact he⟩⟩
      | true =>
        have hw2 : daysIn g k = true := by rw [← within_days]; exact hw
        have hg := natD_int hw2
        have hw3 : withinB 0 13 (fun i => ((natD g i : Nat) : Int)) k = true := (withinB_iff _ _ _ _).2 fun i hi => by rw [hg i hi]; exact (withinB_iff 0 13 g k).1 hw i hi
        have hR : allFree f k (natD g) k = rightB f g k := allFree_right.trans (rightB_same hg)
        refine (newPlan_c S M a k cap f da dcap (natD g) w hf hn hE (ints_congr hd fun i hi => (hg i hi).symm) hw3).mono ?_
        rintro e w' ⟨hb, ⟨h1, b, h2, h3, h4⟩ | ⟨h1, h2⟩⟩
        · rw [hR] at h1
          exact ⟨hb, .inl ⟨by simp [daysE, hE, hw2, h1], b, h2, h3, h4⟩⟩
        · rw [hR] at h1
          have h18 : daysE S M k f k g = 18 := by simp [daysE, hE, hw2, h1]
          exact ⟨hb, .inr ⟨by rw [h18]; decide, by rw [h18]; exact h2⟩⟩
    · have h15 : daysE S M n f k g = 15 := by simp [daysE, hE, hk]
      refine (newPlan_len_c S M a n cap f da k dcap w hf hn hE hk).mono ?_
      rintro e w' ⟨he, hb⟩
      exact ⟨hb, .inr ⟨by rw [h15]; decide, by rw [h15]; exact he⟩⟩
  · have h0 : daysE S M n f k g = bookE S M n f := by simp [daysE, hE]
    refine (newPlan_book_c S M a n cap f da k dcap w hf hn hE).mono ?_
    rintro e w' ⟨he, hb⟩
    exact ⟨hb, .inr ⟨by rw [h0]; exact hE, by rw [h0]; exact he⟩⟩
theorem newPlan_yes_c (S M : Int) (a : Option Addr) (n cap : Nat) (f : Nat → W2) (da : Option Addr) (k dcap : Nat) (g : Nat → Int) (w : World) (hf : Wants w a n f) (hn : n ≤ 1048576) (hd : Ints w da k g) (hE : daysE S M n f k g = 0) :
    Calls Tryz.prog 34 #[bookV S M a n cap, .slice da k dcap] w fun e w' => ∃ b, e = .returned (.tuple #[planV S M a n cap (bookL f n) (some ⟨b, 0, none⟩) n n, .int .i64 0]) ∧ RowIs w' b (rowA n fun i => ((natD g i : Nat) : Int)) 3 ∧ w.heap.size ≤ b ∧ Below w.heap.size w w' := by
  refine (newPlan_all_c S M a n cap f da k dcap g w hf hn hd).mono ?_
  rintro e w' ⟨hb, ⟨_, b, h1, h2, h3⟩ | ⟨h1, _⟩⟩
  · exact ⟨b, h1, h2, h3, hb⟩
  · exact absurd hE h1
theorem newPlan_no_c (S M : Int) (a : Option Addr) (n cap : Nat) (f : Nat → W2) (da : Option Addr) (k dcap : Nat) (g : Nat → Int) (w : World) (hf : Wants w a n f) (hn : n ≤ 1048576) (hd : Ints w da k g) (hE : daysE S M n f k g ≠ 0) :
    Calls Tryz.prog 34 #[bookV S M a n cap, .slice da k dcap] w fun e w' => e = .returned (.tuple #[noPlanV, .int .i64 (daysE S M n f k g)]) ∧ Below w.heap.size w w' := by
  refine (newPlan_all_c S M a n cap f da k dcap g w hf hn hd).mono ?_
  rintro e w' ⟨hb, ⟨h1, _⟩ | ⟨_, h1⟩⟩
  · exact absurd h1 hE
  · exact ⟨h1, hb⟩

theorem days_ok {S M : Int} {n : Nat} {f : Nat → W2} {k : Nat} {g : Nat → Int} (h : daysE S M n f k g = 0) : bookE S M n f = 0 ∧ k = n ∧ daysIn g n = true ∧ rightB f g n = true := by
  unfold daysE at h
  by_cases h1 : bookE S M n f = 0
  · rw [if_pos h1] at h
    by_cases h2 : k = n
    · subst h2
      rw [if_pos rfl] at h
      by_cases h3 : daysIn g k = true
      · rw [if_pos h3] at h
        by_cases h4 : rightB f g k = true
        · exact ⟨h1, rfl, h3, h4⟩
        · rw [if_neg h4] at h; cases h
      · rw [if_neg h3] at h; cases h
    · rw [if_neg h2] at h; cases h
  · rw [if_neg h1] at h; exact absurd h h1
theorem days_right {S M : Int} {n : Nat} {f : Nat → W2} {k : Nat} {g : Nat → Int} (h : daysE S M n f k g = 0) : Right f n 14 (natD g) := by
  obtain ⟨_, _, h3, h4⟩ := days_ok h
  exact (right_iff fun i hi => by have := (daysIn_iff g n).1 h3 i hi; omega).1 h4

theorem lst_rowA {w : World} {b n : Nat} {d : Nat → Nat} (h : RowIs w b (rowA n fun i => (d i : Int)) 3) (hn : n ≤ 1048576) : Lst w ((List.range n).map d) (some ⟨b, 0, none⟩) n := by
  refine ⟨.inr ⟨b, 0, rfl, h.lt, fun i hi => ?_⟩, by simp, by omega, fun e => by cases e⟩
  have hi' : i < n := by simpa using hi
  rw [Nat.zero_add, h.cell i, rowA_get _ _ _ hi']
  simp [List.getD, hi']

set_option maxHeartbeats 8000000 in
theorem CheckDays_yes_c (S M : Int) (a : Option Addr) (n cap : Nat) (f : Nat → W2) (da : Option Addr) (k dcap : Nat) (g : Nat → Int) (w : World) (hf : Wants w a n f) (hn : n ≤ 1048576) (hd : Ints w da k g) (hE : daysE S M n f k g = 0) :
    Calls Tryz.prog 20 #[bookV S M a n cap, .slice da k dcap] w fun e w' => e = .returned (.tuple #[.int .i64 (differentN g n : Nat), .int .i64 0]) ∧ Below w.heap.size w w' := by
  obtain ⟨W, hW⟩ : ∃ W, w.alloc (.cells #[.int .i64 S, .int .i64 M, .slice a n cap] 24) = W := ⟨_, rfl⟩
  have hB : Below w.heap.size w W := by rw [← hW]; exact Below.alloc1 (Below.refl _ _) _ (Nat.le_refl _)
  have hR : RowIs W w.heap.size #[.int .i64 S, .int .i64 M, .slice a n cap] 24 := by rw [← hW]; exact heap_new_at _ _ _ rfl
  have r0 : W.cell? ⟨w.heap.size, 0, none⟩ = some (.int .i64 S) := RowIs.cell hR 0
  have r1 : W.cell? ⟨w.heap.size, 1, none⟩ = some (.int .i64 M) := RowIs.cell hR 1
  have r2 : W.cell? ⟨w.heap.size, 2, none⟩ = some (.slice a n cap) := RowIs.cell hR 2
  have HC := Lib.hid (newPlan_yes_c S M a n cap f da k dcap g W (hf.below hB) hn (Cells.below hd hB) hE)
  have hdi : differentN g n = differentN (fun i => ((((List.range n).map (natD g)).getD i 0 : Nat) : Int)) n := differentN_same fun i hi => by
    rw [← natD_int (days_ok hE).2.2.1 i hi]
    simp [List.getD, hi]
  rw [hdi]
  have hlen : ((List.range n).map (natD g)).length = n := by simp
  clear hR hdi
  go_enter Tryz.func20, Tryz.ntmps20
  go_wp2_with fail
  refine HC.out.mono ?_
  rintro e w1 ⟨b, rfl, hrow, hbz, hb1⟩
  have hB1 := bup hB hb1
  obtain ⟨l, hl⟩ : ∃ l, bookL f n = l := ⟨_, rfl⟩
  rw [hl]
  obtain ⟨V, U, z, hN⟩ := newPlanV w1 S M a n cap l (some ⟨b, 0, none⟩) n n
  have hV := hN.made
  have hz := hN.size
  have hU := hN.stored
  simp only [putL, planL, Nat.reduceAdd] at hU
  obtain ⟨f0, f1, f2, f3, f4, f5, f6, f7, f8, f9, f10, f11, f12, f13, f14, f15⟩ := planfree hN.zero
  obtain ⟨e0, e1, e2, e3, e4, e5, e6, e7, e8, e9, e10, e11, e12, e13, e14, e15, ez⟩ := plancells hN.zero
  obtain ⟨c0, c1, c2, c3, c4, c5, c6, c7, c8, c9, c10, c11, c12, c13, c14, c15, cz⟩ := plancells hN.row
  have hB2 := bup hB1 hN.below
  have hD := different_c S M a n cap l (some ⟨b, 0, none⟩) ((List.range n).map (natD g)) n U (lst_rowA (hrow.below hN.below) hn) (by rw [hlen]; exact hn)
  rw [hlen] at hD
  have HD := Lib.hid hD
  clear hN hW r0 r1 r2 hB hb1 hB1 HC hD hrow hl
  go_wp2_with fail
  refine HD.out.mono ?_
  rintro e w2 ⟨rfl, hb2⟩
  clear hV hU f0 f1 f2 f3 f4 f5 f6 f7 f8 f9 f10 f11 f12 f13 f14 f15 e0 e1 e2 e3 e4 e5 e6 e7 e8 e9 e10 e11 e12 e13 e14 e15 ez c0 c1 c2 c3 c4 c5 c6 c7 c8 c9 c10 c11 c12 c13 c14 c15 cz
  go_wp2_with fail
  refine bodyPost_ret (v := .tuple #[.int .i64 (differentN (fun i => ((((List.range n).map (natD g)).getD i 0 : Nat) : Int)) n : Nat), .int .i64 0]) (by simp [results, Tryz.results20, go_sem]) rfl ⟨rfl, bup hB2 hb2⟩

/-- CheckDays: how many days, and the error. -/
theorem CheckDays_c (S M : Int) (a : Option Addr) (n cap : Nat) (f : Nat → W2) (da : Option Addr) (k dcap : Nat) (g : Nat → Int) (w : World) (hf : Wants w a n f) (hn : n ≤ 1048576) (hd : Ints w da k g) :
    Calls Tryz.prog 20 #[bookV S M a n cap, .slice da k dcap] w fun e w' => e = .returned (.tuple #[.int .i64 (daysN (daysE S M n f k g) g k), .int .i64 (daysE S M n f k g)]) ∧ Below w.heap.size w w' := by
  by_cases hE : daysE S M n f k g = 0
  · have hk := (days_ok hE).2.1
    subst hk
    have h := CheckDays_yes_c S M a k cap f da k dcap g w hf hn hd hE
    rw [hE, show daysN 0 g k = (differentN g k : Nat) from if_pos rfl]
    exact h
  · have h := CheckDays_no_c S M a n cap da k dcap (daysE S M n f k g) hE w fun W hW => newPlan_no_c S M a n cap f da k dcap g W (hf.below hW) hn (Cells.below hd hW) hE
    rw [show daysN (daysE S M n f k g) g k = 0 from if_neg hE]
    exact h

end Go.Proofs.YtbjgbgchagfokaaGreat
