/- Contracts of layer 2: Chain and Swap. Written by tools/chswap.py. -/
import Derived.Test.YtbjgbgchagfokaaGreatProg
import Derived.Test.YtbjgbgchagfokaaGreatBasaa
import Derived.Test.YtbjgbgchagfokaaGreatBasaw
namespace Go.Proofs.YtbjgbgchagfokaaGreat
open Go Go.RowKit Go.Shelf

/-- The error of Chain and Swap. -/
def chainE (S M : Int) (n : Nat) (f : Nat → W2) (k : Nat) (g : Nat → Int) (want day : Int) : Int := if daysE S M n f k g = 0 then swapE k g want day else daysE S M n f k g
theorem ints_rowA {w : World} {b n : Nat} {h : Nat → Int} (hr : RowIs w b (rowA n h) 3) : Ints w (some ⟨b, 0, none⟩) n h :=
  .inr ⟨b, 0, rfl, hr.lt, fun i hi => by rw [Nat.zero_add, hr.cell i, rowA_get _ _ _ hi]⟩
theorem swapE_same {n : Nat} {g h : Nat → Int} {want day : Int} (e : ∀ i, i < n → g i = h i) : swapE n g want day = swapE n h want day := by
  unfold swapE
  by_cases h1 : 0 ≤ want ∧ want ≤ (n : Int) - 1
  · rw [if_pos h1, if_pos h1, e want.toNat (by omega)]
  · rw [if_neg h1, if_neg h1]
theorem swap_ok {n : Nat} {g : Nat → Int} {want day : Int} (h : swapE n g want day = 0) : (0 ≤ want ∧ want.toNat < n) ∧ (0 ≤ day ∧ day ≤ 13) ∧ g want.toNat ≠ day := by
  unfold swapE at h
  by_cases h1 : 0 ≤ want ∧ want ≤ (n : Int) - 1
  · rw [if_pos h1] at h
    by_cases h2 : 0 ≤ day ∧ day ≤ 13
    · rw [if_pos h2] at h
      by_cases h3 : g want.toNat = day
      · rw [if_pos h3] at h; cases h
      · exact ⟨by omega, h2, h3⟩
    · rw [if_neg h2] at h; cases h
  · rw [if_neg h1] at h; cases h

set_option maxHeartbeats 8000000 in
theorem Chain_days_c (S M : Int) (a : Option Addr) (n cap : Nat) (f : Nat → W2) (da : Option Addr) (k dcap : Nat) (g : Nat → Int) (want day : Int) (w : World) (hf : Wants w a n f) (hn : n ≤ 1048576) (hd : Ints w da k g) (hE : daysE S M n f k g ≠ 0) :
    Calls Tryz.prog 11 #[bookV S M a n cap, .slice da k dcap, .int .i64 want, .int .i64 day] w fun e w' => e = .returned (.tuple #[.slice none 0 0, .int .i64 (daysE S M n f k g)]) ∧ Below w.heap.size w w' := by
  obtain ⟨W, hW⟩ : ∃ W, w.alloc (.cells #[.int .i64 S, .int .i64 M, .slice a n cap] 24) = W := ⟨_, rfl⟩
  have hB : Below w.heap.size w W := by rw [← hW]; exact Below.alloc1 (Below.refl _ _) _ (Nat.le_refl _)
  have hR : RowIs W w.heap.size #[.int .i64 S, .int .i64 M, .slice a n cap] 24 := by rw [← hW]; exact heap_new_at _ _ _ rfl
  have r0 : W.cell? ⟨w.heap.size, 0, none⟩ = some (.int .i64 S) := RowIs.cell hR 0
  have r1 : W.cell? ⟨w.heap.size, 1, none⟩ = some (.int .i64 M) := RowIs.cell hR 1
  have r2 : W.cell? ⟨w.heap.size, 2, none⟩ = some (.slice a n cap) := RowIs.cell hR 2
  have HC := Lib.hid (newPlan_no_c S M a n cap f da k dcap g W (hf.below hB) hn (Cells.below hd hB) hE)
  obtain ⟨v, hv⟩ : ∃ v, daysE S M n f k g = v := ⟨_, rfl⟩
  rw [hv] at hE HC ⊢
  have t0 : (v != 0) = true := by simpa using hE
  clear hR hv hE hf hd
  go_enter Tryz.func11, Tryz.ntmps11
  go_wp2_with fail
  refine HC.out.mono ?_
  rintro e w1 ⟨rfl, hb1⟩
  have hB1 := bup hB hb1
  obtain ⟨V, U, z, hN⟩ := newPlanV w1 0 0 none 0 0 (fun _ => 0) none 0 0
  have hV := hN.made
  have hz := hN.size
  have hU := hN.stored
  simp only [putL, planL, Nat.reduceAdd] at hU
  obtain ⟨f0, f1, f2, f3, f4, f5, f6, f7, f8, f9, f10, f11, f12, f13, f14, f15⟩ := planfree hN.zero
  obtain ⟨e0, e1, e2, e3, e4, e5, e6, e7, e8, e9, e10, e11, e12, e13, e14, e15, ez⟩ := plancells hN.zero
  have hB2 := bup hB1 hN.below
  clear hN hW r0 r1 r2 hB hb1 hB1 HC
  go_wp2_with fail
  refine bodyPost_ret (v := .tuple #[.slice none 0 0, .int .i64 v]) (by simp [results, Tryz.results11, go_sem]) rfl ⟨rfl, hB2⟩

set_option maxHeartbeats 8000000 in
theorem Chain_swap_c (S M : Int) (a : Option Addr) (n cap : Nat) (f : Nat → W2) (da : Option Addr) (k dcap : Nat) (g : Nat → Int) (want day : Int) (w : World) (hf : Wants w a n f) (hn : n ≤ 1048576) (hd : Ints w da k g) (hE : daysE S M n f k g = 0) :
    Calls Tryz.prog 11 #[bookV S M a n cap, .slice da k dcap, .int .i64 want, .int .i64 day] w fun e w' => Below w.heap.size w w' ∧ ((swapE k g want day = 0 ∧ ∃ v, e = .returned (.tuple #[v, .int .i64 0]) ∧ Own w' w.heap.size (chainL f n (natD g) (natD g want.toNat) day.toNat want.toNat) v) ∨ (swapE k g want day ≠ 0 ∧ e = .returned (.tuple #[.slice none 0 0, .int .i64 (swapE k g want day)]))) := by
  obtain ⟨hbook, hkn, hdin, hrb⟩ := days_ok hE
  have hR14 := days_right hE
  have hG := book_good hbook
  subst hkn
  obtain ⟨W, hW⟩ : ∃ W, w.alloc (.cells #[.int .i64 S, .int .i64 M, .slice a k cap] 24) = W := ⟨_, rfl⟩
  have hB : Below w.heap.size w W := by rw [← hW]; exact Below.alloc1 (Below.refl _ _) _ (Nat.le_refl _)
  have hR : RowIs W w.heap.size #[.int .i64 S, .int .i64 M, .slice a k cap] 24 := by rw [← hW]; exact heap_new_at _ _ _ rfl
  have r0 : W.cell? ⟨w.heap.size, 0, none⟩ = some (.int .i64 S) := RowIs.cell hR 0
  have r1 : W.cell? ⟨w.heap.size, 1, none⟩ = some (.int .i64 M) := RowIs.cell hR 1
  have r2 : W.cell? ⟨w.heap.size, 2, none⟩ = some (.slice a k cap) := RowIs.cell hR 2
  have HC := Lib.hid (newPlan_yes_c S M a k cap f da k dcap g W (hf.below hB) hn (Cells.below hd hB) hE)
  have Hf := Lib.hid (hf.below hB)
  have Hg := Lib.hid (natD_int hdin)
  clear hR
  obtain ⟨l, hl⟩ : ∃ l, bookL f k = l := ⟨_, rfl⟩
  rw [hl] at HC
  clear hl
  obtain ⟨v, hv⟩ : ∃ v, swapE k g want day = v := ⟨_, rfl⟩
  rw [hv]
  have Hv := Lib.hid hv
  clear hv
  go_enter Tryz.func11, Tryz.ntmps11
  go_wp2_with fail
  refine HC.out.mono ?_
  rintro e w1 ⟨b, rfl, hrow, hbz, hb1⟩
  have hB1 := bup hB hb1
  obtain ⟨V, U, z, hN⟩ := newPlanV w1 S M a k cap l (some ⟨b, 0, none⟩) k k
  have hV := hN.made
  have hz := hN.size
  have hU := hN.stored
  simp only [putL, planL, Nat.reduceAdd] at hU
  obtain ⟨f0, f1, f2, f3, f4, f5, f6, f7, f8, f9, f10, f11, f12, f13, f14, f15⟩ := planfree hN.zero
  obtain ⟨e0, e1, e2, e3, e4, e5, e6, e7, e8, e9, e10, e11, e12, e13, e14, e15, ez⟩ := plancells hN.zero
  obtain ⟨c0, c1, c2, c3, c4, c5, c6, c7, c8, c9, c10, c11, c12, c13, c14, c15, cz⟩ := plancells hN.row
  have hB2 := bup hB1 hN.below
  have HB2 := Lib.hid hB2
  have Hrow := Lib.hid (hrow.below hN.below)
  have HNr := Lib.hid hN.row
  have HfU := Lib.hid ((Hf.out.below hb1).below hN.below)
  have hcs := checkSwap_c S M a k cap l (some ⟨b, 0, none⟩) k k (fun i => ((natD g i : Nat) : Int)) want day U (ints_rowA Hrow.out) hn
  rw [swapE_same Hg.out, Hv.out] at hcs
  have HCS := Lib.hid hcs
  clear hN hW r0 r1 r2 hB hb1 hB1 HC hrow hB2 hcs
  by_cases h0 : v = 0
  · subst h0
    obtain ⟨⟨hw0, hwn⟩, hd2, hne⟩ := swap_ok Hv.out
    obtain ⟨x, rfl⟩ := Int.eq_ofNat_of_zero_le hw0
    obtain ⟨y, rfl⟩ := Int.eq_ofNat_of_zero_le hd2.1
    simp only [Int.toNat_natCast] at hwn hne
    have hdne : natD g x ≠ y := fun h => hne (by rw [← Hg.out x hwn, h])
    go_wp2_with fail
    refine HCS.out.mono ?_
    rintro e w2 ⟨rfl, hb2⟩
    clear hV hU f0 f1 f2 f3 f4 f5 f6 f7 f8 f9 f10 f11 f12 f13 f14 f15 e0 e1 e2 e3 e4 e5 e6 e7 e8 e9 e10 e11 e12 e13 e14 e15 ez c0 c1 c2 c3 c4 c5 c6 c7 c8 c9 c10 c11 c12 c13 c14 c15 cz
    obtain ⟨c0, c1, c2, c3, c4, c5, c6, c7, c8, c9, c10, c11, c12, c13, c14, c15, cz⟩ := plancells (HNr.out.below hb2)
    have HB3 := Lib.hid (bup HB2.out hb2)
    have HC2 := Lib.hid (chain_c S M a k cap f l (some ⟨b, 0, none⟩) k (natD g) x y w2 (HfU.out.below hb2) hG.2.2.1 (ints_rowA (Hrow.out.below hb2)) hwn)
    clear hb2
    go_wp2_with fail
    refine HC2.out.mono ?_
    rintro e w3 ⟨u, rfl, hown, hb3⟩
    go_wp2_with fail
    refine bodyPost_ret (v := .tuple #[u, .int .i64 0]) (by simp [results, Tryz.results11, go_sem]) rfl ⟨bup HB3.out hb3, ⟨u, rfl, hown.mono HB3.out.size⟩⟩
  · have t0 : (v != 0) = true := by simpa using h0
    go_wp2_with fail
    refine HCS.out.mono ?_
    rintro e w2 ⟨rfl, hb2⟩
    clear hV hU f0 f1 f2 f3 f4 f5 f6 f7 f8 f9 f10 f11 f12 f13 f14 f15 e0 e1 e2 e3 e4 e5 e6 e7 e8 e9 e10 e11 e12 e13 e14 e15 ez c0 c1 c2 c3 c4 c5 c6 c7 c8 c9 c10 c11 c12 c13 c14 c15 cz
    go_wp2_with fail
    refine bodyPost_ret (v := .tuple #[.slice none 0 0, .int .i64 v]) (by simp [results, Tryz.results11, go_sem]) rfl ⟨bup HB2.out hb2, .inr ⟨h0, rfl⟩⟩

theorem Chain_c (S M : Int) (a : Option Addr) (n cap : Nat) (f : Nat → W2) (da : Option Addr) (k dcap : Nat) (g : Nat → Int) (want day : Int) (w : World) (hf : Wants w a n f) (hn : n ≤ 1048576) (hd : Ints w da k g) :
    Calls Tryz.prog 11 #[bookV S M a n cap, .slice da k dcap, .int .i64 want, .int .i64 day] w fun e w' => Below w.heap.size w w' ∧ ((chainE S M n f k g want day = 0 ∧ ∃ v, e = .returned (.tuple #[v, .int .i64 0]) ∧ Own w' w.heap.size (chainL f n (natD g) (natD g want.toNat) day.toNat want.toNat) v) ∨ (chainE S M n f k g want day ≠ 0 ∧ e = .returned (.tuple #[.slice none 0 0, .int .i64 (chainE S M n f k g want day)]))) := by
  by_cases hE : daysE S M n f k g = 0
  · rw [show chainE S M n f k g want day = swapE k g want day from if_pos hE]
    exact Chain_swap_c S M a n cap f da k dcap g want day w hf hn hd hE
  · rw [show chainE S M n f k g want day = daysE S M n f k g from if_neg hE]
    refine (Chain_days_c S M a n cap f da k dcap g want day w hf hn hd hE).mono ?_
    rintro e w' ⟨he, hb⟩
    exact ⟨hb, .inr ⟨hE, he⟩⟩

set_option maxHeartbeats 8000000 in
theorem Swap_days_c (S M : Int) (a : Option Addr) (n cap : Nat) (f : Nat → W2) (da : Option Addr) (k dcap : Nat) (g : Nat → Int) (want day : Int) (w : World) (hf : Wants w a n f) (hn : n ≤ 1048576) (hd : Ints w da k g) (hE : daysE S M n f k g ≠ 0) :
    Calls Tryz.prog 13 #[bookV S M a n cap, .slice da k dcap, .int .i64 want, .int .i64 day] w fun e w' => e = .returned (.tuple #[.slice none 0 0, .int .i64 (daysE S M n f k g)]) ∧ Below w.heap.size w w' := by
  obtain ⟨W, hW⟩ : ∃ W, w.alloc (.cells #[.int .i64 S, .int .i64 M, .slice a n cap] 24) = W := ⟨_, rfl⟩
  have hB : Below w.heap.size w W := by rw [← hW]; exact Below.alloc1 (Below.refl _ _) _ (Nat.le_refl _)
  have hR : RowIs W w.heap.size #[.int .i64 S, .int .i64 M, .slice a n cap] 24 := by rw [← hW]; exact heap_new_at _ _ _ rfl
  have r0 : W.cell? ⟨w.heap.size, 0, none⟩ = some (.int .i64 S) := RowIs.cell hR 0
  have r1 : W.cell? ⟨w.heap.size, 1, none⟩ = some (.int .i64 M) := RowIs.cell hR 1
  have r2 : W.cell? ⟨w.heap.size, 2, none⟩ = some (.slice a n cap) := RowIs.cell hR 2
  have HC := Lib.hid (newPlan_no_c S M a n cap f da k dcap g W (hf.below hB) hn (Cells.below hd hB) hE)
  obtain ⟨v, hv⟩ : ∃ v, daysE S M n f k g = v := ⟨_, rfl⟩
  rw [hv] at hE HC ⊢
  have t0 : (v != 0) = true := by simpa using hE
  clear hR hv hE hf hd
  go_enter Tryz.func13, Tryz.ntmps13
  go_wp2_with fail
  refine HC.out.mono ?_
  rintro e w1 ⟨rfl, hb1⟩
  have hB1 := bup hB hb1
  obtain ⟨V, U, z, hN⟩ := newPlanV w1 0 0 none 0 0 (fun _ => 0) none 0 0
  have hV := hN.made
  have hz := hN.size
  have hU := hN.stored
  simp only [putL, planL, Nat.reduceAdd] at hU
  obtain ⟨f0, f1, f2, f3, f4, f5, f6, f7, f8, f9, f10, f11, f12, f13, f14, f15⟩ := planfree hN.zero
  obtain ⟨e0, e1, e2, e3, e4, e5, e6, e7, e8, e9, e10, e11, e12, e13, e14, e15, ez⟩ := plancells hN.zero
  have hB2 := bup hB1 hN.below
  clear hN hW r0 r1 r2 hB hb1 hB1 HC
  go_wp2_with fail
  refine bodyPost_ret (v := .tuple #[.slice none 0 0, .int .i64 v]) (by simp [results, Tryz.results13, go_sem]) rfl ⟨rfl, hB2⟩

set_option maxHeartbeats 8000000 in
theorem Swap_swap_c (S M : Int) (a : Option Addr) (n cap : Nat) (f : Nat → W2) (da : Option Addr) (k dcap : Nat) (g : Nat → Int) (want day : Int) (w : World) (hf : Wants w a n f) (hn : n ≤ 1048576) (hd : Ints w da k g) (hE : daysE S M n f k g = 0) :
    Calls Tryz.prog 13 #[bookV S M a n cap, .slice da k dcap, .int .i64 want, .int .i64 day] w fun e w' => Below w.heap.size w w' ∧ ((swapE k g want day = 0 ∧ ∃ b, e = .returned (.tuple #[.slice (some ⟨b, 0, none⟩) n n, .int .i64 0]) ∧ RowIs w' b (rowA n fun i => (swapN f n (natD g) (natD g want.toNat) day.toNat want.toNat i : Int)) 3 ∧ w.heap.size ≤ b) ∨ (swapE k g want day ≠ 0 ∧ e = .returned (.tuple #[.slice none 0 0, .int .i64 (swapE k g want day)]))) := by
  obtain ⟨hbook, hkn, hdin, hrb⟩ := days_ok hE
  have hR14 := days_right hE
  have hG := book_good hbook
  subst hkn
  obtain ⟨W, hW⟩ : ∃ W, w.alloc (.cells #[.int .i64 S, .int .i64 M, .slice a k cap] 24) = W := ⟨_, rfl⟩
  have hB : Below w.heap.size w W := by rw [← hW]; exact Below.alloc1 (Below.refl _ _) _ (Nat.le_refl _)
  have hR : RowIs W w.heap.size #[.int .i64 S, .int .i64 M, .slice a k cap] 24 := by rw [← hW]; exact heap_new_at _ _ _ rfl
  have r0 : W.cell? ⟨w.heap.size, 0, none⟩ = some (.int .i64 S) := RowIs.cell hR 0
  have r1 : W.cell? ⟨w.heap.size, 1, none⟩ = some (.int .i64 M) := RowIs.cell hR 1
  have r2 : W.cell? ⟨w.heap.size, 2, none⟩ = some (.slice a k cap) := RowIs.cell hR 2
  have HC := Lib.hid (newPlan_yes_c S M a k cap f da k dcap g W (hf.below hB) hn (Cells.below hd hB) hE)
  have Hf := Lib.hid (hf.below hB)
  have Hg := Lib.hid (natD_int hdin)
  clear hR
  obtain ⟨l, hl⟩ : ∃ l, bookL f k = l := ⟨_, rfl⟩
  rw [hl] at HC
  clear hl
  obtain ⟨v, hv⟩ : ∃ v, swapE k g want day = v := ⟨_, rfl⟩
  rw [hv]
  have Hv := Lib.hid hv
  clear hv
  go_enter Tryz.func13, Tryz.ntmps13
  go_wp2_with fail
  refine HC.out.mono ?_
  rintro e w1 ⟨b, rfl, hrow, hbz, hb1⟩
  have hB1 := bup hB hb1
  obtain ⟨V, U, z, hN⟩ := newPlanV w1 S M a k cap l (some ⟨b, 0, none⟩) k k
  have hV := hN.made
  have hz := hN.size
  have hU := hN.stored
  simp only [putL, planL, Nat.reduceAdd] at hU
  obtain ⟨f0, f1, f2, f3, f4, f5, f6, f7, f8, f9, f10, f11, f12, f13, f14, f15⟩ := planfree hN.zero
  obtain ⟨e0, e1, e2, e3, e4, e5, e6, e7, e8, e9, e10, e11, e12, e13, e14, e15, ez⟩ := plancells hN.zero
  obtain ⟨c0, c1, c2, c3, c4, c5, c6, c7, c8, c9, c10, c11, c12, c13, c14, c15, cz⟩ := plancells hN.row
  have hB2 := bup hB1 hN.below
  have HB2 := Lib.hid hB2
  have Hrow := Lib.hid (hrow.below hN.below)
  have HNr := Lib.hid hN.row
  have HfU := Lib.hid ((Hf.out.below hb1).below hN.below)
  have hcs := checkSwap_c S M a k cap l (some ⟨b, 0, none⟩) k k (fun i => ((natD g i : Nat) : Int)) want day U (ints_rowA Hrow.out) hn
  rw [swapE_same Hg.out, Hv.out] at hcs
  have HCS := Lib.hid hcs
  clear hN hW r0 r1 r2 hB hb1 hB1 HC hrow hB2 hcs
  by_cases h0 : v = 0
  · subst h0
    obtain ⟨⟨hw0, hwn⟩, hd2, hne⟩ := swap_ok Hv.out
    obtain ⟨x, rfl⟩ := Int.eq_ofNat_of_zero_le hw0
    obtain ⟨y, rfl⟩ := Int.eq_ofNat_of_zero_le hd2.1
    simp only [Int.toNat_natCast] at hwn hne
    have hdne : natD g x ≠ y := fun h => hne (by rw [← Hg.out x hwn, h])
    go_wp2_with fail
    refine HCS.out.mono ?_
    rintro e w2 ⟨rfl, hb2⟩
    clear hV hU f0 f1 f2 f3 f4 f5 f6 f7 f8 f9 f10 f11 f12 f13 f14 f15 e0 e1 e2 e3 e4 e5 e6 e7 e8 e9 e10 e11 e12 e13 e14 e15 ez c0 c1 c2 c3 c4 c5 c6 c7 c8 c9 c10 c11 c12 c13 c14 c15 cz
    obtain ⟨c0, c1, c2, c3, c4, c5, c6, c7, c8, c9, c10, c11, c12, c13, c14, c15, cz⟩ := plancells (HNr.out.below hb2)
    have HB3 := Lib.hid (bup HB2.out hb2)
    have HC2 := Lib.hid (swap_c S M a k cap f l (some ⟨b, 0, none⟩) k (natD g) x y w2 (HfU.out.below hb2) hG.2.2.1 (fun i hi => by have h1 := hG.2.1; have h2 := (hG.2.2.2 i hi).2; omega) (ints_rowA (Hrow.out.below hb2)) hR14 hwn (by omega) hdne)
    clear hb2
    go_wp2_with fail
    refine HC2.out.mono ?_
    rintro e w3 ⟨u, rfl, hown, huz, hb3⟩
    go_wp2_with fail
    refine bodyPost_ret (v := .tuple #[.slice (some ⟨u, 0, none⟩) k k, .int .i64 0]) (by simp [results, Tryz.results13, go_sem]) rfl ⟨bup HB3.out hb3, ⟨u, rfl, hown, Nat.le_trans HB3.out.size huz⟩⟩
  · have t0 : (v != 0) = true := by simpa using h0
    go_wp2_with fail
    refine HCS.out.mono ?_
    rintro e w2 ⟨rfl, hb2⟩
    clear hV hU f0 f1 f2 f3 f4 f5 f6 f7 f8 f9 f10 f11 f12 f13 f14 f15 e0 e1 e2 e3 e4 e5 e6 e7 e8 e9 e10 e11 e12 e13 e14 e15 ez c0 c1 c2 c3 c4 c5 c6 c7 c8 c9 c10 c11 c12 c13 c14 c15 cz
    go_wp2_with fail
    refine bodyPost_ret (v := .tuple #[.slice none 0 0, .int .i64 v]) (by simp [results, Tryz.results13, go_sem]) rfl ⟨bup HB2.out hb2, .inr ⟨h0, rfl⟩⟩

theorem Swap_c (S M : Int) (a : Option Addr) (n cap : Nat) (f : Nat → W2) (da : Option Addr) (k dcap : Nat) (g : Nat → Int) (want day : Int) (w : World) (hf : Wants w a n f) (hn : n ≤ 1048576) (hd : Ints w da k g) :
    Calls Tryz.prog 13 #[bookV S M a n cap, .slice da k dcap, .int .i64 want, .int .i64 day] w fun e w' => Below w.heap.size w w' ∧ ((chainE S M n f k g want day = 0 ∧ ∃ b, e = .returned (.tuple #[.slice (some ⟨b, 0, none⟩) n n, .int .i64 0]) ∧ RowIs w' b (rowA n fun i => (swapN f n (natD g) (natD g want.toNat) day.toNat want.toNat i : Int)) 3 ∧ w.heap.size ≤ b) ∨ (chainE S M n f k g want day ≠ 0 ∧ e = .returned (.tuple #[.slice none 0 0, .int .i64 (chainE S M n f k g want day)]))) := by
  by_cases hE : daysE S M n f k g = 0
  · rw [show chainE S M n f k g want day = swapE k g want day from if_pos hE]
    exact Swap_swap_c S M a n cap f da k dcap g want day w hf hn hd hE
  · rw [show chainE S M n f k g want day = daysE S M n f k g from if_neg hE]
    refine (Swap_days_c S M a n cap f da k dcap g want day w hf hn hd hE).mono ?_
    rintro e w' ⟨he, hb⟩
    exact ⟨hb, .inr ⟨hE, he⟩⟩

end Go.Proofs.YtbjgbgchagfokaaGreat
