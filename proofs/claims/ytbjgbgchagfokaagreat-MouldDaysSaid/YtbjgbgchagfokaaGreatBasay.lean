/- Contracts of layer 2: as few days as the greatest load are enough; the first days of a valid book. Written by tools/yesdesk.py. -/
import Derived.Scope
import Derived.Test.YtbjgbgchagfokaaGreatProg
import Derived.Test.YtbjgbgchagfokaaGreatBasaa
import Derived.Test.YtbjgbgchagfokaaGreatBasao
import Derived.Test.YtbjgbgchagfokaaGreatBasag
import Derived.Test.YtbjgbgchagfokaaGreatBasap
import Derived.Test.YtbjgbgchagfokaaGreatBasan
namespace Go.Proofs.YtbjgbgchagfokaaGreat
open Go Go.RowKit Go.Shelf

theorem ldF_shop {f : Nat → W2} {n : Nat} {x : Nat} (hx : x < 6) (hm : ∀ i, i < n → 0 ≤ (f i).m) : ldF f (fun _ => true) x n = (many (fun i => (f i).s) x n : Int) := by
  induction n with
  | zero => rfl
  | succ n ih =>
    have := hm n (by omega)
    rw [ldF, many, ih fun i hi => hm i (by omega)]
    by_cases e : (f n).s = x
    · simp [e]
    · have e2 : ¬ (6 + (f n).m = x) := by omega
      simp [e, e2]
theorem ldF_mould {f : Nat → W2} {n : Nat} {y : Nat} (hs : ∀ i, i < n → (f i).s < 6) : ldF f (fun _ => true) (6 + y) n = (many (fun i => (f i).m) y n : Int) := by
  induction n with
  | zero => rfl
  | succ n ih =>
    have := hs n (by omega)
    rw [ldF, many, ih fun i hi => hs i (by omega)]
    by_cases e : (f n).m = y
    · have e1 : 6 + (f n).m = ((6 + y : Nat) : Int) := by omega
      simp [e]
    · have e1 : ¬ (6 + (f n).m = ((6 + y : Nat) : Int)) := by omega
      have e2 : ¬ ((f n).s = ((6 + y : Nat) : Int)) := by omega
      rw [if_neg (by simp only [e1, e2]; simp), if_neg e]
      omega
theorem many_none {g : Nat → Int} {x : Int} : ∀ {n}, (∀ i, i < n → g i ≠ x) → many g x n = 0
  | 0, _ => rfl
  | n + 1, h => by rw [many, many_none fun i hi => h i (by omega), if_neg (h n (by omega))]
theorem maxF_ge (g : Nat → Int) : ∀ n i, i ≤ n → g i ≤ maxF g n
  | 0, i, h => by obtain rfl : i = 0 := by omega
                  exact Int.le_refl _
  | n + 1, i, h => by
    unfold maxF
    by_cases e : i = n + 1
    · subst e; split <;> omega
    · have := maxF_ge g n i (by omega)
      split <;> omega
theorem maxF_le (g : Nat → Int) (m : Int) : ∀ n, (∀ i, i ≤ n → g i ≤ m) → maxF g n ≤ m
  | 0, h => h 0 (Nat.le_refl _)
  | n + 1, h => by
    unfold maxF
    have := maxF_le g m n fun i hi => h i (by omega)
    have := h (n + 1) (Nat.le_refl _)
    split <;> omega
theorem few_days {s M : Int} {n : Nat} {f : Nat → W2} (hG : GoodBook s M n f) : ∃ D : Nat, fewN (bookL f n) = (D : Int) ∧ D ≤ 14 ∧ ∃ e, Right f n D e := by
  obtain ⟨h1, h2, h3, h4⟩ := hG
  have h0 : 0 ≤ fewN (bookL f n) := Int.le_trans (ldF_bd f (fun _ => true) 0 n).1 (maxF_ge (bookL f n) 11 0 (by omega))
  have h14 : fewN (bookL f n) ≤ n := maxF_le _ _ _ fun i _ => (ldF_bd f (fun _ => true) i n).2
  refine ⟨(fewN (bookL f n)).toNat, by omega, by omega, days_enough f _ n ?_ ?_⟩
  · intro x
    by_cases hx : 0 ≤ x ∧ x < 6
    · obtain ⟨k, rfl⟩ := Int.eq_ofNat_of_zero_le hx.1
      have := maxF_ge (bookL f n) 11 k (by omega)
      have e := ldF_shop (f := f) (n := n) (x := k) (by omega) fun i hi => (h4 i hi).2.1
      have : (many (fun i => (f i).s) (k : Int) n : Int) ≤ fewN (bookL f n) := by rw [← e]; exact this
      omega
    · rw [many_none fun i hi => by have := (h4 i hi).1; omega]
      exact Nat.zero_le _
  · intro x
    by_cases hx : 0 ≤ x ∧ x < 6
    · obtain ⟨k, rfl⟩ := Int.eq_ofNat_of_zero_le hx.1
      have := maxF_ge (bookL f n) 11 (6 + k) (by omega)
      have e := ldF_mould (f := f) (n := n) (y := k) fun i hi => by have := (h4 i hi).1.2; omega
      have : (many (fun i => (f i).m) (k : Int) n : Int) ≤ fewN (bookL f n) := by rw [← e]; exact this
      omega
    · rw [many_none fun i hi => by have := (h4 i hi).2; omega]
      exact Nat.zero_le _

set_option maxHeartbeats 4000000 in
theorem Days_yes_c (s M : Nat) (a : Option Addr) (n cap : Nat) (f : Nat → W2) (w : World) (hf : Wants w a n f) (hn : n ≤ 1048576) (hE : bookE s M n f = 0) :
    Calls Tryz.prog 9 #[bookV s M a n cap] w fun e w' => ∃ (db : Nat) (d : Nat → Nat) (D : Nat), e = .returned (.tuple #[.slice (some ⟨db, 0, none⟩) n n, .int .i64 0]) ∧ RowIs w' db (rowA n fun i => (d i : Int)) 3 ∧ w.heap.size ≤ db ∧ Below w.heap.size w w' ∧ fewN (bookL f n) = (D : Int) ∧ ∀ p, Firsts f n D 0 p d := by
  obtain ⟨D, hD, hD14, hex⟩ := few_days (book_good hE)
  obtain ⟨W, hW⟩ : ∃ W, w.alloc (.cells #[.int .i64 s, .int .i64 M, .slice a n cap] 24) = W := ⟨_, rfl⟩
  have hB : Below w.heap.size w W := by rw [← hW]; exact Below.alloc1 (Below.refl _ _) _ (Nat.le_refl _)
  have hR : RowIs W w.heap.size #[.int .i64 s, .int .i64 M, .slice a n cap] 24 := by rw [← hW]; exact heap_new_at _ _ _ rfl
  have r0 : W.cell? ⟨w.heap.size, 0, none⟩ = some (.int .i64 s) := RowIs.cell hR 0
  have r1 : W.cell? ⟨w.heap.size, 1, none⟩ = some (.int .i64 M) := RowIs.cell hR 1
  have r2 : W.cell? ⟨w.heap.size, 2, none⟩ = some (.slice a n cap) := RowIs.cell hR 2
  have hGB := book_good hE
  have hs6 : s ≤ 6 := by have := hGB.1; omega
  have hm6 : M ≤ 6 := by have := hGB.2.1; omega
  have hn14 : n ≤ 14 := hGB.2.2.1
  have hc := newDesk_yes_c s M a n cap f W (hf.below hB) hn hE
  obtain ⟨l, hl⟩ : ∃ l, bookL f n = l := ⟨_, rfl⟩
  rw [hl] at hc
  try rw [hl]
  have HLB := Lib.hid hl
  have HC := Lib.hid hc
  have HGB := Lib.hid hGB
  have Hf := Lib.hid hf
  have HE := Lib.hid hE
  clear hR hc hl hGB hf hE
  go_enter Tryz.func9, Tryz.ntmps9
  go_wp2_with fail
  refine HC.out.mono ?_
  rintro e w1 ⟨rfl, hb1⟩
  have hB1 := bup hB hb1
  obtain ⟨V, U, z, hN⟩ := newDesk w1 s M a n cap l
  have hV := hN.made
  have hz := hN.size
  have hU := hN.stored
  simp only [putL, deskL, Nat.reduceAdd] at hU
  obtain ⟨f0, f1, f2, f3, f4, f5, f6, f7, f8, f9, f10, f11, f12, f13, f14⟩ := deskfree hN.zero
  obtain ⟨e0, e1, e2, e3, e4, e5, e6, e7, e8, e9, e10, e11, e12, e13, e14, ez⟩ := deskcells hN.zero
  obtain ⟨c0, c1, c2, c3, c4, c5, c6, c7, c8, c9, c10, c11, c12, c13, c14, cz⟩ := deskcells hN.row
  have hB2 := bup hB1 hN.below
  have HR := Lib.hid hN.row
  clear hN hW r0 r1 r2 hB hb1 hB1 HC
  rw [HLB.out] at hD
  go_wp2_with fail
  refine (firstDays_c s M a n cap f l U D (Hf.out.below hB2) hn14 hD hD14 hex).mono ?_
  rintro e w2 ⟨db, d, rfl, hrow, hdb, hb2, hfs⟩
  clear hU hV f0 f1 f2 f3 f4 f5 f6 f7 f8 f9 f10 f11 f12 f13 f14 e0 e1 e2 e3 e4 e5 e6 e7 e8 e9 e10 e11 e12 e13 e14 ez c0 c1 c2 c3 c4 c5 c6 c7 c8 c9 c10 c11 c12 c13 c14 cz
  go_wp2_with fail
  have hs := hB2.size
  refine bodyPost_ret (v := .tuple #[.slice (some ⟨db, 0, none⟩) n n, .int .i64 0]) (by simp [results, Tryz.results9, go_sem]) rfl ⟨db, d, D, rfl, hrow, by omega, bup hB2 hb2, hD, hfs⟩

end Go.Proofs.YtbjgbgchagfokaaGreat

namespace Go.Proofs.YtbjgbgchagfokaaGreat
open Go Go.RowKit Go.Shelf

/-- Has each shop of a list wants. -/
def wantAll (l : Nat → Int) (g : Nat → Int) : Nat → Bool
  | 0 => true
  | k + 1 => wantAll l g k && decide (0 < l (g k).toNat)
theorem wantAll_no {l g : Nat → Int} (k : Nat) : ∀ m, k < m → ¬ 0 < l (g k).toNat → wantAll l g m = false
  | 0, h, _ => absurd h (Nat.not_lt_zero _)
  | m + 1, h, hb => by
    by_cases e : k = m
    · subst e; simp [wantAll]; omega
    · simp [wantAll, wantAll_no k m (by omega) hb]
/-- The error of shops that are short. -/
def shortE (s n : Nat) (f : Nat → W2) (len : Nat) (g : Nat → Int) : Int :=
  if len = 0 ∨ listB g s len = false then 3 else if wantAll (bookL f n) g len = false then 16 else if fewB f n g len ≤ 0 then 14 else 0
def shortN (s n : Nat) (f : Nat → W2) (len : Nat) (g : Nat → Int) : Int := if shortE s n f len g = 0 then fewB f n g len else 0

set_option maxHeartbeats 16000000 in
theorem CheckShort_yes_c (s M : Nat) (a : Option Addr) (n cap : Nat) (f : Nat → W2) (la : Option Addr) (len lcap : Nat) (g : Nat → Int) (w : World) (hf : Wants w a n f) (hn : n ≤ 1048576) (hg : Ints w la len g) (hl : len ≤ 1048576) (hc2 : len ≤ lcap) (_ : lcap ≤ 9223372036854775807) (hE : bookE s M n f = 0) :
    Calls Tryz.prog 25 #[bookV s M a n cap, .slice la len lcap] w fun e w' => e = .returned (.tuple #[.int .i64 (shortN s n f len g), .int .i64 (shortE s n f len g)]) ∧ Below w.heap.size w w' := by
  obtain ⟨r, hr⟩ : ∃ r : Int, shortE s n f len g = r := ⟨_, rfl⟩
  obtain ⟨q, hq⟩ : ∃ q : Int, shortN s n f len g = q := ⟨_, rfl⟩
  have hre : r = if len = 0 ∨ listB g s len = false then 3 else if wantAll (bookL f n) g len = false then 16 else if fewB f n g len ≤ 0 then 14 else 0 := hr.symm
  have hqe : q = if r = 0 then fewB f n g len else 0 := by rw [← hq, shortN, hr]
  rw [hr, hq]
  have HRR := Lib.hid hre
  have HQ := Lib.hid hqe
  clear hr hq hre hqe
  obtain ⟨W, hW⟩ : ∃ W, w.alloc (.cells #[.int .i64 s, .int .i64 M, .slice a n cap] 24) = W := ⟨_, rfl⟩
  have hB : Below w.heap.size w W := by rw [← hW]; exact Below.alloc1 (Below.refl _ _) _ (Nat.le_refl _)
  have hR : RowIs W w.heap.size #[.int .i64 s, .int .i64 M, .slice a n cap] 24 := by rw [← hW]; exact heap_new_at _ _ _ rfl
  have r0 : W.cell? ⟨w.heap.size, 0, none⟩ = some (.int .i64 s) := RowIs.cell hR 0
  have r1 : W.cell? ⟨w.heap.size, 1, none⟩ = some (.int .i64 M) := RowIs.cell hR 1
  have r2 : W.cell? ⟨w.heap.size, 2, none⟩ = some (.slice a n cap) := RowIs.cell hR 2
  have hGB := book_good hE
  have hs6 : s ≤ 6 := by have := hGB.1; omega
  have hm6 : M ≤ 6 := by have := hGB.2.1; omega
  have hn14 : n ≤ 14 := hGB.2.2.1
  have hc := newDesk_yes_c s M a n cap f W (hf.below hB) hn hE
  obtain ⟨l, hl⟩ : ∃ l, bookL f n = l := ⟨_, rfl⟩
  rw [hl] at hc
  try rw [hl]
  have HLB := Lib.hid hl
  have HC := Lib.hid hc
  have HGB := Lib.hid hGB
  have Hf := Lib.hid hf
  have HE := Lib.hid hE
  clear hR hc hl hGB hf hE
  go_enter Tryz.func25, Tryz.ntmps25
  go_wp2_with fail
  refine HC.out.mono ?_
  rintro e w1 ⟨rfl, hb1⟩
  have hB1 := bup hB hb1
  obtain ⟨V, U, z, hN⟩ := newDesk w1 s M a n cap l
  have hV := hN.made
  have hz := hN.size
  have hU := hN.stored
  simp only [putL, deskL, Nat.reduceAdd] at hU
  obtain ⟨f0, f1, f2, f3, f4, f5, f6, f7, f8, f9, f10, f11, f12, f13, f14⟩ := deskfree hN.zero
  obtain ⟨e0, e1, e2, e3, e4, e5, e6, e7, e8, e9, e10, e11, e12, e13, e14, ez⟩ := deskcells hN.zero
  obtain ⟨c0, c1, c2, c3, c4, c5, c6, c7, c8, c9, c10, c11, c12, c13, c14, cz⟩ := deskcells hN.row
  have hB2 := bup hB1 hN.below
  have HR := Lib.hid hN.row
  clear hN hW r0 r1 r2 hB hb1 hB1 HC
  have Hg := Lib.hid hg
  clear hg
  by_cases h0 : len = 0
  · have h3 : r = 3 := by rw [HRR.out, if_pos (.inl h0)]
    have h4 : q = 0 := by rw [HQ.out, h3]; rfl
    subst h3 h4
    subst h0
    go_wp2_with fail
    refine bodyPost_ret (v := .tuple #[.int .i64 0, .int .i64 3]) (by simp [results, Tryz.results25, go_sem]) rfl ⟨rfl, hB2⟩
  have t0 : ((len : Int) == 0) = false := beq_false_of_ne (by omega)
  have i1 := Indexes_c s la len lcap g U (Cells.below Hg.out hB2) hl (by omega)
  have I1 := Lib.hid i1
  clear i1
  go_wp2_with fail
  refine I1.out.mono ?_
  rintro e w2 ⟨rfl, hb2⟩
  clear hU hV f0 f1 f2 f3 f4 f5 f6 f7 f8 f9 f10 f11 f12 f13 f14 e0 e1 e2 e3 e4 e5 e6 e7 e8 e9 e10 e11 e12 e13 e14 ez c0 c1 c2 c3 c4 c5 c6 c7 c8 c9 c10 c11 c12 c13 c14 cz
  have hB3 := bup hB2 hb2
  have hr2 := HR.out.below hb2
  have HR2 := Lib.hid hr2
  clear hr2
  cases h1 : listB g s len with
  | false =>
    have h3 : r = 3 := by rw [HRR.out, if_pos (.inr h1)]
    have h4 : q = 0 := by rw [HQ.out, h3]; rfl
    subst h3 h4
    clear h1
    go_wp2_with fail
    refine bodyPost_ret (v := .tuple #[.int .i64 0, .int .i64 3]) (by simp [results, Tryz.results25, go_sem]) rfl ⟨rfl, hB3⟩
  | true =>
    have hgr := listB_range g s len h1
    have HGR := Lib.hid hgr
    have hno : ¬ (len = 0 ∨ listB g s len = false) := by rw [h1]; simp [h0]
    have HNO := Lib.hid hno
    clear h1 hgr hno
    go_wp2_with fail
    go_loopw [32] (fun i wr => ∃ k : Nat, k ≤ len ∧ i = .int .i64 k ∧ wantAll l g k = true ∧ Below w2.heap.size w2 wr) (fun i _ => len - (intOf i).toNat)
    case atStart => exact ⟨0, Nat.zero_le _, rfl, rfl, Below.refl _ _⟩
    case round =>
      obtain ⟨k, hk, rfl, ho, hbr⟩ := hrel
      have Ho := Lib.hid ho
      clear ho
      have hr3 := HR2.out.below hbr
      obtain ⟨c0, c1, c2, c3, c4, c5, c6, c7, c8, c9, c10, c11, c12, c13, c14, cz⟩ := deskcells hr3
      by_cases hlt : k < len
      · obtain ⟨b, off, rfl, hbs, hc⟩ := Cells.at (Cells.below Hg.out (bup hB3 hbr)) k hlt
        have ck := hc k hlt
        obtain ⟨y, hy⟩ := Int.eq_ofNat_of_zero_le (HGR.out k hlt).1
        have hyn : y < 6 := by have := (HGR.out k hlt).2; omega
        have hyk : (g k).toNat = y := by rw [hy]; rfl
        rw [hy] at ck
        have kk := fun (u : Later wr) => wanting_c s M a n cap l (.slice (some ⟨b, off, none⟩) k lcap) y u.w hyn
        have KK := Lib.hid kk
        have HY := Lib.hid hyk
        clear hc kk hr3 hyk
        go_wp2_with fail
        have hlc := fun (x : Later wr) => later_cell x
        refine wp_region_later (by kernel_rfl) (by kernel_rfl) ?_
        repeat (go_big_quiet_step ((with_reducible refine calls_later (KK.out _))))
        refine wpQuiet_nil ?_
        clear hlc c0 c1 c2 c3 c4 c5 c6 c7 c8 c9 c10 c11 c12 c13 c14 cz
        rintro ⟨w4, hb4⟩
        cases h4 : decide (0 < l y) with
        | true =>
          have H4 := Lib.hid h4
          clear h4
          go_wp2_with fail
          go_roundw
          case rel => exact ⟨k + 1, by omega, by go_num, by rw [wantAll, Ho.out, HY.out, H4.out]; rfl, bup hbr hb4⟩
          case measure => simp [intOf]; omega
        | false =>
          have h5 : r = 16 := by rw [HRR.out, if_neg HNO.out, if_pos (by rw [HLB.out]; exact wantAll_no k len hlt (by rw [HY.out]; exact of_decide_eq_false h4))]
          have h6 : q = 0 := by rw [HQ.out, h5]; rfl
          clear h4
          subst h5 h6
          go_wp2_with fail
          refine bodyPost_ret (v := .tuple #[.int .i64 0, .int .i64 16]) (by simp [results, Tryz.results25, go_sem]) rfl ⟨rfl, bup (bup hB3 hbr) hb4⟩
      · obtain rfl : k = len := by omega
        have ht := tooFew_c s M a n cap f l la k lcap g wr (Hf.out.below (bup hB3 hbr)) HGB.out (Cells.below Hg.out (bup hB3 hbr)) hl
        have hnw : ¬ wantAll (bookL f n) g k = false := by rw [HLB.out, Ho.out]; simp
        have HNW := Lib.hid hnw
        obtain ⟨v, hv⟩ : ∃ v, fewB f n g k = v := ⟨_, rfl⟩
        rw [hv] at ht
        have HV := Lib.hid hv
        have HT := Lib.hid ht
        clear ht hv hnw hr3
        go_wp2_with fail
        refine HT.out.mono ?_
        rintro e w3 ⟨rfl, hb3⟩
        clear c0 c1 c2 c3 c4 c5 c6 c7 c8 c9 c10 c11 c12 c13 c14 cz
        by_cases h5 : v ≤ 0
        · have h6 : r = 14 := by rw [HRR.out, if_neg HNO.out, if_neg HNW.out, HV.out, if_pos h5]
          have h7 : q = 0 := by rw [HQ.out, h6]; rfl
          subst h6 h7
          go_wp2_with fail
          refine bodyPost_ret (v := .tuple #[.int .i64 0, .int .i64 14]) (by simp [results, Tryz.results25, go_sem]) rfl ⟨rfl, bup (bup hB3 hbr) hb3⟩
        · have h6 : r = 0 := by rw [HRR.out, if_neg HNO.out, if_neg HNW.out, HV.out, if_neg h5]
          have h7 : q = v := by rw [HQ.out, h6, HV.out]; rfl
          subst h6 h7
          go_wp2_with fail
          refine bodyPost_ret (v := .tuple #[.int .i64 q, .int .i64 0]) (by simp [results, Tryz.results25, go_sem]) rfl ⟨rfl, bup (bup hB3 hbr) hb3⟩

end Go.Proofs.YtbjgbgchagfokaaGreat
