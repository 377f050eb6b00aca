/- Contracts of layer 2: as few days as the greatest load are enough; the first days of a valid book. Written by tools/yesdesk.py. -/
import Derived.Scope
import Derived.Test.YtbjgbgchagfokaaProg
import Derived.Test.YtbjgbgchagfokaaBasaa
import Derived.Test.YtbjgbgchagfokaaBasao
import Derived.Test.YtbjgbgchagfokaaBasag
import Derived.Test.YtbjgbgchagfokaaBasap
import Derived.Test.YtbjgbgchagfokaaBasan
import Derived.Test.YtbjgbgchagfokaaBasad
import Derived.Test.YtbjgbgchagfokaaBasae
import Derived.Test.YtbjgbgchagfokaaBasah
import Derived.Test.YtbjgbgchagfokaaBasab
import Derived.Shelf.Abstract
import Derived.Shelf.RegionOpen
import Derived.Test.YtbjgbgchagfokaaBasak
import Derived.Test.YtbjgbgchagfokaaBasaw
import Derived.Test.YtbjgbgchagfokaaBasax
namespace Go.Proofs.Ytbjgbgchagfokaa
open Go Go.RowKit Go.Shelf

theorem ldF_shop {f : Nat → W2} {n : Nat} {x : Nat} (hx : x < 6) (hm : ∀ i, i < n → 0 ≤ (f i).m) : ldF f (fun _ => true) x n = (many (fun i => (f i).s) x n : Int) := by
  induction n with
  | zero => rfl
  | succ n ih =>
    have := hm n (by omega)
    rw [ldF, many, ih fun i hi => hm i (by omega)]
    by_cases e : (f n).s = x
    · simp [e]
    · have e2 : ¬ (6 + (f n).m = x) := by omega
      simp [e, e2]
theorem ldF_mould {f : Nat → W2} {n : Nat} {y : Nat} (hs : ∀ i, i < n → (f i).s < 6) : ldF f (fun _ => true) (6 + y) n = (many (fun i => (f i).m) y n : Int) := by
  induction n with
  | zero => rfl
  | succ n ih =>
    have := hs n (by omega)
    rw [ldF, many, ih fun i hi => hs i (by omega)]
    by_cases e : (f n).m = y
    · have e1 : 6 + (f n).m = ((6 + y : Nat) : Int) := by omega
      simp [e]
    · have e1 : ¬ (6 + (f n).m = ((6 + y : Nat) : Int)) := by omega
      have e2 : ¬ ((f n).s = ((6 + y : Nat) : Int)) := by omega
      rw [if_neg (by simp only [e1, e2]; simp), if_neg e]
      omega
theorem many_none {g : Nat → Int} {x : Int} : ∀ {n}, (∀ i, i < n → g i ≠ x) → many g x n = 0
  | 0, _ => rfl
  | n + 1, h => by rw [many, many_none fun i hi => h i (by omega), if_neg (h n (by omega))]
theorem maxF_ge (g : Nat → Int) : ∀ n i, i ≤ n → g i ≤ maxF g n
  | 0, i, h => by obtain rfl : i = 0 := by omega
                  exact Int.le_refl _
  | n + 1, i, h => by
    unfold maxF
    by_cases e : i = n + 1
    · subst e; split <;> omega
    · have := maxF_ge g n i (by omega)
      split <;> omega
theorem maxF_le (g : Nat → Int) (m : Int) : ∀ n, (∀ i, i ≤ n → g i ≤ m) → maxF g n ≤ m
  | 0, h => h 0 (Nat.le_refl _)
  | n + 1, h => by
    unfold maxF
    have := maxF_le g m n fun i hi => h i (by omega)
    have := h (n + 1) (Nat.le_refl _)
    split <;> omega
theorem few_days {s M : Int} {n : Nat} {f : Nat → W2} (hG : GoodBook s M n f) : ∃ D : Nat, fewN (bookL f n) = (D : Int) ∧ D ≤ 14 ∧ ∃ e, Right f n D e := by
  obtain ⟨h1, h2, h3, h4⟩ := hG
  have h0 : 0 ≤ fewN (bookL f n) := Int.le_trans (ldF_bd f (fun _ => true) 0 n).1 (maxF_ge (bookL f n) 11 0 (by omega))
  have h14 : fewN (bookL f n) ≤ n := maxF_le _ _ _ fun i _ => (ldF_bd f (fun _ => true) i n).2
  refine ⟨(fewN (bookL f n)).toNat, by omega, by omega, days_enough f _ n ?_ ?_⟩
  · intro x
    by_cases hx : 0 ≤ x ∧ x < 6
    · obtain ⟨k, rfl⟩ := Int.eq_ofNat_of_zero_le hx.1
      have := maxF_ge (bookL f n) 11 k (by omega)
      have e := ldF_shop (f := f) (n := n) (x := k) (by omega) fun i hi => (h4 i hi).2.1
      have : (many (fun i => (f i).s) (k : Int) n : Int) ≤ fewN (bookL f n) := by rw [← e]; exact this
      omega
    · rw [many_none fun i hi => by have := (h4 i hi).1; omega]
      exact Nat.zero_le _
  · intro x
    by_cases hx : 0 ≤ x ∧ x < 6
    · obtain ⟨k, rfl⟩ := Int.eq_ofNat_of_zero_le hx.1
      have := maxF_ge (bookL f n) 11 (6 + k) (by omega)
      have e := ldF_mould (f := f) (n := n) (y := k) fun i hi => by have := (h4 i hi).1.2; omega
      have : (many (fun i => (f i).m) (k : Int) n : Int) ≤ fewN (bookL f n) := by rw [← e]; exact this
      omega
    · rw [many_none fun i hi => by have := (h4 i hi).2; omega]
      exact Nat.zero_le _

set_option maxHeartbeats 4000000 in
theorem Days_yes_c (s M : Nat) (a : Option Addr) (n cap : Nat) (f : Nat → W2) (w : World) (hf : Wants w a n f) (hn : n ≤ 1048576) (hE : bookE s M n f = 0) :
    Calls Try.prog 48 #[bookV s M a n cap] w fun e w' => ∃ (db : Nat) (d : Nat → Nat) (D : Nat), e = .returned (.tuple #[.slice (some ⟨db, 0, none⟩) n n, .int .i64 0]) ∧ RowIs w' db (rowA n fun i => (d i : Int)) 3 ∧ w.heap.size ≤ db ∧ Below w.heap.size w w' ∧ fewN (bookL f n) = (D : Int) ∧ ∀ p, Firsts f n D 0 p d := by
  obtain ⟨D, hD, hD14, hex⟩ := few_days (book_good hE)
  obtain ⟨W, hW⟩ : ∃ W, w.alloc (.cells #[.int .i64 s, .int .i64 M, .slice a n cap] 24) = W := ⟨_, rfl⟩
  have hB : Below w.heap.size w W := by rw [← hW]; exact Below.alloc1 (Below.refl _ _) _ (Nat.le_refl _)
  have hR : RowIs W w.heap.size #[.int .i64 s, .int .i64 M, .slice a n cap] 24 := by rw [← hW]; exact heap_new_at _ _ _ rfl
  have r0 : W.cell? ⟨w.heap.size, 0, none⟩ = some (.int .i64 s) := RowIs.cell hR 0
  have r1 : W.cell? ⟨w.heap.size, 1, none⟩ = some (.int .i64 M) := RowIs.cell hR 1
  have r2 : W.cell? ⟨w.heap.size, 2, none⟩ = some (.slice a n cap) := RowIs.cell hR 2
  have hGB := book_good hE
  have hs6 : s ≤ 6 := by have := hGB.1; omega
  have hm6 : M ≤ 6 := by have := hGB.2.1; omega
  have hn14 : n ≤ 14 := hGB.2.2.1
  have hc := newDesk_yes_c s M a n cap f W (hf.below hB) hn hE
  obtain ⟨l, hl⟩ : ∃ l, bookL f n = l := ⟨_, rfl⟩
  rw [hl] at hc
  try rw [hl]
  have HLB := Lib.hid hl
  have HC := Lib.hid hc
  have HGB := Lib.hid hGB
  have Hf := Lib.hid hf
  have HE := Lib.hid hE
  clear hR hc hl hGB hf hE
  go_enter Try.func48, Try.ntmps48
  go_wp2_with fail
  refine HC.out.mono ?_
  rintro e w1 ⟨rfl, hb1⟩
  have hB1 := bup hB hb1
  obtain ⟨V, U, z, hN⟩ := newDesk w1 s M a n cap l
  have hV := hN.made
  have hz := hN.size
  have hU := hN.stored
  simp only [putL, deskL, Nat.reduceAdd] at hU
  obtain ⟨f0, f1, f2, f3, f4, f5, f6, f7, f8, f9, f10, f11, f12, f13, f14⟩ := deskfree hN.zero
  obtain ⟨e0, e1, e2, e3, e4, e5, e6, e7, e8, e9, e10, e11, e12, e13, e14, ez⟩ := deskcells hN.zero
  obtain ⟨c0, c1, c2, c3, c4, c5, c6, c7, c8, c9, c10, c11, c12, c13, c14, cz⟩ := deskcells hN.row
  have hB2 := bup hB1 hN.below
  have HR := Lib.hid hN.row
  clear hN hW r0 r1 r2 hB hb1 hB1 HC
  rw [HLB.out] at hD
  go_wp2_with fail
  refine (firstDays_c s M a n cap f l U D (Hf.out.below hB2) hn14 hD hD14 hex).mono ?_
  rintro e w2 ⟨db, d, rfl, hrow, hdb, hb2, hfs⟩
  clear hU hV f0 f1 f2 f3 f4 f5 f6 f7 f8 f9 f10 f11 f12 f13 f14 e0 e1 e2 e3 e4 e5 e6 e7 e8 e9 e10 e11 e12 e13 e14 ez c0 c1 c2 c3 c4 c5 c6 c7 c8 c9 c10 c11 c12 c13 c14 cz
  go_wp2_with fail
  have hs := hB2.size
  refine bodyPost_ret (v := .tuple #[.slice (some ⟨db, 0, none⟩) n n, .int .i64 0]) (by simp [results, Try.results48, go_sem]) rfl ⟨db, d, D, rfl, hrow, by omega, bup hB2 hb2, hD, hfs⟩

end Go.Proofs.Ytbjgbgchagfokaa

namespace Go.Proofs.Ytbjgbgchagfokaa
open Go Go.RowKit Go.Shelf

set_option maxHeartbeats 4000000 in
theorem Fewest_yes_c (s M : Nat) (a : Option Addr) (n cap : Nat) (f : Nat → W2) (w : World) (hf : Wants w a n f) (hn : n ≤ 1048576) (hE : bookE s M n f = 0) :
    Calls Try.prog 47 #[bookV s M a n cap] w fun e w' => e = .returned (.tuple #[.int .i64 (fewN (bookL f n)), .int .i64 0]) ∧ Below w.heap.size w w' := by
  obtain ⟨W, hW⟩ : ∃ W, w.alloc (.cells #[.int .i64 s, .int .i64 M, .slice a n cap] 24) = W := ⟨_, rfl⟩
  have hB : Below w.heap.size w W := by rw [← hW]; exact Below.alloc1 (Below.refl _ _) _ (Nat.le_refl _)
  have hR : RowIs W w.heap.size #[.int .i64 s, .int .i64 M, .slice a n cap] 24 := by rw [← hW]; exact heap_new_at _ _ _ rfl
  have r0 : W.cell? ⟨w.heap.size, 0, none⟩ = some (.int .i64 s) := RowIs.cell hR 0
  have r1 : W.cell? ⟨w.heap.size, 1, none⟩ = some (.int .i64 M) := RowIs.cell hR 1
  have r2 : W.cell? ⟨w.heap.size, 2, none⟩ = some (.slice a n cap) := RowIs.cell hR 2
  have hGB := book_good hE
  have hs6 : s ≤ 6 := by have := hGB.1; omega
  have hm6 : M ≤ 6 := by have := hGB.2.1; omega
  have hn14 : n ≤ 14 := hGB.2.2.1
  have hc := newDesk_yes_c s M a n cap f W (hf.below hB) hn hE
  obtain ⟨l, hl⟩ : ∃ l, bookL f n = l := ⟨_, rfl⟩
  rw [hl] at hc
  try rw [hl]
  have HLB := Lib.hid hl
  have HC := Lib.hid hc
  have HGB := Lib.hid hGB
  have Hf := Lib.hid hf
  have HE := Lib.hid hE
  clear hR hc hl hGB hf hE
  go_enter Try.func47, Try.ntmps47
  go_wp2_with fail
  refine HC.out.mono ?_
  rintro e w1 ⟨rfl, hb1⟩
  have hB1 := bup hB hb1
  obtain ⟨V, U, z, hN⟩ := newDesk w1 s M a n cap l
  have hV := hN.made
  have hz := hN.size
  have hU := hN.stored
  simp only [putL, deskL, Nat.reduceAdd] at hU
  obtain ⟨f0, f1, f2, f3, f4, f5, f6, f7, f8, f9, f10, f11, f12, f13, f14⟩ := deskfree hN.zero
  obtain ⟨e0, e1, e2, e3, e4, e5, e6, e7, e8, e9, e10, e11, e12, e13, e14, ez⟩ := deskcells hN.zero
  obtain ⟨c0, c1, c2, c3, c4, c5, c6, c7, c8, c9, c10, c11, c12, c13, c14, cz⟩ := deskcells hN.row
  have hB2 := bup hB1 hN.below
  have HR := Lib.hid hN.row
  clear hN hW r0 r1 r2 hB hb1 hB1 HC
  go_wp2_with fail
  refine (fewest_c s M a n cap l U).mono ?_
  rintro e w2 ⟨rfl, hb2⟩
  clear hU hV f0 f1 f2 f3 f4 f5 f6 f7 f8 f9 f10 f11 f12 f13 f14 e0 e1 e2 e3 e4 e5 e6 e7 e8 e9 e10 e11 e12 e13 e14 ez c0 c1 c2 c3 c4 c5 c6 c7 c8 c9 c10 c11 c12 c13 c14 cz
  go_wp2_with fail
  refine bodyPost_ret (v := .tuple #[.int .i64 (fewN l), .int .i64 0]) (by simp [results, Try.results47, go_sem]) rfl ⟨rfl, bup hB2 hb2⟩

/-- Does each of a list clash with none before it. -/
def apartAll (f : Nat → W2) (n : Nat) (g : Nat → Int) : Nat → Bool
  | 0 => true
  | k + 1 => apartAll f n g k && apartB f n g k (g k).toNat
theorem apartAll_no {f : Nat → W2} {n : Nat} {g : Nat → Int} (k : Nat) : ∀ m, k < m → apartB f n g k (g k).toNat = false → apartAll f n g m = false
  | 0, h, _ => absurd h (Nat.not_lt_zero _)
  | m + 1, h, hb => by
    by_cases e : k = m
    · subst e; simp [apartAll, hb]
    · simp [apartAll, apartAll_no k m (by omega) hb]

set_option maxHeartbeats 8000000 in
theorem CheckList_yes_c (s M : Nat) (a : Option Addr) (n cap : Nat) (f : Nat → W2) (la : Option Addr) (len lcap : Nat) (g : Nat → Int) (w : World) (hf : Wants w a n f) (hn : n ≤ 1048576) (hg : Ints w la len g) (hl : len ≤ 1048576) (hc2 : len ≤ lcap) (_ : lcap ≤ 9223372036854775807) (hE : bookE s M n f = 0) :
    Calls Try.prog 30 #[bookV s M a n cap, .slice la len lcap] w fun e w' => e = .returned (.int .i64 (if listB g n len = true then (if apartAll f n g len = true then 0 else 18) else 3)) ∧ Below w.heap.size w w' := by
  obtain ⟨r, hr⟩ : ∃ r : Int, (if listB g n len = true then (if apartAll f n g len = true then 0 else 18) else 3) = r := ⟨_, rfl⟩
  rw [hr]
  have HRR := Lib.hid hr
  clear hr
  obtain ⟨W, hW⟩ : ∃ W, w.alloc (.cells #[.int .i64 s, .int .i64 M, .slice a n cap] 24) = W := ⟨_, rfl⟩
  have hB : Below w.heap.size w W := by rw [← hW]; exact Below.alloc1 (Below.refl _ _) _ (Nat.le_refl _)
  have hR : RowIs W w.heap.size #[.int .i64 s, .int .i64 M, .slice a n cap] 24 := by rw [← hW]; exact heap_new_at _ _ _ rfl
  have r0 : W.cell? ⟨w.heap.size, 0, none⟩ = some (.int .i64 s) := RowIs.cell hR 0
  have r1 : W.cell? ⟨w.heap.size, 1, none⟩ = some (.int .i64 M) := RowIs.cell hR 1
  have r2 : W.cell? ⟨w.heap.size, 2, none⟩ = some (.slice a n cap) := RowIs.cell hR 2
  have hGB := book_good hE
  have hs6 : s ≤ 6 := by have := hGB.1; omega
  have hm6 : M ≤ 6 := by have := hGB.2.1; omega
  have hn14 : n ≤ 14 := hGB.2.2.1
  have hc := newDesk_yes_c s M a n cap f W (hf.below hB) hn hE
  obtain ⟨l, hl⟩ : ∃ l, bookL f n = l := ⟨_, rfl⟩
  rw [hl] at hc
  try rw [hl]
  have HLB := Lib.hid hl
  have HC := Lib.hid hc
  have HGB := Lib.hid hGB
  have Hf := Lib.hid hf
  have HE := Lib.hid hE
  clear hR hc hl hGB hf hE
  go_enter Try.func30, Try.ntmps30
  go_wp2_with fail
  refine HC.out.mono ?_
  rintro e w1 ⟨rfl, hb1⟩
  have hB1 := bup hB hb1
  obtain ⟨V, U, z, hN⟩ := newDesk w1 s M a n cap l
  have hV := hN.made
  have hz := hN.size
  have hU := hN.stored
  simp only [putL, deskL, Nat.reduceAdd] at hU
  obtain ⟨f0, f1, f2, f3, f4, f5, f6, f7, f8, f9, f10, f11, f12, f13, f14⟩ := deskfree hN.zero
  obtain ⟨e0, e1, e2, e3, e4, e5, e6, e7, e8, e9, e10, e11, e12, e13, e14, ez⟩ := deskcells hN.zero
  obtain ⟨c0, c1, c2, c3, c4, c5, c6, c7, c8, c9, c10, c11, c12, c13, c14, cz⟩ := deskcells hN.row
  have hB2 := bup hB1 hN.below
  have HR := Lib.hid hN.row
  clear hN hW r0 r1 r2 hB hb1 hB1 HC
  have Hg := Lib.hid hg
  clear hg
  have i1 := Indexes_c n la len lcap g U (Cells.below Hg.out hB2) hl (by omega)
  have I1 := Lib.hid i1
  clear i1
  go_wp2_with fail
  refine I1.out.mono ?_
  rintro e w2 ⟨rfl, hb2⟩
  clear hU hV f0 f1 f2 f3 f4 f5 f6 f7 f8 f9 f10 f11 f12 f13 f14 e0 e1 e2 e3 e4 e5 e6 e7 e8 e9 e10 e11 e12 e13 e14 ez c0 c1 c2 c3 c4 c5 c6 c7 c8 c9 c10 c11 c12 c13 c14 cz
  have hB3 := bup hB2 hb2
  have hr2 := HR.out.below hb2
  have HR2 := Lib.hid hr2
  clear hr2
  cases h1 : listB g n len with
  | false =>
    have h3 : r = 3 := by rw [← HRR.out, h1]; rfl
    subst h3
    clear h1
    go_wp2_with fail
    go_ret
    exact ⟨rfl, hB3⟩
  | true =>
    have H1 := Lib.hid h1
    have hgr := listB_range g n len h1
    have HGR := Lib.hid hgr
    clear h1 hgr
    go_wp2_with fail
    go_loopw [26] (fun i wr => ∃ k : Nat, k ≤ len ∧ i = .int .i64 k ∧ apartAll f n g k = true ∧ Below w2.heap.size w2 wr) (fun i _ => len - (intOf i).toNat)
    case atStart => exact ⟨0, Nat.zero_le _, rfl, rfl, Below.refl _ _⟩
    case round =>
      obtain ⟨k, hk, rfl, ho, hbr⟩ := hrel
      have Ho := Lib.hid ho
      clear ho
      by_cases hlt : k < len
      · obtain ⟨b, off, rfl, hbs, hc⟩ := Cells.at (Cells.below Hg.out (bup hB3 hbr)) k hlt
        have ck := hc k hlt
        have HGk := Lib.hid (show Ints wr (some ⟨b, off, none⟩) k g from .inr ⟨b, off, rfl, hbs, fun i hi => hc i (by omega)⟩)
        obtain ⟨y, hy⟩ := Int.eq_ofNat_of_zero_le (HGR.out k hlt).1
        have hyn : y < n := by have := (HGR.out k hlt).2; omega
        rw [hy] at ck
        have hr3 := HR2.out.below hbr
        obtain ⟨c0, c1, c2, c3, c4, c5, c6, c7, c8, c9, c10, c11, c12, c13, c14, cz⟩ := deskcells hr3
        have hfr := hbr
        have kk := fun (u : Later wr) => apart_c s M a n cap f l (some ⟨b, off, none⟩) k lcap g y u.w (Hf.out.below (bup (bup hB3 hbr) u.h)) (Cells.below HGk.out u.h) hyn hn (by omega)
        have hv : apartB f n g k y = apartB f n g k (g k).toNat := by rw [hy]; rfl
        have HV := Lib.hid hv
        have KK := Lib.hid kk
        clear hc kk hr3 hv
        go_wp2_with fail
        have hlc := fun (x : Later wr) => later_cell x
        refine wp_region_later (by kernel_rfl) (by kernel_rfl) ?_
        repeat (go_big_quiet_step ((with_reducible refine calls_later (KK.out _))))
        refine wpQuiet_nil ?_
        clear hlc c0 c1 c2 c3 c4 c5 c6 c7 c8 c9 c10 c11 c12 c13 c14 cz
        rintro ⟨w4, hb4⟩
        cases h4 : apartB f n g k y with
        | false =>
          have h5 : r = 18 := by rw [← HRR.out, if_pos H1.out, if_neg (by rw [apartAll_no k len hlt (by rw [← HV.out]; exact h4)]; simp)]
          subst h5
          clear h4
          go_wp2_with fail
          go_ret
          exact ⟨rfl, bup (bup hB3 hbr) hb4⟩
        | true =>
          have H4 := Lib.hid h4
          clear h4
          go_wp2_with fail
          go_roundw
          case rel => exact ⟨k + 1, by omega, by go_num, by rw [apartAll, Ho.out, ← HV.out, H4.out]; rfl, bup hbr hb4⟩
          case measure => simp [intOf]; omega
      · obtain rfl : k = len := by omega
        have h5 : r = 0 := by rw [← HRR.out, if_pos H1.out, if_pos Ho.out]
        subst h5
        go_wp2_with fail
        go_ret
        exact ⟨rfl, bup hB3 hbr⟩

end Go.Proofs.Ytbjgbgchagfokaa

namespace Go.Proofs.Ytbjgbgchagfokaa
open Go Go.RowKit

/-- The lists of the last m numbers below n, one after another. -/
def lastsL (g : Nat → List (List Nat)) (n : Nat) : Nat → List (List Nat)
  | 0 => []
  | m + 1 => g (n - (m + 1)) ++ lastsL g n m
theorem lastsL_range (g : Nat → List (List Nat)) (n : Nat) : ∀ m, m ≤ n → (List.range' (n - m) m).flatMap g = lastsL g n m
  | 0, _ => by simp [lastsL]
  | m + 1, h => by
    rw [List.range'_succ, List.flatMap_cons, lastsL, show n - (m + 1) + 1 = n - m by omega, lastsL_range g n m (by omega)]
theorem lastsL_drop (g : Nat → List (List Nat)) (n : Nat) : ∀ k, k ≤ n → (∀ i, i < k → g i = []) → lastsL g n n = lastsL g n (n - k)
  | 0, _, _ => rfl
  | k + 1, hk, h => by
    rw [lastsL_drop g n k (by omega) fun i hi => h i (by omega)]
    obtain ⟨m, hm⟩ : ∃ m, n - k = m + 1 := ⟨n - (k + 1), by omega⟩
    rw [hm, lastsL, show n - (m + 1) = k by omega, h k (by omega), show n - (k + 1) = m by omega]
    rfl
theorem lastsL_congr {g h : Nat → List (List Nat)} {n : Nat} : ∀ m, m ≤ n → (∀ i, n - m ≤ i → i < n → g i = h i) → lastsL g n m = lastsL h n m
  | 0, _, _ => rfl
  | m + 1, hm, he => by rw [lastsL, lastsL, lastsL_congr m (by omega) fun i h1 h2 => he i (by omega) h2, he (n - (m + 1)) (Nat.le_refl _) (by omega)]
theorem tailsL_lasts (F : List Nat → Nat → Bool) (n : Nat) (b : List Nat) : ∀ m, m ≤ n → tailsL F n m b = lastsL (fun i => if F b i then (b ++ [i]) :: tailsL F n (n - (i + 1)) (b ++ [i]) else []) n m
  | 0, _ => rfl
  | m + 1, h => by rw [tailsL, lastsL, tailsL_lasts F n b m (by omega), show n - (n - (m + 1) + 1) = m by omega]

/-- The first number behind a list's last one. -/
def nxtL (b : List Nat) : Nat := if b.length = 0 then 0 else b.getD (b.length - 1) 0 + 1
theorem nxtL_more (b : List Nat) (i : Nat) : nxtL (b ++ [i]) = i + 1 := by simp [nxtL]
theorem rise_nxt (F : List Nat → Nat → Bool) (b : List Nat) (i : Nat) : riseB F b i = (decide (nxtL b ≤ i) && F b i) := by
  unfold riseB nxtL
  by_cases h : b.length = 0
  · simp [h]
  · simp [h, Nat.succ_le_iff]
theorem grow_tails (F : List Nat → Nat → Bool) (n : Nat) : ∀ r b, nxtL b ≤ n → n - nxtL b ≤ r → growL (riseB F) n r b = b :: tailsL F n (n - nxtL b) b
  | 0, b, h1, h2 => by
    rw [show n - nxtL b = 0 by omega]
    rfl
  | r + 1, b, h1, h2 => by
    rw [growL, List.range_eq_range']
    have e := lastsL_range (fun i => if riseB F b i then growL (riseB F) n r (b ++ [i]) else []) n n (Nat.le_refl _)
    rw [Nat.sub_self] at e
    rw [e, lastsL_drop _ n (nxtL b) h1 fun i hi => by rw [rise_nxt]; simp; omega, tailsL_lasts F n b _ (by omega)]
    congr 1
    refine lastsL_congr _ (by omega) fun i hi1 hi2 => ?_
    have hle : nxtL b ≤ i := by omega
    simp only [rise_nxt, hle, decide_true, Bool.true_and]
    cases F b i with
    | false => rfl
    | true =>
      simp only [if_true]
      rw [grow_tails F n r (b ++ [i]) (by rw [nxtL_more]; omega) (by rw [nxtL_more]; omega), nxtL_more]
theorem lists_tails (F : List Nat → Nat → Bool) (n : Nat) : listsL F n = [] :: tailsL F n n [] := grow_tails F n n [] (by simp [nxtL]) (by simp [nxtL])

theorem bestS_best : ∀ (xs : List (List Nat)) (b : List Nat), xs.foldl (bestStep longerB) (some b) = some (bestL b xs)
  | [], _ => rfl
  | x :: xs, b => by
    rw [List.foldl_cons, bestL]
    have : bestStep longerB (some b) x = some (pick b x) := by
      simp only [bestStep, longerB, pick, decide_eq_true_eq]
      split <;> rfl
    rw [this, bestS_best xs]
theorem bestOf_best (f : Nat → W2) (n : Nat) : bestOf f n = bestL [] (tailsL (apartL f n) n n []) := by
  unfold bestOf bestS
  rw [lists_tails, List.foldl_cons]
  show (List.foldl (bestStep longerB) (some []) _).getD [] = _
  rw [bestS_best]
  rfl

theorem bestS_key (f : Nat → W2) (n : Nat) : ∀ (xs : List (List Nat)) (b : List Nat), xs.foldl (bestStep (shorterB f n)) (some b) = some (bestK (fewL f n) b xs)
  | [], _ => rfl
  | x :: xs, b => by
    rw [List.foldl_cons, bestK]
    have : bestStep (shorterB f n) (some b) x = some (pickK (fewL f n) b x) := by
      simp only [bestStep, shorterB, pickK, decide_eq_true_eq]
      split <;> rfl
    rw [this, bestS_key f n xs]
theorem shortOf_best (f : Nat → W2) (n s : Nat) (l : Nat → Int) : shortOf f n s l = bestK (fewL f n) [] (tailsL (fun _ i => decide (0 < l i)) s s []) := by
  unfold shortOf bestS
  rw [lists_tails, List.foldl_cons]
  show (List.foldl (bestStep (shorterB f n)) (some []) _).getD [] = _
  rw [bestS_key]
  rfl

end Go.Proofs.Ytbjgbgchagfokaa

namespace Go.Proofs.Ytbjgbgchagfokaa
open Go Go.RowKit

/-- The fewest days are the greatest load. -/
theorem few_great {s M : Int} {n : Nat} {f : Nat → W2} (hG : GoodBook s M n f) : ∃ D : Nat, fewN (bookL f n) = (D : Int) ∧ D ≤ 14 ∧ D ≤ n ∧ IsGreatest f n D := by
  obtain ⟨h1, h2, h3, h4⟩ := hG
  have h0 : 0 ≤ fewN (bookL f n) := Int.le_trans (ldF_bd f (fun _ => true) 0 n).1 (maxF_ge (bookL f n) 11 0 (by omega))
  have h14 : fewN (bookL f n) ≤ n := maxF_le _ _ _ fun i _ => (ldF_bd f (fun _ => true) i n).2
  obtain ⟨D, hD⟩ : ∃ D : Nat, fewN (bookL f n) = (D : Int) := ⟨(fewN (bookL f n)).toNat, by omega⟩
  refine ⟨D, hD, by omega, by omega, fun E => ⟨fun hE => ?_, fun hE => ⟨fun x => ?_, fun x => ?_⟩⟩⟩
  · have : fewN (bookL f n) ≤ (E : Int) := maxF_le _ _ _ fun i hi => by
      by_cases h6 : i < 6
      · have e := ldF_shop (f := f) (n := n) (x := i) h6 fun i hi => (h4 i hi).2.1
        have := hE.1 i
        show ldF f (fun _ => true) i n ≤ _
        omega
      · obtain ⟨y, rfl⟩ := Nat.exists_eq_add_of_le (Nat.not_lt.1 h6)
        have e := ldF_mould (f := f) (n := n) (y := y) fun i hi => by have := (h4 i hi).1.2; omega
        have := hE.2 y
        show ldF f (fun _ => true) (6 + y) n ≤ _
        omega
    omega
  · by_cases hx : 0 ≤ x ∧ x < 6
    · obtain ⟨k, rfl⟩ := Int.eq_ofNat_of_zero_le hx.1
      have := maxF_ge (bookL f n) 11 k (by omega)
      have e := ldF_shop (f := f) (n := n) (x := k) (by omega) fun i hi => (h4 i hi).2.1
      have : (many (fun i => (f i).s) (k : Int) n : Int) ≤ fewN (bookL f n) := by rw [← e]; exact this
      omega
    · rw [many_none fun i hi => by have := (h4 i hi).1; omega]
      exact Nat.zero_le _
  · by_cases hx : 0 ≤ x ∧ x < 6
    · obtain ⟨k, rfl⟩ := Int.eq_ofNat_of_zero_le hx.1
      have := maxF_ge (bookL f n) 11 (6 + k) (by omega)
      have e := ldF_mould (f := f) (n := n) (y := k) fun i hi => by have := (h4 i hi).1.2; omega
      have : (many (fun i => (f i).m) (k : Int) n : Int) ≤ fewN (bookL f n) := by rw [← e]; exact this
      omega
    · rw [many_none fun i hi => by have := (h4 i hi).2; omega]
      exact Nat.zero_le _

theorem natD_cast (d : Nat → Nat) : natD (fun i => (d i : Int)) = d := by
  funext i
  show ((d i : Nat) : Int).toNat = d i
  omega
/-- Right days below 15 are without an error. -/
theorem days_zero {S M : Int} {n : Nat} {f : Nat → W2} {d : Nat → Nat} {D : Nat} (hE : bookE S M n f = 0) (hD : D ≤ 14) (hR : Right f n D d) : daysE S M n f n (fun i => (d i : Int)) = 0 := by
  have h1 : daysIn (fun i => (d i : Int)) n = true := (daysIn_iff _ n).2 fun i hi => ⟨by omega, by have := hR.1 i hi; omega⟩
  have h2 : rightB f (fun i => (d i : Int)) n = true := (right_iff (D := D) fun i hi => ⟨by omega, by have := hR.1 i hi; omega⟩).2 (by rw [natD_cast]; exact hR)
  rw [daysE, if_pos hE, if_pos rfl, if_pos h1, if_pos h2]
/-- As many days as the fewest are all used. -/
theorem days_few {f : Nat → W2} {n D : Nat} {d : Nat → Nat} (hG : IsGreatest f n D) (hR : Right f n D d) : differentN (fun i => (d i : Int)) n = D := by
  rw [differentN_used (D := D) fun i hi => ⟨by omega, by have := hR.1 i hi; omega⟩, natD_cast]
  exact greatest_used hG hR

def natG (x : List Nat) (i : Nat) : Int := ((x.getD i 0 : Nat) : Int)

theorem apartB_iff (f : Nat → W2) (n : Nat) (g : Nat → Int) (len want : Nat) : apartB f n g len want = true ↔ ∀ i, i < n → i ≠ want → clashB f i want = true → ∀ k, k < len → g k ≠ (i : Int) := by
  unfold apartB clashL
  simp only [List.all_eq_true, List.mem_filter, List.mem_range, Bool.and_eq_true, decide_eq_true_eq, Bool.not_eq_true']
  constructor
  · intro h i hi hne hc k hk e
    have := h i ⟨hi, hne, hc⟩
    rw [(hasB_iff g i len).2 ⟨k, hk, e⟩] at this
    cases this
  · intro h i ⟨hi, hne, hc⟩
    cases hb : hasB g i len with
    | false => rfl
    | true =>
      obtain ⟨k, hk, e⟩ := (hasB_iff g i len).1 hb
      exact absurd e (h i hi hne hc k hk)
theorem apartB_same {f : Nat → W2} {n : Nat} {g h : Nat → Int} {len want : Nat} (e : ∀ i, i < len → g i = h i) (hg : apartB f n g len want = true) : apartB f n h len want = true :=
  (apartB_iff f n h len want).2 fun i hi hne hc k hk => by rw [← e k hk]; exact (apartB_iff f n g len want).1 hg i hi hne hc k hk
theorem apartAll_iff (f : Nat → W2) (n : Nat) (g : Nat → Int) : ∀ m, apartAll f n g m = true ↔ ∀ k, k < m → apartB f n g k (g k).toNat = true
  | 0 => ⟨fun _ k hk => absurd hk (Nat.not_lt_zero _), fun _ => rfl⟩
  | m + 1 => by
    rw [apartAll, Bool.and_eq_true, apartAll_iff f n g m]
    exact ⟨fun h k hk => by
      by_cases e : k = m
      · rw [e]; exact h.2
      · exact h.1 k (by omega), fun h => ⟨fun k hk => h k (by omega), h m (by omega)⟩⟩
/-- The program's question about a list is the document's. -/
theorem apart_day {f : Nat → W2} {n : Nat} {g : Nat → Int} {len : Nat} (hl : listB g n len = true) : apartAll f n g len = dayB f g len := by
  rw [Bool.eq_iff_iff, apartAll_iff, dayB_iff]
  have hr := fun i hi => ((listB_iff g n len).1 hl i hi).1
  have key : ∀ j k, j < k → k < len → natD g j ≠ natD g k := fun j k h1 h2 e => by
    have := listB_mono hl h1 h2
    have := hr j (by omega)
    have := hr k h2
    unfold natD at e
    omega
  constructor
  · intro h
    have one : ∀ j k, j < k → k < len → ¬ Clashes f (natD g j) (natD g k) := fun j k h1 h2 hc => by
      have hj := hr j (by omega)
      refine (apartB_iff f n g k (g k).toNat).1 (h k h2) (natD g j) (by unfold natD; omega) (key j k h1 h2) ((clashB_iff f _ _).2 hc) j h1 ?_
      unfold natD
      omega
    intro i k hi hk hne hc
    rcases Nat.lt_or_gt_of_ne hne with h1 | h1
    · exact one i k h1 hk hc
    · exact one k i h1 hi hc.symm
  · intro h k hk
    refine (apartB_iff f n g k (g k).toNat).2 fun i hi hne hc j hj e => ?_
    have hc' := (clashB_iff f _ _).1 hc
    have : natD g j = i := by unfold natD; omega
    rw [← this] at hc'
    exact h j k (by omega) hk (by omega) hc'

theorem natG_lo (b : List Nat) (j : Nat) {i : Nat} (h : i < b.length) : natG (b ++ [j]) i = natG b i := by
  unfold natG
  rw [List.getD_eq_getElem?_getD, List.getD_eq_getElem?_getD, List.getElem?_append_left h]
theorem natG_hi (b : List Nat) (j : Nat) : natG (b ++ [j]) b.length = (j : Int) := by
  unfold natG
  rw [List.getD_eq_getElem?_getD, List.getElem?_append_right (Nat.le_refl _)]
  simp
theorem natG_mem {b : List Nat} {i : Nat} (h : i < b.length) : b.getD i 0 ∈ b := by
  rw [List.getD_eq_getElem?_getD, List.getElem?_eq_getElem h, Option.getD_some]
  exact List.getElem_mem h
theorem mem_natG {b : List Nat} {k : Nat} (h : k ∈ b) : ∃ i, i < b.length ∧ b.getD i 0 = k := by
  obtain ⟨i, hi, e⟩ := List.mem_iff_getElem.1 h
  exact ⟨i, hi, by rw [List.getD_eq_getElem?_getD, List.getElem?_eq_getElem hi, Option.getD_some, e]⟩

theorem apartL_iff (f : Nat → W2) (n : Nat) (b : List Nat) (j : Nat) (hj : j < n) (hlt : ∀ k, k ∈ b → k < j) : apartL f n b j = true ↔ ∀ k, k ∈ b → (f k).s ≠ (f j).s ∧ (f k).m ≠ (f j).m := by
  unfold apartL
  rw [apartB_iff]
  constructor
  · intro h k hk
    obtain ⟨i, hi, e⟩ := mem_natG hk
    have := hlt k hk
    have hc : ¬ clashB f k j = true := fun hc => h k (by omega) (by omega) hc i hi (by rw [e])
    rw [clashB_iff] at hc
    exact ⟨fun h1 => hc (.inl h1), fun h1 => hc (.inr h1)⟩
  · intro h i hi hne hc k hk e
    have hm := natG_mem hk
    have e' : b.getD k 0 = i := by omega
    rw [e'] at hm
    rcases (clashB_iff f i j).1 hc with h1 | h1
    · exact (h i hm).1 h1
    · exact (h i hm).2 h1

/-- A list that is a day's list as the checks say it. -/
def GoodL (f : Nat → W2) (n : Nat) (x : List Nat) : Prop := listB (natG x) n x.length = true ∧ apartAll f n (natG x) x.length = true
theorem goodL_nil (f : Nat → W2) (n : Nat) : GoodL f n [] := ⟨rfl, rfl⟩
theorem goodL_more {f : Nat → W2} {n : Nat} {b : List Nat} {j : Nat} (h : GoodL f n b) (hj : j < n) (hlt : ∀ k, k ∈ b → k < j) (ha : apartL f n b j = true) : GoodL f n (b ++ [j]) := by
  have hlen : (b ++ [j]).length = b.length + 1 := by simp
  refine ⟨?_, ?_⟩
  · rw [hlen, listB_iff]
    intro i hi
    by_cases e : i = b.length
    · subst e
      rw [natG_hi]
      refine ⟨by omega, fun h0 => ?_⟩
      rw [natG_lo b j (by omega)]
      have := hlt _ (natG_mem (b := b) (i := b.length - 1) (by omega))
      unfold natG
      omega
    · have h1 := (listB_iff _ _ _).1 h.1 i (by omega)
      rw [natG_lo b j (by omega)]
      refine ⟨h1.1, fun h0 => ?_⟩
      rw [natG_lo b j (by omega)]
      exact h1.2 h0
  · rw [hlen, apartAll_iff]
    intro k hk
    by_cases e : k = b.length
    · subst e
      rw [natG_hi]
      exact apartB_same (fun i hi => (natG_lo b j hi).symm) ha
    · rw [natG_lo b j (by omega)]
      exact apartB_same (fun i hi => (natG_lo b j (by omega)).symm) ((apartAll_iff _ _ _ _).1 h.2 k (by omega))
theorem best_good (f : Nat → W2) (n : Nat) : GoodL f n (bestOf f n) := by
  rw [bestOf_best]
  rcases bestL_mem (tailsL (apartL f n) n n []) [] with h | h
  · rw [h]; exact goodL_nil f n
  · exact tails_all (apartL f n) n (GoodL f n) (fun b j hb hj hlt ha => goodL_more hb hj hlt ha) n [] (Nat.le_refl _) (goodL_nil f n) (fun k hk => absurd hk List.not_mem_nil) _ h
theorem best_most (f : Nat → W2) (n : Nat) : Day f n (fun i => i ∈ bestOf f n) ∧ cnt (fun i => i ∈ bestOf f n) n = (bestOf f n).length ∧ (∀ k, k ∈ bestOf f n → k < n) ∧ ∀ M', Day f n M' → cnt M' n ≤ (bestOf f n).length := by
  rw [bestOf_best]
  exact bestL_most f n (apartL f n) fun b j hj hlt => apartL_iff f n b j hj hlt
/-- A list that the document calls a day's list is no longer than the best. -/
theorem list_best {f : Nat → W2} {n len : Nat} {g : Nat → Int} (hl : listB g n len = true) (hd : dayB f g len = true) : len ≤ (bestOf f n).length := by
  have h := (best_most f n).2.2.2 _ ((dayB_day hl).1 hd)
  rw [listB_cnt hl] at h
  exact h
end Go.Proofs.Ytbjgbgchagfokaa

namespace Go.Proofs.Ytbjgbgchagfokaa
open Go Go.RowKit Go.Shelf

set_option maxHeartbeats 8000000 in
theorem fine_c (S M : Int) (a : Option Addr) (n cap : Nat) (f : Nat → W2) (w : World) (hf : Wants w a n f) :
    Calls Try.prog 36 #[bookV S M a n cap] w fun e w' => e = .returned (.bool (decide (bookE S M n f = 0))) ∧ Below w.heap.size w w' := by
  obtain ⟨W, hW⟩ : ∃ W, w.alloc (.cells #[.int .i64 S, .int .i64 M, .slice a n cap] 24) = W := ⟨_, rfl⟩
  have hB : Below w.heap.size w W := by rw [← hW]; exact Below.alloc1 (Below.refl _ _) _ (Nat.le_refl _)
  have hR : RowIs W w.heap.size #[.int .i64 S, .int .i64 M, .slice a n cap] 24 := by rw [← hW]; exact heap_new_at _ _ _ rfl
  have r0 : W.cell? ⟨w.heap.size, 0, none⟩ = some (.int .i64 S) := RowIs.cell hR 0
  have r1 : W.cell? ⟨w.heap.size, 1, none⟩ = some (.int .i64 M) := RowIs.cell hR 1
  have r2 : W.cell? ⟨w.heap.size, 2, none⟩ = some (.slice a n cap) := RowIs.cell hR 2
  have rz : w.heap.size < W.heap.size := hR.lt
  have HF := Lib.hid (hf.below hB)
  clear hR hf
  cases hg : decide (20 < n) with
  | true =>
    have h20 := of_decide_eq_true hg
    have hE : decide (bookE S M n f = 0) = false := by
      rw [decide_eq_false_iff_not, bookE, if_pos (by omega)]
      omega
    rw [hE]
    clear hE h20
    go_enter Try.func36, Try.ntmps36
    go_wp2_with fail
    refine (great_c S M a n cap _).mono ?_
    rintro e w1 ⟨rfl, hb1⟩
    rw [hg]
    go_wp2_with fail
    go_ret
    exact ⟨rfl, bup hB hb1⟩
  | false =>
    have h20 := of_decide_eq_false hg
    obtain ⟨E, hE⟩ : ∃ E, bookE S M n f = E := ⟨_, rfl⟩
    rw [hE]
    have HE := Lib.hid hE
    clear hE
    have HG := Lib.hid (fun (x : World) => great_c S M a n cap x)
    rw [hg] at HG
    clear hg
    go_enter Try.func36, Try.ntmps36
    go_wp2_with fail
    refine (HG.out _).mono ?_
    rintro e w1 ⟨rfl, hb1⟩
    have q0 := (hb1.cell (p := ⟨w.heap.size, 0, none⟩) rz).trans r0
    have q1 := (hb1.cell (p := ⟨w.heap.size, 1, none⟩) rz).trans r1
    have q2 := (hb1.cell (p := ⟨w.heap.size, 2, none⟩) rz).trans r2
    replace HF := Lib.hid (HF.out.below hb1)
    clear r0 r1 r2
    go_wp2_with fail
    refine (rcheckBook_c S M a n cap f _ HF.out (by omega)).mono ?_
    rintro e w2 ⟨rfl, hb2⟩
    rw [HE.out]
    go_wp2_with fail
    go_ret
    exact ⟨ret_b (by by_cases h : E = 0 <;> simp [h]), bup hB (bup hb1 hb2)⟩

set_option maxHeartbeats 8000000 in
theorem few_c (s M : Nat) (a : Option Addr) (n cap : Nat) (f : Nat → W2) (w : World) (hf : Wants w a n f) (hE : bookE s M n f = 0) :
    Calls Try.prog 37 #[bookV s M a n cap] w fun e w' => ∃ (db : Nat) (d : Nat → Nat) (D : Nat), e = .returned (.tuple #[.int .i64 D, .slice (some ⟨db, 0, none⟩) n n, .bool true]) ∧ RowIs w' db (rowA n fun i => (d i : Int)) 3 ∧ w.heap.size ≤ db ∧ Below w.heap.size w w' ∧ D ≤ 14 ∧ IsGreatest f n D ∧ ∀ p, Firsts f n D 0 p d := by
  obtain ⟨D, hD, hD14, hDn, hG⟩ := few_great (book_good hE)
  have hn14 : n ≤ 14 := (book_good hE).2.2.1
  obtain ⟨W, hW⟩ : ∃ W, w.alloc (.cells #[.int .i64 s, .int .i64 M, .slice a n cap] 24) = W := ⟨_, rfl⟩
  have hB : Below w.heap.size w W := by rw [← hW]; exact Below.alloc1 (Below.refl _ _) _ (Nat.le_refl _)
  have hR : RowIs W w.heap.size #[.int .i64 s, .int .i64 M, .slice a n cap] 24 := by rw [← hW]; exact heap_new_at _ _ _ rfl
  have r0 : W.cell? ⟨w.heap.size, 0, none⟩ = some (.int .i64 s) := RowIs.cell hR 0
  have r1 : W.cell? ⟨w.heap.size, 1, none⟩ = some (.int .i64 M) := RowIs.cell hR 1
  have r2 : W.cell? ⟨w.heap.size, 2, none⟩ = some (.slice a n cap) := RowIs.cell hR 2
  have rz : w.heap.size < W.heap.size := hR.lt
  have HF := Lib.hid (hf.below hB)
  have HE := Lib.hid hE
  have HD := Lib.hid hD
  clear hR hf hE hD
  have tD : ((D : Int) == (D : Int)) = true := by simp
  go_enter Try.func37, Try.ntmps37
  go_wp2_with fail
  refine (Fewest_yes_c s M a n cap f _ HF.out (by omega) HE.out).mono ?_
  rintro e w1 ⟨rfl, hb1⟩
  rw [HD.out]
  have q0 := (hb1.cell (p := ⟨w.heap.size, 0, none⟩) rz).trans r0
  have q1 := (hb1.cell (p := ⟨w.heap.size, 1, none⟩) rz).trans r1
  have q2 := (hb1.cell (p := ⟨w.heap.size, 2, none⟩) rz).trans r2
  have qz := Nat.lt_of_lt_of_le rz hb1.size
  replace HF := Lib.hid (HF.out.below hb1)
  replace hB := bup hB hb1
  clear r0 r1 r2 rz hb1
  go_wp2_with fail
  refine (Days_yes_c s M a n cap f _ HF.out (by omega) HE.out).mono ?_
  rintro e w2 ⟨db, d, D', rfl, hrow, hle, hb2, hD', hF⟩
  obtain rfl : D' = D := by have := HD.out; omega
  have r0 := (hb2.cell (p := ⟨w.heap.size, 0, none⟩) qz).trans q0
  have r1 := (hb2.cell (p := ⟨w.heap.size, 1, none⟩) qz).trans q1
  have r2 := (hb2.cell (p := ⟨w.heap.size, 2, none⟩) qz).trans q2
  have rz := Nat.lt_of_lt_of_le qz hb2.size
  replace HF := Lib.hid (HF.out.below hb2)
  have hle2 : w.heap.size ≤ db := Nat.le_trans hB.size hle
  replace hB := bup hB hb2
  clear q0 q1 q2 qz hb2 hD'
  have hRight := (hF fun _ => 0).right
  have e0 : daysE s M n f n (fun i => (d i : Int)) = 0 := days_zero HE.out hD14 hRight
  have eN : daysN 0 (fun i => (d i : Int)) n = (D' : Int) := by rw [daysN, if_pos rfl, days_few hG hRight]
  have HX := Lib.hid e0
  have HY := Lib.hid eN
  have HR2 := Lib.hid hrow
  have HFi := Lib.hid hF
  have HG := Lib.hid hG
  clear e0 eN hrow hF hG hRight
  go_wp2_with fail
  refine (CheckDays_c s M a n cap f (some ⟨db, 0, none⟩) n n _ _ HF.out (by omega) (ints_rowA HR2.out)).mono ?_
  rintro e w3 ⟨rfl, hb3⟩
  rw [HX.out, HY.out]
  have q0 := (hb3.cell (p := ⟨w.heap.size, 0, none⟩) rz).trans r0
  have q1 := (hb3.cell (p := ⟨w.heap.size, 1, none⟩) rz).trans r1
  have q2 := (hb3.cell (p := ⟨w.heap.size, 2, none⟩) rz).trans r2
  have qz := Nat.lt_of_lt_of_le rz hb3.size
  replace HF := Lib.hid (HF.out.below hb3)
  replace HR2 := Lib.hid (RowIs.below HR2.out hb3)
  replace hB := bup hB hb3
  clear r0 r1 r2 rz hb3
  go_wp2_with fail
  refine (rcheckDays_c s M a n cap f (some ⟨db, 0, none⟩) n n _ _ HF.out (by omega) (ints_rowA HR2.out) (by omega) (Nat.le_refl _) (by omega)).mono ?_
  rintro e w4 ⟨rfl, hb4⟩
  rw [HX.out, HY.out]
  go_wp2_with fail
  refine bodyPost_ret (v := .tuple #[.int .i64 D', .slice (some ⟨db, 0, none⟩) n n, .bool true]) (by simp [results, Try.results37, go_sem]) rfl ⟨db, d, D', rfl, RowIs.below HR2.out hb4, hle2, bup hB hb4, hD14, HG.out, HFi.out⟩

set_option maxHeartbeats 8000000 in
theorem best_c (s M : Nat) (a : Option Addr) (n cap : Nat) (f : Nat → W2) (w : World) (hf : Wants w a n f) (hE : bookE s M n f = 0) :
    Calls Try.prog 41 #[bookV s M a n cap] w fun e w' => ∃ p c, e = .returned (.tuple #[.slice p (bestOf f n).length c, .bool true]) ∧ Lst w' (bestOf f n) p c ∧ Below w.heap.size w w' := by
  have hn14 : n ≤ 14 := (book_good hE).2.2.1
  have hlen : (bestOf f n).length ≤ n := by
    rw [← (best_most f n).2.1]
    exact cnt_atmost _ _
  obtain ⟨g1, g2⟩ := best_good f n
  have e1 : (if listB (natG (bestOf f n)) n (bestOf f n).length = true then (if apartAll f n (natG (bestOf f n)) (bestOf f n).length = true then (0 : Int) else 18) else 3) = 0 := by rw [if_pos g1, if_pos g2]
  have e2 : listE s M n f (bestOf f n).length (natG (bestOf f n)) = 0 := by
    rw [listE, if_pos hE, if_pos g1, if_pos]
    rw [← apart_day g1]
    exact g2
  obtain ⟨x, hx⟩ : ∃ x, bestOf f n = x := ⟨_, rfl⟩
  rw [hx] at e1 e2 hlen ⊢
  have HX := Lib.hid hx
  have H1 := Lib.hid e1
  have H2 := Lib.hid e2
  clear hx g1 g2 e1 e2
  obtain ⟨W, hW⟩ : ∃ W, w.alloc (.cells #[.int .i64 s, .int .i64 M, .slice a n cap] 24) = W := ⟨_, rfl⟩
  have hB : Below w.heap.size w W := by rw [← hW]; exact Below.alloc1 (Below.refl _ _) _ (Nat.le_refl _)
  have hR : RowIs W w.heap.size #[.int .i64 s, .int .i64 M, .slice a n cap] 24 := by rw [← hW]; exact heap_new_at _ _ _ rfl
  have r0 : W.cell? ⟨w.heap.size, 0, none⟩ = some (.int .i64 s) := RowIs.cell hR 0
  have r1 : W.cell? ⟨w.heap.size, 1, none⟩ = some (.int .i64 M) := RowIs.cell hR 1
  have r2 : W.cell? ⟨w.heap.size, 2, none⟩ = some (.slice a n cap) := RowIs.cell hR 2
  have rz : w.heap.size < W.heap.size := hR.lt
  have HF := Lib.hid (hf.below hB)
  have HE := Lib.hid hE
  clear hR hf hE
  go_enter Try.func41, Try.ntmps41
  go_wp2_with fail
  refine (List_yes_c s M a n cap f _ HF.out (by omega) HE.out).mono ?_
  rw [HX.out]
  rintro e w1 ⟨p, c, rfl, hL, hb1⟩
  have q0 := (hb1.cell (p := ⟨w.heap.size, 0, none⟩) rz).trans r0
  have q1 := (hb1.cell (p := ⟨w.heap.size, 1, none⟩) rz).trans r1
  have q2 := (hb1.cell (p := ⟨w.heap.size, 2, none⟩) rz).trans r2
  have qz := Nat.lt_of_lt_of_le rz hb1.size
  replace HF := Lib.hid (HF.out.below hb1)
  replace hB := bup hB hb1
  have HL := Lib.hid hL
  clear r0 r1 r2 rz hb1 hL
  go_wp2_with fail
  refine (CheckList_yes_c s M a n cap f p x.length c (natG x) _ HF.out (by omega) HL.out.cells (by omega) HL.out.room HL.out.fit HE.out).mono ?_
  rintro e w2 ⟨rfl, hb2⟩
  rw [H1.out]
  have r0 := (hb2.cell (p := ⟨w.heap.size, 0, none⟩) qz).trans q0
  have r1 := (hb2.cell (p := ⟨w.heap.size, 1, none⟩) qz).trans q1
  have r2 := (hb2.cell (p := ⟨w.heap.size, 2, none⟩) qz).trans q2
  replace HF := Lib.hid (HF.out.below hb2)
  replace HL := Lib.hid (HL.out.below hb2)
  replace hB := bup hB hb2
  clear q0 q1 q2 qz hb2
  go_wp2_with fail
  refine (rcheckList_c s M a n cap f p x.length c (natG x) _ HF.out (by omega) HL.out.cells (by omega)).mono ?_
  rintro e w3 ⟨rfl, hb3⟩
  rw [H2.out]
  go_wp2_with fail
  refine bodyPost_ret (v := .tuple #[.slice p x.length c, .bool true]) (by simp [results, Try.results41, go_sem]) rfl ⟨p, c, rfl, HL.out.below hb3, bup hB hb3⟩

end Go.Proofs.Ytbjgbgchagfokaa
