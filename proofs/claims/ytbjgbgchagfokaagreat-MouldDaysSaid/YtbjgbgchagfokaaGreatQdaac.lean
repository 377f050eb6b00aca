/- Contracts of layer 2: the document's own greatest load, fewest days and first days. -/
import Derived.Shelf.Abstract
import Derived.Shelf.RegionOpen
import Derived.Test.YtbjgbgchagfokaaGreatProg
import Derived.Test.YtbjgbgchagfokaaGreatBasaa
import Derived.Test.YtbjgbgchagfokaaGreatBasac
import Derived.Test.YtbjgbgchagfokaaGreatBasab
import Derived.Test.YtbjgbgchagfokaaGreatBasah
import Derived.Test.YtbjgbgchagfokaaGreatQdaaa
import Derived.Test.YtbjgbgchagfokaaGreatQdaab
import Derived.Test.YtbjgbgchagfokaaGreatBasaf
import Derived.Test.YtbjgbgchagfokaaGreatBasay
import Derived.Test.YtbjgbgchagfokaaGreatBasba
import Derived.Test.YtbjgbgchagfokaaGreatBasax
import Derived.Test.YtbjgbgchagfokaaGreatBasao
import Derived.Test.YtbjgbgchagfokaaGreatBasam
import Derived.Test.YtbjgbgchagfokaaGreatBasat
namespace Go.Proofs.YtbjgbgchagfokaaGreat
open Go Go.RowKit Go.Shelf

theorem load_many (g : Nat → Int) (x : Nat) : ∀ n, loadF g x n = ((many g (x : Int) n : Nat) : Int)
  | 0 => rfl
  | n + 1 => by
    rw [loadF, many, load_many g x n]
    by_cases h : g n = (x : Int)
    · rw [if_pos h, if_pos h]; omega
    · rw [if_neg h, if_neg h]; omega

set_option maxHeartbeats 8000000 in
theorem Greatest_c (s m : Nat) (a : Option Addr) (n cap : Nat) (f : Nat → W2) (w : World) (hf : Wants w a n f) (hG : GoodBook s m n f) :
    Calls Tryz.prog 59 #[bookV s m a n cap] w fun e w' => e = .returned (.int .i64 ((greatestN s m n f : Nat) : Int)) ∧ Below w.heap.size w w' := by
  have hs6 : s ≤ 6 := by have := hG.1; omega
  have hm6 : m ≤ 6 := by have := hG.2.1; omega
  obtain ⟨W, hW⟩ : ∃ W, w.alloc (.cells #[.int .i64 s, .int .i64 m, .slice a n cap] 24) = W := ⟨_, rfl⟩
  have hB : Below w.heap.size w W := by rw [← hW]; exact Below.alloc1 (Below.refl _ _) _ (Nat.le_refl _)
  have hR : RowIs W w.heap.size #[.int .i64 s, .int .i64 m, .slice a n cap] 24 := by rw [← hW]; exact heap_new_at _ _ _ rfl
  have r0 : W.cell? ⟨w.heap.size, 0, none⟩ = some (.int .i64 s) := RowIs.cell hR 0
  have r1 : W.cell? ⟨w.heap.size, 1, none⟩ = some (.int .i64 m) := RowIs.cell hR 1
  have r2 : W.cell? ⟨w.heap.size, 2, none⟩ = some (.slice a n cap) := RowIs.cell hR 2
  have rz : w.heap.size < W.heap.size := hR.lt
  have HL := Lib.hid (LoadsOf_c s m a n cap f W (hf.below hB) hG)
  obtain ⟨hs, hhs⟩ : ∃ h : Nat → Nat, (fun x : Nat => many (fun i => (f i).s) (x : Int) n) = h := ⟨_, rfl⟩
  obtain ⟨hm, hhm⟩ : ∃ h : Nat → Nat, (fun x : Nat => many (fun i => (f i).m) (x : Int) n) = h := ⟨_, rfl⟩
  have hgr : greatestN s m n f = max (topL hs s) (topL hm m) := by rw [greatestN, hhs, hhm]
  have e1 : (fun x => loadF (fun i => (f i).s) x n) = fun x => ((hs x : Nat) : Int) := by rw [← hhs]; funext x; exact load_many _ _ _
  have e2 : (fun x => loadF (fun i => (f i).m) x n) = fun x => ((hm x : Nat) : Int) := by rw [← hhm]; funext x; exact load_many _ _ _
  rw [e1, e2] at HL
  have HGr := Lib.hid hgr
  clear hR hf hG hhs hhm e1 e2 hgr
  go_enter Tryz.func59, Tryz.ntmps59
  go_wp2_with fail
  refine HL.out.mono ?_
  rintro e w1 ⟨b1, b2, rfl, h1, h2, -, -, -, hb1⟩
  have H1 := Lib.hid h1
  have H2 := Lib.hid h2
  have HB := Lib.hid (bup hB hb1)
  clear h1 h2 hb1 hB r0 r1 r2 rz hW HL
  go_wp2_with fail
  go_loopw [5, 6] (fun t i wr => ∃ k : Nat, k ≤ s ∧ i = .int .i64 k ∧ t = .int .i64 ((topL hs k : Nat) : Int) ∧ Below w1.heap.size w1 wr) (fun _ i _ => s - (intOf i).toNat)
  case atStart => exact ⟨0, Nat.zero_le _, rfl, rfl, Below.refl _ _⟩
  case round =>
    obtain ⟨k, hk, rfl, rfl, hbr⟩ := hrel
    by_cases hlt : k < s
    · have ck : wr.cell? ⟨b1, k, none⟩ = some (.int .i64 ((hs k : Nat) : Int)) := (RowIs.cell (RowIs.below H1.out hbr) k).trans (rowA_get _ _ _ hlt)
      have hz1 := (RowIs.below H1.out hbr).lt
      have Hbr := Lib.hid hbr
      have Ht := Lib.hid (show topL hs (k + 1) = max (topL hs k) (hs k) from rfl)
      clear hbr
      go_wp2_with fail
      go_roundw
      case rel => exact ⟨k + 1, by omega, by go_num, by rw [Ht.out]; simp; omega, Hbr.out⟩
      case measure => simp [intOf]; omega
    · obtain rfl : k = s := by omega
      have Hbr := Lib.hid hbr
      clear hbr
      obtain ⟨t, ht⟩ : ∃ t, topL hs k = t := ⟨_, rfl⟩
      rw [ht]
      rw [ht] at HGr
      clear ht
      go_wp2_with fail
      go_loopw [5, 7] (fun u i wz => ∃ j : Nat, j ≤ m ∧ i = .int .i64 j ∧ u = .int .i64 ((max t (topL hm j) : Nat) : Int) ∧ Below w1.heap.size w1 wz) (fun _ i _ => m - (intOf i).toNat)
      case atStart => exact ⟨0, Nat.zero_le _, rfl, by simp [topL], Hbr.out⟩
      case round =>
        obtain ⟨j, hj, rfl, rfl, hbz⟩ := hrel
        by_cases hlt : j < m
        · have ck : wr.cell? ⟨b2, j, none⟩ = some (.int .i64 ((hm j : Nat) : Int)) := (RowIs.cell (RowIs.below H2.out hbz) j).trans (rowA_get _ _ _ hlt)
          have hz1 := (RowIs.below H2.out hbz).lt
          have Hbz := Lib.hid hbz
          have Ht := Lib.hid (show topL hm (j + 1) = max (topL hm j) (hm j) from rfl)
          obtain ⟨u, hu⟩ : ∃ u, max t (topL hm j) = u := ⟨_, rfl⟩
          have Hu := Lib.hid hu
          rw [hu]
          clear hbz hu
          go_wp2_with fail
          go_roundw
          case rel => exact ⟨j + 1, by omega, by go_num, by rw [Ht.out, ← Nat.max_assoc, Hu.out]; simp; omega, Hbz.out⟩
          case measure => simp [intOf]; omega
        · obtain rfl : j = m := by omega
          have hgr := HGr.out
          have HG2 := Lib.hid hgr.symm
          clear hgr
          go_wp2_with fail
          go_ret
          rw [← HG2.out]
          exact ⟨rfl, bup HB.out hbz⟩

theorem lst_zero (w : World) : Lst w [] none 0 := lst_nil
set_option maxHeartbeats 8000000 in
theorem DaysOf_c (s m : Nat) (a : Option Addr) (n cap : Nat) (f : Nat → W2) (w : World) (hf : Wants w a n f) (hE : bookE s m n f = 0) :
    Calls Tryz.prog 32 #[bookV s m a n cap] w fun e w' => ∃ p c l D, e = .returned (.slice p n c) ∧ l.length = n ∧ Lst w' l p c ∧ IsGreatest f n D ∧ Firsts f n D 0 (gd []) (gd l) ∧ Below w.heap.size w w' := by
  have hG := book_good hE
  have hn14 := hG.2.2.1
  have hgr : IsGreatest f n (greatestN s m n f) := greatestN_is (fun i hi => (hG.2.2.2 i hi).1) (fun i hi => (hG.2.2.2 i hi).2)
  have HC := Lib.hid (fun (x : World) (h : Wants x a n f) => Greatest_c s m a n cap f x h hG)
  obtain ⟨D, hD⟩ : ∃ D, greatestN s m n f = D := ⟨_, rfl⟩
  rw [hD] at hgr HC
  have hDn : D ≤ n := greatest_le hgr
  obtain ⟨d0, hd0⟩ := greatest_days hgr
  have HGo := Lib.hid (fun (x : World) (h : Wants x a n f) => goOn_c s m a n cap f D (by omega) (by omega) n [] none 0 x (by simp) ⟨fun i hi => absurd hi (Nat.not_lt_zero _), fun i k hi => absurd hi (Nat.not_lt_zero _)⟩ h (lst_zero x))
  have HNo := Lib.hid (fun (h : Nones f n D 0 (gd [])) => h d0 hd0 fun j hj => absurd hj (Nat.not_lt_zero _))
  have HGr := Lib.hid hgr
  obtain ⟨W, hW⟩ : ∃ W, w.alloc (.cells #[.int .i64 s, .int .i64 m, .slice a n cap] 24) = W := ⟨_, rfl⟩
  have hB : Below w.heap.size w W := by rw [← hW]; exact Below.alloc1 (Below.refl _ _) _ (Nat.le_refl _)
  have hR : RowIs W w.heap.size #[.int .i64 s, .int .i64 m, .slice a n cap] 24 := by rw [← hW]; exact heap_new_at _ _ _ rfl
  have r0 : W.cell? ⟨w.heap.size, 0, none⟩ = some (.int .i64 s) := RowIs.cell hR 0
  have r1 : W.cell? ⟨w.heap.size, 1, none⟩ = some (.int .i64 m) := RowIs.cell hR 1
  have r2 : W.cell? ⟨w.heap.size, 2, none⟩ = some (.slice a n cap) := RowIs.cell hR 2
  have rz : w.heap.size < W.heap.size := hR.lt
  have HF := Lib.hid (hf.below hB)
  have HR := Lib.hid hR
  clear hR hf hG hE hD hgr hd0
  go_enter Tryz.func32, Tryz.ntmps32
  go_wp2_with fail
  refine (HC.out _ HF.out).mono ?_
  rintro e w1 ⟨rfl, hb1⟩
  replace HF := Lib.hid (HF.out.below hb1)
  replace HR := Lib.hid (RowIs.below HR.out hb1)
  have HB := Lib.hid (bup hB hb1)
  clear hb1 hB r0 r1 r2 rz HC hW
  go_wp2_with fail
  go_loopw [3, 4, 5] (fun i _ _ wr => i = .int .i64 (D : Int) ∧ Below w1.heap.size w1 wr) (fun _ _ _ _ => 0)
  case atStart => exact ⟨rfl, Below.refl _ _⟩
  case round =>
    obtain ⟨rfl, hbr⟩ := hrel
    have hr := RowIs.below HR.out hbr
    have r0 : wr.cell? ⟨w.heap.size, 0, none⟩ = some (.int .i64 s) := hr.cell 0
    have r1 : wr.cell? ⟨w.heap.size, 1, none⟩ = some (.int .i64 m) := hr.cell 1
    have r2 : wr.cell? ⟨w.heap.size, 2, none⟩ = some (.slice a n cap) := hr.cell 2
    have rz := hr.lt
    have HF2 := Lib.hid (HF.out.below hbr)
    have Hbr := Lib.hid hbr
    clear hr hbr
    by_cases hlt : D < n
    · go_wp2_with fail
      refine (HGo.out _ HF2.out).mono ?_
      rintro e w2 ⟨hb2, v, rfl, ⟨q, c, l, rfl, hl, hL, hFi⟩ | ⟨-, hNo⟩⟩
      · have LL := Lib.hid hL
        have HFi := Lib.hid hFi
        have Hb2 := Lib.hid (bup HB.out (bup Hbr.out hb2))
        clear hL hFi hb2
        go_wp2_with fail
        go_ret
        exact ⟨q, c, l, D, rfl, hl, LL.out, HGr.out, HFi.out, Hb2.out⟩
      · exact (HNo.out hNo).elim
    · obtain rfl : D = n := by omega
      go_wp2_with fail
      refine (HGo.out _ HF2.out).mono ?_
      rintro e w2 ⟨hb2, v, rfl, ⟨q, c, l, rfl, hl, hL, hFi⟩ | ⟨-, hNo⟩⟩
      · have LL := Lib.hid hL
        have HFi := Lib.hid hFi
        have Hb2 := Lib.hid (bup HB.out (bup Hbr.out hb2))
        clear hL hFi hb2
        go_wp2_with fail
        go_ret
        exact ⟨q, c, l, D, rfl, hl, LL.out, HGr.out, HFi.out, Hb2.out⟩
      · exact (HNo.out hNo).elim

end Go.Proofs.YtbjgbgchagfokaaGreat

namespace Go.Proofs.YtbjgbgchagfokaaGreat
open Go Go.RowKit Go.Shelf

theorem rDays_no_c (S M : Int) (a : Option Addr) (n cap : Nat) (f : Nat → W2) (w : World) (hf : Wants w a n f) (hn : n ≤ 1048576) (hE : bookE S M n f ≠ 0) :
    Calls Tryz.prog 10 #[bookV S M a n cap] w fun e w' => e = .returned (.tuple #[.slice none 0 0, .int .i64 (bookE S M n f)]) ∧ Below w.heap.size w w' := by
  obtain ⟨W, hW⟩ : ∃ W, w.alloc (.cells #[.int .i64 S, .int .i64 M, .slice a n cap] 24) = W := ⟨_, rfl⟩
  have hB : Below w.heap.size w W := by rw [← hW]; exact Below.alloc1 (Below.refl _ _) _ (Nat.le_refl _)
  have hR : RowIs W w.heap.size #[.int .i64 S, .int .i64 M, .slice a n cap] 24 := by rw [← hW]; exact heap_new_at _ _ _ rfl
  have r0 : W.cell? ⟨w.heap.size, 0, none⟩ = some (.int .i64 S) := RowIs.cell hR 0
  have r1 : W.cell? ⟨w.heap.size, 1, none⟩ = some (.int .i64 M) := RowIs.cell hR 1
  have r2 : W.cell? ⟨w.heap.size, 2, none⟩ = some (.slice a n cap) := RowIs.cell hR 2
  have rz : w.heap.size < W.heap.size := hR.lt
  have HF := Lib.hid (hf.below hB)
  obtain ⟨E, hEe⟩ : ∃ E, bookE S M n f = E := ⟨_, rfl⟩
  rw [hEe] at hE ⊢
  have HC := Lib.hid (fun (x : World) (h : Wants x a n f) => rcheckBook_c S M a n cap f x h hn)
  rw [hEe] at HC
  have t0 : (E != 0) = true := by simpa using hE
  clear hR hf hE hEe
  go_enter Tryz.func10, Tryz.ntmps10
  go_wp2_with fail
  refine (HC.out _ HF.out).mono ?_
  rintro e w1 ⟨rfl, hb1⟩
  have q0 := (hb1.cell (p := ⟨w.heap.size, 0, none⟩) rz).trans r0
  have q1 := (hb1.cell (p := ⟨w.heap.size, 1, none⟩) rz).trans r1
  have q2 := (hb1.cell (p := ⟨w.heap.size, 2, none⟩) rz).trans r2
  replace HF := Lib.hid (HF.out.below hb1)
  go_wp2_with fail
  refine (HC.out _ HF.out).mono ?_
  rintro e w2 ⟨rfl, hb2⟩
  go_wp2_with fail
  refine bodyPost_ret (v := .tuple #[.slice none 0 0, .int .i64 E]) (by simp [results, Tryz.results10, go_sem]) rfl ⟨rfl, bup hB (bup hb1 hb2)⟩

theorem rFewest_no_c (S M : Int) (a : Option Addr) (n cap : Nat) (f : Nat → W2) (w : World) (hf : Wants w a n f) (hn : n ≤ 1048576) (hE : bookE S M n f ≠ 0) :
    Calls Tryz.prog 8 #[bookV S M a n cap] w fun e w' => e = .returned (.tuple #[.int .i64 0, .int .i64 (bookE S M n f)]) ∧ Below w.heap.size w w' := by
  obtain ⟨W, hW⟩ : ∃ W, w.alloc (.cells #[.int .i64 S, .int .i64 M, .slice a n cap] 24) = W := ⟨_, rfl⟩
  have hB : Below w.heap.size w W := by rw [← hW]; exact Below.alloc1 (Below.refl _ _) _ (Nat.le_refl _)
  have hR : RowIs W w.heap.size #[.int .i64 S, .int .i64 M, .slice a n cap] 24 := by rw [← hW]; exact heap_new_at _ _ _ rfl
  have r0 : W.cell? ⟨w.heap.size, 0, none⟩ = some (.int .i64 S) := RowIs.cell hR 0
  have r1 : W.cell? ⟨w.heap.size, 1, none⟩ = some (.int .i64 M) := RowIs.cell hR 1
  have r2 : W.cell? ⟨w.heap.size, 2, none⟩ = some (.slice a n cap) := RowIs.cell hR 2
  have rz : w.heap.size < W.heap.size := hR.lt
  have HF := Lib.hid (hf.below hB)
  obtain ⟨E, hEe⟩ : ∃ E, bookE S M n f = E := ⟨_, rfl⟩
  rw [hEe] at hE ⊢
  have HC := Lib.hid (fun (x : World) (h : Wants x a n f) => rcheckBook_c S M a n cap f x h hn)
  rw [hEe] at HC
  have t0 : (E != 0) = true := by simpa using hE
  clear hR hf hE hEe
  go_enter Tryz.func8, Tryz.ntmps8
  go_wp2_with fail
  refine (HC.out _ HF.out).mono ?_
  rintro e w1 ⟨rfl, hb1⟩
  have q0 := (hb1.cell (p := ⟨w.heap.size, 0, none⟩) rz).trans r0
  have q1 := (hb1.cell (p := ⟨w.heap.size, 1, none⟩) rz).trans r1
  have q2 := (hb1.cell (p := ⟨w.heap.size, 2, none⟩) rz).trans r2
  replace HF := Lib.hid (HF.out.below hb1)
  go_wp2_with fail
  refine (HC.out _ HF.out).mono ?_
  rintro e w2 ⟨rfl, hb2⟩
  go_wp2_with fail
  refine bodyPost_ret (v := .tuple #[.int .i64 0, .int .i64 E]) (by simp [results, Tryz.results8, go_sem]) rfl ⟨rfl, bup hB (bup hb1 hb2)⟩

theorem rDays_yes_c (s m : Nat) (a : Option Addr) (n cap : Nat) (f : Nat → W2) (w : World) (hf : Wants w a n f) (hE : bookE s m n f = 0) :
    Calls Tryz.prog 10 #[bookV s m a n cap] w fun e w' => ∃ p c l D, e = .returned (.tuple #[.slice p n c, .int .i64 0]) ∧ l.length = n ∧ Lst w' l p c ∧ IsGreatest f n D ∧ Firsts f n D 0 (gd []) (gd l) ∧ Below w.heap.size w w' := by
  have hn14 : n ≤ 14 := (book_good hE).2.2.1
  obtain ⟨W, hW⟩ : ∃ W, w.alloc (.cells #[.int .i64 s, .int .i64 m, .slice a n cap] 24) = W := ⟨_, rfl⟩
  have hB : Below w.heap.size w W := by rw [← hW]; exact Below.alloc1 (Below.refl _ _) _ (Nat.le_refl _)
  have hR : RowIs W w.heap.size #[.int .i64 s, .int .i64 m, .slice a n cap] 24 := by rw [← hW]; exact heap_new_at _ _ _ rfl
  have r0 : W.cell? ⟨w.heap.size, 0, none⟩ = some (.int .i64 s) := RowIs.cell hR 0
  have r1 : W.cell? ⟨w.heap.size, 1, none⟩ = some (.int .i64 m) := RowIs.cell hR 1
  have r2 : W.cell? ⟨w.heap.size, 2, none⟩ = some (.slice a n cap) := RowIs.cell hR 2
  have rz : w.heap.size < W.heap.size := hR.lt
  have HF := Lib.hid (hf.below hB)
  have HC := Lib.hid (fun (x : World) (h : Wants x a n f) => rcheckBook_c s m a n cap f x h (by omega))
  rw [hE] at HC
  have HL := Lib.hid (fun (x : World) (h : Wants x a n f) => DaysOf_c s m a n cap f x h hE)
  clear hR hf hE
  go_enter Tryz.func10, Tryz.ntmps10
  go_wp2_with fail
  refine (HC.out _ HF.out).mono ?_
  rintro e w1 ⟨rfl, hb1⟩
  have q0 := (hb1.cell (p := ⟨w.heap.size, 0, none⟩) rz).trans r0
  have q1 := (hb1.cell (p := ⟨w.heap.size, 1, none⟩) rz).trans r1
  have q2 := (hb1.cell (p := ⟨w.heap.size, 2, none⟩) rz).trans r2
  replace HF := Lib.hid (HF.out.below hb1)
  go_wp2_with fail
  refine (HL.out _ HF.out).mono ?_
  rintro e w2 ⟨p, c, l, D, rfl, hl, hLL, hG, hF, hb2⟩
  have LL := Lib.hid hLL
  have HG := Lib.hid hG
  have HFi := Lib.hid hF
  clear hLL hG hF
  go_wp2_with fail
  refine bodyPost_ret (v := .tuple #[.slice p n c, .int .i64 0]) (by simp [results, Tryz.results10, go_sem]) rfl ⟨p, c, l, D, rfl, hl, LL.out, HG.out, HFi.out, bup hB (bup hb1 hb2)⟩

theorem rFewest_yes_c (s m : Nat) (a : Option Addr) (n cap : Nat) (f : Nat → W2) (w : World) (hf : Wants w a n f) (hE : bookE s m n f = 0) :
    Calls Tryz.prog 8 #[bookV s m a n cap] w fun e w' => ∃ D : Nat, e = .returned (.tuple #[.int .i64 (D : Int), .int .i64 0]) ∧ IsGreatest f n D ∧ Below w.heap.size w w' := by
  have hn14 : n ≤ 14 := (book_good hE).2.2.1
  obtain ⟨W, hW⟩ : ∃ W, w.alloc (.cells #[.int .i64 s, .int .i64 m, .slice a n cap] 24) = W := ⟨_, rfl⟩
  have hB : Below w.heap.size w W := by rw [← hW]; exact Below.alloc1 (Below.refl _ _) _ (Nat.le_refl _)
  have hR : RowIs W w.heap.size #[.int .i64 s, .int .i64 m, .slice a n cap] 24 := by rw [← hW]; exact heap_new_at _ _ _ rfl
  have r0 : W.cell? ⟨w.heap.size, 0, none⟩ = some (.int .i64 s) := RowIs.cell hR 0
  have r1 : W.cell? ⟨w.heap.size, 1, none⟩ = some (.int .i64 m) := RowIs.cell hR 1
  have r2 : W.cell? ⟨w.heap.size, 2, none⟩ = some (.slice a n cap) := RowIs.cell hR 2
  have rz : w.heap.size < W.heap.size := hR.lt
  have HF := Lib.hid (hf.below hB)
  have HC := Lib.hid (fun (x : World) (h : Wants x a n f) => rcheckBook_c s m a n cap f x h (by omega))
  rw [hE] at HC
  have HL := Lib.hid (fun (x : World) (h : Wants x a n f) => DaysOf_c s m a n cap f x h hE)
  clear hR hf hE
  go_enter Tryz.func8, Tryz.ntmps8
  go_wp2_with fail
  refine (HC.out _ HF.out).mono ?_
  rintro e w1 ⟨rfl, hb1⟩
  have q0 := (hb1.cell (p := ⟨w.heap.size, 0, none⟩) rz).trans r0
  have q1 := (hb1.cell (p := ⟨w.heap.size, 1, none⟩) rz).trans r1
  have q2 := (hb1.cell (p := ⟨w.heap.size, 2, none⟩) rz).trans r2
  replace HF := Lib.hid (HF.out.below hb1)
  go_wp2_with fail
  refine (HL.out _ HF.out).mono ?_
  rintro e w2 ⟨p, c, l, D, rfl, hl, hLL, hG, hF, hb2⟩
  have LL := Lib.hid hLL
  have HG := Lib.hid hG
  have HFi := Lib.hid hF
  clear hLL hG hF
  have hI := LL.out.cells
  rw [hl] at hI
  have hroom := LL.out.room
  rw [hl] at hroom
  have hdf : differentN (fun i => ((l.getD i 0 : Nat) : Int)) n = D := days_few (d := gd l) HG.out HFi.out.right
  have HD := Lib.hid (Different_c p n c (fun i => ((l.getD i 0 : Nat) : Int)) w2 hI (by omega) hroom LL.out.fit)
  rw [hdf] at HD
  clear hI hdf
  go_wp2_with fail
  refine HD.out.mono ?_
  rintro e w3 ⟨rfl, hb3⟩
  go_wp2_with fail
  refine bodyPost_ret (v := .tuple #[.int .i64 (D : Int), .int .i64 0]) (by simp [results, Tryz.results8, go_sem]) rfl ⟨D, rfl, HG.out, bup hB (bup hb1 (bup hb2 hb3))⟩

/-- How few days are enough: the program and the document answer the same. -/
theorem fewest_both (S M : Int) (a : Option Addr) (n cap : Nat) (f : Nat → W2) (hn : n ≤ 20) :
    ∃ N E : Int, (∀ x, Wants x a n f → Calls Tryz.prog 7 #[bookV S M a n cap] x fun e w' => e = .returned (.tuple #[.int .i64 N, .int .i64 E]) ∧ Below x.heap.size x w') ∧
      ∀ x, Wants x a n f → Calls Tryz.prog 8 #[bookV S M a n cap] x fun e w' => e = .returned (.tuple #[.int .i64 N, .int .i64 E]) ∧ Below x.heap.size x w' := by
  by_cases hE : bookE S M n f = 0
  · have hG := book_good hE
    obtain ⟨s, rfl⟩ : ∃ s : Nat, S = s := ⟨S.toNat, by have := hG.1; omega⟩
    obtain ⟨m, rfl⟩ : ∃ m : Nat, M = m := ⟨M.toNat, by have := hG.2.1; omega⟩
    obtain ⟨D, hD, -, -, hgr⟩ := few_great hG
    refine ⟨(D : Int), 0, fun x h => ?_, fun x h => ?_⟩
    · have h3 := Fewest_yes_c s m a n cap f x h (by omega) hE
      rw [hD] at h3
      exact h3
    · refine (rFewest_yes_c s m a n cap f x h hE).mono ?_
      rintro e w' ⟨D2, rfl, hg2, hB⟩
      rw [hgr.one hg2]
      exact ⟨rfl, hB⟩
  · exact ⟨0, bookE S M n f, fun x h => Fewest_no_c S M a n cap f x h (by omega) hE, fun x h => rFewest_no_c S M a n cap f x h (by omega) hE⟩
/-- The first ones of the fewest days: the program and the document answer the same. -/
theorem days_both (S M : Int) (a : Option Addr) (n cap : Nat) (f : Nat → W2) (hn : n ≤ 20) :
    ∃ (E : Int) (k : Nat) (g : Nat → Int), k ≤ 20 ∧ (∀ x, Wants x a n f → Calls Tryz.prog 9 #[bookV S M a n cap] x fun e w' => ∃ p c, e = .returned (.tuple #[.slice p k c, .int .i64 E]) ∧ Ints w' p k g ∧ Below x.heap.size x w') ∧
      ∀ x, Wants x a n f → Calls Tryz.prog 10 #[bookV S M a n cap] x fun e w' => ∃ p c, e = .returned (.tuple #[.slice p k c, .int .i64 E]) ∧ Ints w' p k g ∧ Below x.heap.size x w' := by
  by_cases hE : bookE S M n f = 0
  · have hG := book_good hE
    obtain ⟨s, rfl⟩ : ∃ s : Nat, S = s := ⟨S.toNat, by have := hG.1; omega⟩
    obtain ⟨m, rfl⟩ : ∃ m : Nat, M = m := ⟨M.toNat, by have := hG.2.1; omega⟩
    obtain ⟨D, hD, -, -, hgr⟩ := few_great hG
    obtain ⟨d0, hd0⟩ := greatest_days hgr
    obtain ⟨l0, hl0⟩ := firsts_some hd0
    refine ⟨0, n, fun i => ((l0 i : Nat) : Int), hn, fun x h => ?_, fun x h => ?_⟩
    · refine (Days_yes_c s m a n cap f x h (by omega) hE).mono ?_
      rintro e w' ⟨db, d, D2, rfl, hr, -, hB, hD2, hF⟩
      obtain rfl : D2 = D := by omega
      exact ⟨_, _, rfl, ints_congr (ints_rowA hr) fun i hi => by rw [firsts_one (hF d0) hl0 i hi], hB⟩
    · refine (rDays_yes_c s m a n cap f x h hE).mono ?_
      rintro e w' ⟨p, c, l, D2, rfl, hl, hL, hg2, hF, hB⟩
      obtain rfl := hgr.one hg2
      have hI := hL.cells
      rw [hl] at hI
      have hF0 : Firsts f n D 0 (gd []) l0 := ⟨hl0.right, fun j hj => absurd hj (Nat.not_lt_zero _), fun d h1 _ => hl0.first d h1 fun j hj => absurd hj (Nat.not_lt_zero _)⟩
      exact ⟨p, c, rfl, ints_congr hI fun i hi => by rw [show l.getD i 0 = l0 i from firsts_one hF hF0 i hi], hB⟩
  · refine ⟨bookE S M n f, 0, fun _ => 0, by omega, fun x h => ?_, fun x h => ?_⟩
    · refine (Days_no_c S M a n cap f x h (by omega) hE).mono ?_
      rintro e w' ⟨rfl, hB⟩
      exact ⟨none, 0, rfl, .inl rfl, hB⟩
    · refine (rDays_no_c S M a n cap f x h (by omega) hE).mono ?_
      rintro e w' ⟨rfl, hB⟩
      exact ⟨none, 0, rfl, .inl rfl, hB⟩

end Go.Proofs.YtbjgbgchagfokaaGreat

namespace Go.Proofs.YtbjgbgchagfokaaGreat
open Go Go.RowKit Go.Shelf

/-- Marks as numbers. -/
def mI (mk : Nat → Bool) (i : Nat) : Int := if mk i then 1 else 0
def mSet (mk : Nat → Bool) (i : Nat) (j : Nat) : Bool := mk j || decide (j = i)
theorem mSet_self (mk : Nat → Bool) (i : Nat) : mSet mk i i = true := by simp [mSet]
theorem mSet_old {mk : Nat → Bool} {i j : Nat} (h : mk j = true) : mSet mk i j = true := by simp [mSet, h]
theorem mSet_row (n : Nat) (mk : Nat → Bool) (i : Nat) : (rowA n (mI mk)).setIfInBounds i (.int .i64 1) = rowA n (mI (mSet mk i)) :=
  rowA_set n (mI mk) (mI (mSet mk i)) i 1 (by simp [mI, mSet]) fun j _ hj => by simp [mI, mSet, hj]
/-- Which wants with marks, as a list. -/
def mL (mk : Nat → Bool) (n : Nat) : List Nat := (List.range n).filter mk
theorem mL_succ (mk : Nat → Bool) (n : Nat) : mL mk (n + 1) = mL mk n ++ if mk n then [n] else [] := by
  unfold mL
  rw [List.range_succ, List.filter_append]
  congr 1
  cases h : mk n <;> simp [h]
theorem mL_len (mk : Nat → Bool) (n : Nat) : (mL mk n).length ≤ n := by
  have := List.length_filter_le mk (List.range n)
  rw [List.length_range] at this
  exact this
theorem mL_chain {f : Nat → W2} {n q a b : Nat} {d : Nat → Nat} {mk : Nat → Bool} (hq : q < n) (hP : Two d a b q) (hR : Round f n (Two d a b) q n fun i => mk i = true) : mL mk n = chainL f n d a b q := by
  refine up_same ((range_up n).filter _) chainL_up fun i => ?_
  rw [chainL_mem hq hP i, ← hR.all i, mL, List.mem_filter, List.mem_range]
  exact ⟨fun h => h.2, fun h => ⟨((hR.only i h).in hq hP).1, h⟩⟩

/-- What the inner loops have marked: all that were marked before, none beside the chain, all of the first i that clash with one that was marked before, and of the i-th by the first k. -/
structure Mid (f : Nat → W2) (n : Nat) (P : Nat → Prop) (q : Nat) (m0 mk : Nat → Bool) (i k : Nat) : Prop where
  old : ∀ j, m0 j = true → mk j = true
  only : ∀ j, mk j = true → Chn f n P q j
  rows : ∀ j, j < i → P j → ∀ t, m0 t = true → Clashes f t j → mk j = true
  cols : P i → ∀ t, t < k → m0 t = true → Clashes f t i → mk i = true
theorem Mid.start {f : Nat → W2} {n q : Nat} {P : Nat → Prop} {m0 : Nat → Bool} (h : ∀ j, m0 j = true → Chn f n P q j) : Mid f n P q m0 m0 0 0 :=
  ⟨fun _ h => h, h, fun _ hj => absurd hj (Nat.not_lt_zero _), fun _ _ ht => absurd ht (Nat.not_lt_zero _)⟩
theorem Mid.row {f : Nat → W2} {n q i : Nat} {P : Nat → Prop} {m0 mk : Nat → Bool} (h : Mid f n P q m0 mk i n) (hin : ∀ t, m0 t = true → t < n) : Mid f n P q m0 mk (i + 1) 0 := by
  refine ⟨h.old, h.only, fun j hj hP t ht hc => ?_, fun _ t ht => absurd ht (Nat.not_lt_zero _)⟩
  by_cases e : j = i
  · subst e; exact h.cols hP t (hin t ht) ht hc
  · exact h.rows j (by omega) hP t ht hc
theorem Mid.skip {f : Nat → W2} {n q i k : Nat} {P : Nat → Prop} {m0 mk : Nat → Bool} (h : Mid f n P q m0 mk i k) (hno : mk k = true → P i → Clashes f k i → mk i = true) : Mid f n P q m0 mk i (k + 1) := by
  refine ⟨h.old, h.only, h.rows, fun hP t ht h0 hc => ?_⟩
  by_cases e : t = k
  · subst e; exact hno (h.old _ h0) hP hc
  · exact h.cols hP t (by omega) h0 hc
theorem Mid.mark {f : Nat → W2} {n q i k : Nat} {P : Nat → Prop} {m0 mk : Nat → Bool} (h : Mid f n P q m0 mk i k) (hk : mk k = true) (hi : i < n) (hP : P i) (hc : Clashes f k i) : Mid f n P q m0 (mSet mk i) i (k + 1) := by
  refine ⟨fun j hj => mSet_old (h.old j hj), fun j hj => ?_, fun j hj hPj t ht hct => mSet_old (h.rows j hj hPj t ht hct), fun _ _ _ _ _ => mSet_self mk i⟩
  unfold mSet at hj
  rw [Bool.or_eq_true, decide_eq_true_eq] at hj
  rcases hj with hj | rfl
  · exact h.only j hj
  · exact .next k j (h.only k hk) hi hP hc
theorem Mid.round {f : Nat → W2} {n q r : Nat} {P : Nat → Prop} {m0 mk : Nat → Bool} (h : Mid f n P q m0 mk n 0) (hR : Round f n P q r fun i => m0 i = true) : Round f n P q (r + 1) fun i => mk i = true :=
  hR.next h.old h.only fun i k hi hk hP hc => h.rows k hk hP i hi hc

set_option maxRecDepth 100000 in
set_option maxHeartbeats 64000000 in
theorem ChainOf_c (S M : Int) (a : Option Addr) (n cap : Nat) (f : Nat → W2) (da : Option Addr) (dcap : Nat) (d : Nat → Nat) (q v : Nat) (w : World) (hf : Wants w a n f) (hn : n ≤ 14) (hd : Ints w da n fun i => (d i : Int)) (hq : q < n) :
    Calls Tryz.prog 38 #[bookV S M a n cap, .slice da n dcap, .int .i64 q, .int .i64 v] w fun e w' => ∃ p c, e = .returned (.slice p (chainL f n d (d q) v q).length c) ∧ Lst w' (chainL f n d (d q) v q) p c ∧ Below w.heap.size w w' := by
  obtain ⟨W, hW⟩ : ∃ W, w.alloc (.cells #[.int .i64 S, .int .i64 M, .slice a n cap] 24) = W := ⟨_, rfl⟩
  have hB : Below w.heap.size w W := by rw [← hW]; exact Below.alloc1 (Below.refl _ _) _ (Nat.le_refl _)
  have hR : RowIs W w.heap.size #[.int .i64 S, .int .i64 M, .slice a n cap] 24 := by rw [← hW]; exact heap_new_at _ _ _ rfl
  obtain ⟨V, hV⟩ : ∃ V, W.alloc (.cells (rowA n fun _ => 0) 3) = V := ⟨_, rfl⟩
  have hVb : Below W.heap.size W V := by rw [← hV]; exact Below.alloc1 (Below.refl _ _) _ (Nat.le_refl _)
  have hVr : RowIs V W.heap.size (rowA n (mI fun _ => false)) 3 := by rw [← hV]; exact heap_new_at _ _ _ rfl
  obtain ⟨X, hX⟩ : ∃ X, V.setCell ⟨W.heap.size, q, none⟩ (.int .i64 1) = X := ⟨_, rfl⟩
  have hXr : RowIs X W.heap.size (rowA n (mI (mSet (fun _ => false) q))) 3 := by rw [← hX, ← mSet_row]; exact RowIs.set hVr q _
  have hXb : Below W.heap.size W X := by rw [← hX]; exact hVb.setCell (p := ⟨W.heap.size, q, none⟩) (Nat.le_refl _) _
  have cv : V.cell? ⟨W.heap.size, q, none⟩ = some (.int .i64 0) := (hVr.cell q).trans (rowA_get _ _ _ hq)
  have fv : V.frozen? ⟨W.heap.size, q, none⟩ = false := hVr.frozen q
  have mk1 := make_rown n hn
  obtain ⟨xb, xo, rfl, hxb, hxc⟩ := Cells.at (Cells.below hd hB) q hq
  have HD := Lib.hid (Cells.below hd hB)
  have HR := Lib.hid hR
  have HF := Lib.hid (hf.below hB)
  have HB := Lib.hid hB
  have HXr := Lib.hid hXr
  have HXb := Lib.hid hXb
  have hP0 : Two d (d q) v q := .inl rfl
  have hR0 : Round f n (Two d (d q) v) q 0 fun i => mSet (fun _ => false) q i = true := by
    have := round_start (f := f) (P := Two d (d q) v) hq
    simpa [mSet] using this
  have HP0 := Lib.hid hP0
  have HR0 := Lib.hid hR0
  clear hR hf hd hB hVb hVr hXr hXb hxc hP0 hR0
  go_enter Tryz.func38, Tryz.ntmps38
  go_wp2_with fail
  clear hW hV hX cv fv mk1
  go_loopw [10, 11, 12] (fun i _ _ wr => ∃ (r : Nat) (mk : Nat → Bool), r ≤ n ∧ i = .int .i64 r ∧ RowIs wr W.heap.size (rowA n (mI mk)) 3 ∧ Round f n (Two d (d q) v) q r (fun i => mk i = true) ∧ Below W.heap.size W wr) (fun i _ _ _ => n - (intOf i).toNat)
  case atStart => exact ⟨0, _, Nat.zero_le _, rfl, HXr.out, HR0.out, HXb.out⟩
  case round =>
    obtain ⟨r, m0, hr, rfl, hrow, hRd, hbr⟩ := hrel
    have HRw := Lib.hid hrow
    have HRd := Lib.hid hRd
    have Hbr := Lib.hid hbr
    have wr1 : IntKind.i64.wrap ((r : Int) + 1) = (r : Int) + 1 := IntWalk.i64_in _ (by omega)
    clear hrow hRd hbr HXr HXb HR0
    by_cases hlr : r < n
    · go_wp2_with fail
      go_loopw [11, 12] (fun i _ wi => ∃ (j : Nat) (mk : Nat → Bool), j ≤ n ∧ i = .int .i64 j ∧ RowIs wi W.heap.size (rowA n (mI mk)) 3 ∧ Mid f n (Two d (d q) v) q m0 mk j 0 ∧ Below W.heap.size W wi) (fun i _ _ => n - (intOf i).toNat)
      case atStart => exact ⟨0, m0, Nat.zero_le _, rfl, HRw.out, Mid.start HRd.out.only, Hbr.out⟩
      case round =>
        obtain ⟨j, m1, hj, rfl, hrow, hMid, hbi⟩ := hrel
        have HRi := Lib.hid hrow
        have HMi := Lib.hid hMid
        have Hbi := Lib.hid hbi
        have wj1 : IntKind.i64.wrap ((j : Int) + 1) = (j : Int) + 1 := IntWalk.i64_in _ (by omega)
        clear hrow hMid hbi HRw
        by_cases hlj : j < n
        · go_wp2_with fail
          go_loopw [12] (fun i wk => ∃ (k : Nat) (mk : Nat → Bool), k ≤ n ∧ i = .int .i64 k ∧ RowIs wk W.heap.size (rowA n (mI mk)) 3 ∧ Mid f n (Two d (d q) v) q m0 mk j k ∧ Below W.heap.size W wk) (fun i _ => n - (intOf i).toNat)
          case atStart => exact ⟨0, m1, Nat.zero_le _, rfl, HRi.out, HMi.out, Hbi.out⟩
          case round =>
            obtain ⟨k, mk, hk, rfl, hrow, hMid, hbk⟩ := hrel
            have HRk := Lib.hid hrow
            have HMk := Lib.hid hMid
            have wk1 : IntKind.i64.wrap ((k : Int) + 1) = (k : Int) + 1 := IntWalk.i64_in _ (by omega)
            have hr := RowIs.below HR.out hbk
            have r0 : wr.cell? ⟨w.heap.size, 0, none⟩ = some (.int .i64 S) := hr.cell 0
            have r1 : wr.cell? ⟨w.heap.size, 1, none⟩ = some (.int .i64 M) := hr.cell 1
            have r2 : wr.cell? ⟨w.heap.size, 2, none⟩ = some (.slice a n cap) := hr.cell 2
            have rz := hr.lt
            have hz1 := hrow.lt
            clear hrow hMid hr HRi HMi
            by_cases hlk : k < n
            · obtain ⟨_, _, e1, hxb, hxc⟩ := Cells.at (Cells.below HD.out hbk) q hq
              cases e1
              have cq : wr.cell? ⟨xb, xo + q, none⟩ = some (.int .i64 ((d q : Nat) : Int)) := hxc q hq
              have cj : wr.cell? ⟨xb, xo + j, none⟩ = some (.int .i64 ((d j : Nat) : Int)) := hxc j hlj
              have Hbk := Lib.hid hbk
              have ck : wr.cell? ⟨W.heap.size, k, none⟩ = some (.int .i64 (mI mk k)) := (RowIs.cell HRk.out k).trans (rowA_get _ _ _ hlk)
              have ci : wr.cell? ⟨W.heap.size, j, none⟩ = some (.int .i64 (mI mk j)) := (RowIs.cell HRk.out j).trans (rowA_get _ _ _ hlj)
              have hlc := fun (x : Later wr) => later_cell x
              clear hbk hxc
              have HCl := Lib.hid (fun (x : World) (h : Below wr.heap.size wr x) => Clash_c S M a n cap f j k x ((HF.out.below Hbk.out).below h) hlj hlk)
              have hcl : clashB f j k = true ↔ Clashes f j k := by simp [clashB, Clashes]
              cases hmk : mk k with
              | false =>
                have e0 : mI mk k = 0 := by simp [mI, hmk]
                rw [e0] at ck
                have HSk := Lib.hid (HMk.out.skip fun h => by rw [hmk] at h; cases h)
                clear hmk e0 hcl
                go_wp2_with fail
                refine wp_region_later (by kernel_rfl) (by kernel_rfl) ?_
                repeat (go_big_quiet_step ((with_reducible refine calls_later (HCl.out _ (Later.h _)))))
                refine wpQuiet_nil ?_
                clear hlc
                intro x7
                obtain ⟨w7, hw7⟩ : ∃ y, x7.w = y := ⟨_, rfl⟩
                have hb7 : Below wr.heap.size wr w7 := by rw [← hw7]; exact x7.h
                rw [hw7]
                clear hw7
                have Hb7 := Lib.hid (bup Hbk.out hb7)
                have HR7 := Lib.hid (RowIs.below HRk.out hb7)
                clear hb7
                go_wp2_with fail
                go_roundw
                case rel => exact ⟨k + 1, mk, by omega, by go_num, HR7.out, HSk.out, Hb7.out⟩
                case measure => simp [intOf]; omega
              | true =>
                have e0 : mI mk k = 1 := by simp [mI, hmk]
                rw [e0] at ck
                by_cases hjk : j = k
                · have t1 : ((j : Int) != (k : Int)) = false := by simp [hjk]
                  have HSk := Lib.hid (HMk.out.skip fun _ _ _ => by rw [hjk]; exact hmk)
                  clear hmk e0 hcl hjk
                  go_wp2_with fail
                  refine wp_region_later (by kernel_rfl) (by kernel_rfl) ?_
                  repeat (go_big_quiet_step ((with_reducible refine calls_later (HCl.out _ (Later.h _)))))
                  refine wpQuiet_nil ?_
                  clear hlc
                  intro x7
                  obtain ⟨w7, hw7⟩ : ∃ y, x7.w = y := ⟨_, rfl⟩
                  have hb7 : Below wr.heap.size wr w7 := by rw [← hw7]; exact x7.h
                  rw [hw7]
                  clear hw7
                  have Hb7 := Lib.hid (bup Hbk.out hb7)
                  have HR7 := Lib.hid (RowIs.below HRk.out hb7)
                  clear hb7
                  go_wp2_with fail
                  go_roundw
                  case rel => exact ⟨k + 1, mk, by omega, by go_num, HR7.out, HSk.out, Hb7.out⟩
                  case measure => simp [intOf]; omega
                · have t1 : ((j : Int) != (k : Int)) = true := by simp; omega
                  cases hc : clashB f j k with
                  | false =>
                    have HSk := Lib.hid (HMk.out.skip fun _ _ h => by rw [hcl.2 h.symm] at hc; cases hc)
                    rw [hc] at HCl
                    clear hmk e0 hcl hjk hc
                    go_wp2_with fail
                    refine wp_region_later (by kernel_rfl) (by kernel_rfl) ?_
                    repeat (go_big_quiet_step ((with_reducible refine calls_later (HCl.out _ (Later.h _)))))
                    refine wpQuiet_nil ?_
                    clear hlc
                    intro x7
                    obtain ⟨w7, hw7⟩ : ∃ y, x7.w = y := ⟨_, rfl⟩
                    have hb7 : Below wr.heap.size wr w7 := by rw [← hw7]; exact x7.h
                    rw [hw7]
                    clear hw7
                    have Hb7 := Lib.hid (bup Hbk.out hb7)
                    have HR7 := Lib.hid (RowIs.below HRk.out hb7)
                    clear hb7
                    go_wp2_with fail
                    go_roundw
                    case rel => exact ⟨k + 1, mk, by omega, by go_num, HR7.out, HSk.out, Hb7.out⟩
                    case measure => simp [intOf]; omega
                  | true =>
                    have hcc := (hcl.1 hc).symm
                    rw [hc] at HCl
                    by_cases h1 : d j = d q
                    · have t2 : (((d j : Nat) : Int) == ((d q : Nat) : Int)) = true := by simp [h1]
                      have HSk := Lib.hid (HMk.out.mark hmk hlj (.inl h1) hcc)
                      clear hmk e0 hcl hjk hc hcc h1
                      go_wp2_with fail
                      refine wp_region_later (by kernel_rfl) (by kernel_rfl) ?_
                      repeat (go_big_quiet_step ((with_reducible refine calls_later (HCl.out _ (Later.h _)))))
                      refine wpQuiet_nil ?_
                      clear hlc
                      intro x7
                      obtain ⟨w7, hw7⟩ : ∃ y, x7.w = y := ⟨_, rfl⟩
                      have hb7 : Below wr.heap.size wr w7 := by rw [← hw7]; exact x7.h
                      rw [hw7]
                      clear hw7
                      have hr7 := RowIs.below HRk.out hb7
                      have c7 : w7.cell? ⟨W.heap.size, j, none⟩ = some (.int .i64 (mI mk j)) := (hr7.cell j).trans (rowA_get _ _ _ hlj)
                      have f7 : w7.frozen? ⟨W.heap.size, j, none⟩ = false := hr7.frozen j
                      obtain ⟨Y, hY⟩ : ∃ Y, w7.setCell ⟨W.heap.size, j, none⟩ (.int .i64 1) = Y := ⟨_, rfl⟩
                      have HRY := Lib.hid (show RowIs Y W.heap.size (rowA n (mI (mSet mk j))) 3 by rw [← hY, ← mSet_row]; exact RowIs.set hr7 j _)
                      have HbY := Lib.hid (show Below W.heap.size W Y by rw [← hY]; exact (bup Hbk.out hb7).setCell (p := ⟨W.heap.size, j, none⟩) (Nat.le_refl _) _)
                      clear hr7 hb7 r0 r1 r2 cq cj ck ci
                      go_wp2_with fail
                      go_roundw
                      case rel => exact ⟨k + 1, mSet mk j, by omega, by go_num, HRY.out, HSk.out, HbY.out⟩
                      case measure => simp [intOf]; omega
                    · have t2 : (((d j : Nat) : Int) == ((d q : Nat) : Int)) = false := by simp; omega
                      by_cases h2 : d j = v
                      · have t3 : (((d j : Nat) : Int) == (v : Int)) = true := by simp [h2]
                        have HSk := Lib.hid (HMk.out.mark hmk hlj (.inr h2) hcc)
                        clear hmk e0 hcl hjk hc hcc h1 h2
                        go_wp2_with fail
                        refine wp_region_later (by kernel_rfl) (by kernel_rfl) ?_
                        repeat (go_big_quiet_step ((with_reducible refine calls_later (HCl.out _ (Later.h _)))))
                        refine wpQuiet_nil ?_
                        clear hlc
                        intro x7
                        obtain ⟨w7, hw7⟩ : ∃ y, x7.w = y := ⟨_, rfl⟩
                        have hb7 : Below wr.heap.size wr w7 := by rw [← hw7]; exact x7.h
                        rw [hw7]
                        clear hw7
                        have hr7 := RowIs.below HRk.out hb7
                        have c7 : w7.cell? ⟨W.heap.size, j, none⟩ = some (.int .i64 (mI mk j)) := (hr7.cell j).trans (rowA_get _ _ _ hlj)
                        have f7 : w7.frozen? ⟨W.heap.size, j, none⟩ = false := hr7.frozen j
                        obtain ⟨Y, hY⟩ : ∃ Y, w7.setCell ⟨W.heap.size, j, none⟩ (.int .i64 1) = Y := ⟨_, rfl⟩
                        have HRY := Lib.hid (show RowIs Y W.heap.size (rowA n (mI (mSet mk j))) 3 by rw [← hY, ← mSet_row]; exact RowIs.set hr7 j _)
                        have HbY := Lib.hid (show Below W.heap.size W Y by rw [← hY]; exact (bup Hbk.out hb7).setCell (p := ⟨W.heap.size, j, none⟩) (Nat.le_refl _) _)
                        clear hr7 hb7 r0 r1 r2 cq cj ck ci
                        go_wp2_with fail
                        go_roundw
                        case rel => exact ⟨k + 1, mSet mk j, by omega, by go_num, HRY.out, HSk.out, HbY.out⟩
                        case measure => simp [intOf]; omega
                      · have t3 : (((d j : Nat) : Int) == (v : Int)) = false := by simp; omega
                        have HSk := Lib.hid (HMk.out.skip fun _ hP _ => by rcases hP with h | h; exact absurd h h1; exact absurd h h2)
                        clear hmk e0 hcl hjk hc hcc h1 h2
                        go_wp2_with fail
                        refine wp_region_later (by kernel_rfl) (by kernel_rfl) ?_
                        repeat (go_big_quiet_step ((with_reducible refine calls_later (HCl.out _ (Later.h _)))))
                        refine wpQuiet_nil ?_
                        clear hlc
                        intro x7
                        obtain ⟨w7, hw7⟩ : ∃ y, x7.w = y := ⟨_, rfl⟩
                        have hb7 : Below wr.heap.size wr w7 := by rw [← hw7]; exact x7.h
                        rw [hw7]
                        clear hw7
                        have Hb7 := Lib.hid (bup Hbk.out hb7)
                        have HR7 := Lib.hid (RowIs.below HRk.out hb7)
                        clear hb7
                        go_wp2_with fail
                        go_roundw
                        case rel => exact ⟨k + 1, mk, by omega, by go_num, HR7.out, HSk.out, Hb7.out⟩
                        case measure => simp [intOf]; omega
            · obtain rfl : k = n := by omega
              have HSk := Lib.hid (HMk.out.row fun t ht => ((HRd.out.only t ht).in hq HP0.out).1)
              have Hbk := Lib.hid hbk
              clear hbk r0 r1 r2
              go_wp2_with fail
              go_roundw
              case rel => exact ⟨j + 1, mk, by omega, by go_num, HRk.out, HSk.out, Hbk.out⟩
              case measure => simp [intOf]; omega
        · obtain rfl : j = n := by omega
          have HSk := Lib.hid (HMi.out.round HRd.out)
          go_wp2_with fail
          go_roundw
          case rel => exact ⟨r + 1, m1, by omega, by go_num, HRi.out, HSk.out, Hbi.out⟩
          case measure => simp [intOf]; omega
    · obtain rfl : r = n := by omega
      have HML := Lib.hid (mL_chain hq HP0.out HRd.out)
      clear wr1
      obtain ⟨R, hR9⟩ : ∃ R, R = wr := ⟨_, rfl⟩
      subst hR9
      go_wp2_with fail
      go_loopw [13, 14] (fun o i wx => ∃ (j : Nat) (u : Value), j ≤ r ∧ i = .int .i64 j ∧ u = o ∧ Own wx R.heap.size (mL m0 j) u ∧ Below R.heap.size R wx) (fun _ i _ => r - (intOf i).toNat)
      case atStart => exact ⟨0, _, Nat.zero_le _, rfl, rfl, own_nil _ _, Below.refl _ _⟩
      case round =>
        obtain ⟨j, u, hj, rfl, rfl, ho, hbx⟩ := hrel
        have hlen := mL_len m0 j
        have hrx := RowIs.below HRw.out hbx
        have hz1 := hrx.lt
        have HO := Lib.hid ho
        have hsz := hbx.size
        by_cases hlt : j < r
        · have cj : wr.cell? ⟨W.heap.size, j, none⟩ = some (.int .i64 (mI m0 j)) := (hrx.cell j).trans (rowA_get _ _ _ hlt)
          have wj1 : IntKind.i64.wrap ((j : Int) + 1) = (j : Int) + 1 := IntWalk.i64_in _ (by omega)
          cases hm : m0 j with
          | false =>
            rw [show mI m0 j = 0 by simp [mI, hm]] at cj
            have HM := Lib.hid hm
            have Hbx := Lib.hid hbx
            clear hm ho hbx hrx
            go_wp2_with fail
            go_roundw
            case rel => exact ⟨j + 1, u, by omega, by go_num, rfl, by rw [mL_succ, HM.out]; simpa using HO.out, Hbx.out⟩
            case measure => simp [intOf]; omega
          | true =>
            rw [show mI m0 j = 1 by simp [mI, hm]] at cj
            obtain ⟨X2, hX2⟩ : ∃ X2, wr.alloc (.cells #[.int .i64 (j : Int)] 3) = X2 := ⟨_, rfl⟩
            have hXr : RowIs X2 wr.heap.size #[.int .i64 (j : Int)] 3 := by rw [← hX2]; exact heap_new_at _ _ _ rfl
            have hXo : Own X2 R.heap.size (mL m0 j) u := by rw [← hX2]; exact ho.alloc _
            have hXb : Below wr.heap.size wr X2 := by rw [← hX2]; exact Below.alloc1 (Below.refl _ _) _ (Nat.le_refl _)
            obtain ⟨v', A', hrun, hown', hgr, hbA⟩ := hXo.append wr.heap.size j hXr (Nat.le_trans hsz hXb.size) (by omega)
            have Hown := Lib.hid hown'
            have HM := Lib.hid hm
            have HbA := Lib.hid ((hbx.trans (hXb.mono hsz)).trans hbA)
            clear hm ho hbx hrx hXr hXo hown' hgr hXb hbA HO
            go_wp2_with (at_builtin; refine wpList_append_run rfl _ _ 25 rfl rfl rfl hrun ?_)
            go_roundw
            case rel => exact ⟨j + 1, _, by omega, by go_num, rfl, by rw [mL_succ, HM.out]; exact Hown.out, HbA.out⟩
            case measure => simp [intOf]; omega
        · obtain rfl : j = r := by omega
          rw [HML.out] at HO
          obtain ⟨p, c, rfl, hLl, -⟩ := HO.out.lst
          have LL := Lib.hid hLl
          have HB9 := Lib.hid (bup HB.out (bup Hbr.out hbx))
          clear hLl ho hbx hrx
          go_wp2_with fail
          go_ret
          exact ⟨p, c, rfl, LL.out, HB9.out⟩

end Go.Proofs.YtbjgbgchagfokaaGreat

namespace Go.Proofs.YtbjgbgchagfokaaGreat
open Go Go.RowKit Go.Shelf

set_option maxHeartbeats 8000000 in
theorem chained_c (S M : Int) (a : Option Addr) (n cap : Nat) (f : Nat → W2) (da : Option Addr) (k dcap : Nat) (g : Nat → Int) (want day : Int) (w : World) (hf : Wants w a n f) (hn : n ≤ 1048576) (hd : Ints w da k g) (hk : k ≤ 1048576) (hc2 : k ≤ dcap) (hc3 : dcap ≤ 9223372036854775807) :
    Calls Tryz.prog 37 #[bookV S M a n cap, .slice da k dcap, .int .i64 want, .int .i64 day] w fun e w' => e = .returned (.int .i64 (chainE S M n f k g want day)) ∧ Below w.heap.size w w' := by
  obtain ⟨W, hW⟩ : ∃ W, w.alloc (.cells #[.int .i64 S, .int .i64 M, .slice a n cap] 24) = W := ⟨_, rfl⟩
  have hB : Below w.heap.size w W := by rw [← hW]; exact Below.alloc1 (Below.refl _ _) _ (Nat.le_refl _)
  have hR : RowIs W w.heap.size #[.int .i64 S, .int .i64 M, .slice a n cap] 24 := by rw [← hW]; exact heap_new_at _ _ _ rfl
  have r0 : W.cell? ⟨w.heap.size, 0, none⟩ = some (.int .i64 S) := RowIs.cell hR 0
  have r1 : W.cell? ⟨w.heap.size, 1, none⟩ = some (.int .i64 M) := RowIs.cell hR 1
  have r2 : W.cell? ⟨w.heap.size, 2, none⟩ = some (.slice a n cap) := RowIs.cell hR 2
  have rz : w.heap.size < W.heap.size := hR.lt
  have HC := Lib.hid (rcheckDays_c S M a n cap f da k dcap g W (hf.below hB) hn (Cells.below hd hB) hk hc2 hc3)
  obtain ⟨N, hN⟩ : ∃ N, daysN (daysE S M n f k g) g k = N := ⟨_, rfl⟩
  rw [hN] at HC
  have HD := Lib.hid (Cells.below hd hB)
  have HB := Lib.hid hB
  by_cases hE : daysE S M n f k g = 0
  · rw [show chainE S M n f k g want day = swapE k g want day from if_pos hE]
    rw [hE] at HC
    clear hR hE hf hd hN hB
    by_cases h1 : want < 0
    · have e1 : swapE k g want day = 2 := by rw [swapE, if_neg (by omega)]
      rw [e1]
      have t1 : decide (want < 0) = true := by simpa using h1
      go_enter Tryz.func37, Tryz.ntmps37
      go_wp2_with fail
      refine HC.out.mono ?_
      rintro e w1 ⟨rfl, hb1⟩
      go_wp2_with fail
      go_ret
      exact ⟨rfl, bup HB.out hb1⟩
    · have t1 : decide (want < 0) = false := by simpa using h1
      by_cases h2 : (k : Int) ≤ want
      · have e1 : swapE k g want day = 2 := by rw [swapE, if_neg (by omega)]
        rw [e1]
        have t2 : decide ((k : Int) ≤ want) = true := by simpa using h2
        go_enter Tryz.func37, Tryz.ntmps37
        go_wp2_with fail
        refine HC.out.mono ?_
        rintro e w1 ⟨rfl, hb1⟩
        go_wp2_with fail
        go_ret
        exact ⟨rfl, bup HB.out hb1⟩
      · have t2 : decide ((k : Int) ≤ want) = false := by simpa using h2
        by_cases h3 : day < 0
        · have e1 : swapE k g want day = 3 := by rw [swapE, if_pos (by omega), if_neg (by omega)]
          rw [e1]
          have t3 : decide (day < 0) = true := by simpa using h3
          go_enter Tryz.func37, Tryz.ntmps37
          go_wp2_with fail
          refine HC.out.mono ?_
          rintro e w1 ⟨rfl, hb1⟩
          go_wp2_with fail
          go_ret
          exact ⟨rfl, bup HB.out hb1⟩
        · have t3 : decide (day < 0) = false := by simpa using h3
          by_cases h4 : 13 < day
          · have e1 : swapE k g want day = 3 := by rw [swapE, if_pos (by omega), if_neg (by omega)]
            rw [e1]
            have t4 : decide (13 < day) = true := by simpa using h4
            go_enter Tryz.func37, Tryz.ntmps37
            go_wp2_with fail
            refine HC.out.mono ?_
            rintro e w1 ⟨rfl, hb1⟩
            go_wp2_with fail
            go_ret
            exact ⟨rfl, bup HB.out hb1⟩
          · have t4 : decide (13 < day) = false := by simpa using h4
            obtain ⟨x, rfl⟩ := Int.eq_ofNat_of_zero_le (show 0 ≤ want by omega)
            have hx : x < k := by omega
            rcases HD.out with h0 | ⟨xb, xo, rfl, hlt, hcell⟩
            · omega
            · have cx := hcell x hx
              have hxl := hlt
              have HX := Lib.hid cx
              clear hcell cx
              by_cases h5 : g x = day
              · have e1 : swapE k g (x : Int) day = 16 := by rw [swapE, if_pos (by omega), if_pos (by omega), if_pos (by simpa using h5)]
                rw [e1]
                have t5 : (g x == day) = true := by simpa using h5
                clear h5 e1
                go_enter Tryz.func37, Tryz.ntmps37
                go_wp2_with fail
                refine HC.out.mono ?_
                rintro e w1 ⟨rfl, hb1⟩
                have cx1 : w1.cell? ⟨xb, xo + x, none⟩ = some (.int .i64 (g x)) := (hb1.cell (p := ⟨xb, xo + x, none⟩) hxl).trans HX.out
                go_wp2_with fail
                go_ret
                exact ⟨rfl, bup HB.out hb1⟩
              · have e1 : swapE k g (x : Int) day = 0 := by rw [swapE, if_pos (by omega), if_pos (by omega), if_neg (by simpa using h5)]
                rw [e1]
                have t5 : (g x == day) = false := by simpa using h5
                clear h5 e1
                go_enter Tryz.func37, Tryz.ntmps37
                go_wp2_with fail
                refine HC.out.mono ?_
                rintro e w1 ⟨rfl, hb1⟩
                have cx1 : w1.cell? ⟨xb, xo + x, none⟩ = some (.int .i64 (g x)) := (hb1.cell (p := ⟨xb, xo + x, none⟩) hxl).trans HX.out
                go_wp2_with fail
                go_ret
                exact ⟨rfl, bup HB.out hb1⟩
  · rw [show chainE S M n f k g want day = daysE S M n f k g from if_neg hE]
    obtain ⟨v, hv⟩ : ∃ v, daysE S M n f k g = v := ⟨_, rfl⟩
    rw [hv] at hE HC ⊢
    have t0 : (v != 0) = true := by simpa using hE
    clear hR hv hE hf hd hN hB
    go_enter Tryz.func37, Tryz.ntmps37
    go_wp2_with fail
    refine HC.out.mono ?_
    rintro e w1 ⟨rfl, hb1⟩
    go_wp2_with fail
    go_ret
    exact ⟨rfl, bup HB.out hb1⟩

set_option maxHeartbeats 8000000 in
theorem rChain_c (S M : Int) (a : Option Addr) (n cap : Nat) (f : Nat → W2) (da : Option Addr) (k dcap : Nat) (g : Nat → Int) (want day : Int) (w : World) (hf : Wants w a n f) (hn : n ≤ 1048576) (hd : Ints w da k g) (hk : k ≤ 1048576) (hc2 : k ≤ dcap) (hc3 : dcap ≤ 9223372036854775807) :
    Calls Tryz.prog 12 #[bookV S M a n cap, .slice da k dcap, .int .i64 want, .int .i64 day] w fun e w' => Below w.heap.size w w' ∧ ((chainE S M n f k g want day = 0 ∧ ∃ p c, e = .returned (.tuple #[.slice p (chainL f n (natD g) (natD g want.toNat) day.toNat want.toNat).length c, .int .i64 0]) ∧ Lst w' (chainL f n (natD g) (natD g want.toNat) day.toNat want.toNat) p c) ∨ (chainE S M n f k g want day ≠ 0 ∧ e = .returned (.tuple #[.slice none 0 0, .int .i64 (chainE S M n f k g want day)]))) := by
  obtain ⟨W, hW⟩ : ∃ W, w.alloc (.cells #[.int .i64 S, .int .i64 M, .slice a n cap] 24) = W := ⟨_, rfl⟩
  have hB : Below w.heap.size w W := by rw [← hW]; exact Below.alloc1 (Below.refl _ _) _ (Nat.le_refl _)
  have hR : RowIs W w.heap.size #[.int .i64 S, .int .i64 M, .slice a n cap] 24 := by rw [← hW]; exact heap_new_at _ _ _ rfl
  have r0 : W.cell? ⟨w.heap.size, 0, none⟩ = some (.int .i64 S) := RowIs.cell hR 0
  have r1 : W.cell? ⟨w.heap.size, 1, none⟩ = some (.int .i64 M) := RowIs.cell hR 1
  have r2 : W.cell? ⟨w.heap.size, 2, none⟩ = some (.slice a n cap) := RowIs.cell hR 2
  have rz : w.heap.size < W.heap.size := hR.lt
  have HF := Lib.hid (hf.below hB)
  have HD := Lib.hid (Cells.below hd hB)
  have HB := Lib.hid hB
  have HC := Lib.hid (fun (x : World) (h1 : Wants x a n f) (h2 : Ints x da k g) => chained_c S M a n cap f da k dcap g want day x h1 hn h2 hk hc2 hc3)
  by_cases hE : chainE S M n f k g want day = 0
  · rw [hE] at HC
    have hd0 : daysE S M n f k g = 0 := by
      by_cases h : daysE S M n f k g = 0
      · exact h
      · rw [chainE, if_neg h] at hE; exact hE
    have hs0 : swapE k g want day = 0 := by rw [chainE, if_pos hd0] at hE; exact hE
    obtain ⟨hbook, hkn, hdin, hrb⟩ := days_ok hd0
    have hG := book_good hbook
    subst hkn
    obtain ⟨⟨hw0, hwn⟩, hd2, hne⟩ := swap_ok hs0
    obtain ⟨x, rfl⟩ := Int.eq_ofNat_of_zero_le hw0
    obtain ⟨y, rfl⟩ := Int.eq_ofNat_of_zero_le hd2.1
    simp only [Int.toNat_natCast] at hwn hne ⊢
    have HL := Lib.hid (fun (z : World) (h1 : Wants z a k f) (h2 : Ints z da k g) => ChainOf_c S M a k cap f da dcap (natD g) x y z h1 hG.2.2.1 (ints_congr h2 fun i hi => (natD_int hdin i hi).symm) hwn)
    obtain ⟨L, hL⟩ : ∃ L, chainL f k (natD g) (natD g x) y x = L := ⟨_, rfl⟩
    rw [hL] at HL ⊢
    have HE := Lib.hid hE
    clear hR hf hd hB hd0 hs0 hbook hdin hrb hG hL hE
    go_enter Tryz.func12, Tryz.ntmps12
    go_wp2_with fail
    refine (HC.out _ HF.out HD.out).mono ?_
    rintro e w1 ⟨rfl, hb1⟩
    have q0 := (hb1.cell (p := ⟨w.heap.size, 0, none⟩) rz).trans r0
    have q1 := (hb1.cell (p := ⟨w.heap.size, 1, none⟩) rz).trans r1
    have q2 := (hb1.cell (p := ⟨w.heap.size, 2, none⟩) rz).trans r2
    replace HF := Lib.hid (HF.out.below hb1)
    replace HD := Lib.hid (Cells.below HD.out hb1)
    go_wp2_with fail
    refine (HL.out _ HF.out HD.out).mono ?_
    rintro e w2 ⟨p, c, rfl, hlst, hb2⟩
    have HLs := Lib.hid hlst
    clear hlst
    go_wp2_with fail
    refine bodyPost_ret (v := .tuple #[.slice p L.length c, .int .i64 0]) (by simp [results, Tryz.results12, go_sem]) rfl ⟨bup HB.out (bup hb1 hb2), .inl ⟨HE.out, p, c, rfl, HLs.out⟩⟩
  · obtain ⟨v, hv⟩ : ∃ v, chainE S M n f k g want day = v := ⟨_, rfl⟩
    rw [hv] at hE HC ⊢
    have t0 : (v != 0) = true := by simpa using hE
    clear hR hv hf hd hB
    go_enter Tryz.func12, Tryz.ntmps12
    go_wp2_with fail
    refine (HC.out _ HF.out HD.out).mono ?_
    rintro e w1 ⟨rfl, hb1⟩
    have q0 := (hb1.cell (p := ⟨w.heap.size, 0, none⟩) rz).trans r0
    have q1 := (hb1.cell (p := ⟨w.heap.size, 1, none⟩) rz).trans r1
    have q2 := (hb1.cell (p := ⟨w.heap.size, 2, none⟩) rz).trans r2
    replace HF := Lib.hid (HF.out.below hb1)
    replace HD := Lib.hid (Cells.below HD.out hb1)
    go_wp2_with fail
    refine (HC.out _ HF.out HD.out).mono ?_
    rintro e w2 ⟨rfl, hb2⟩
    go_wp2_with fail
    refine bodyPost_ret (v := .tuple #[.slice none 0 0, .int .i64 v]) (by simp [results, Tryz.results12, go_sem]) rfl ⟨bup HB.out (bup hb1 hb2), .inr ⟨hE, rfl⟩⟩

end Go.Proofs.YtbjgbgchagfokaaGreat
