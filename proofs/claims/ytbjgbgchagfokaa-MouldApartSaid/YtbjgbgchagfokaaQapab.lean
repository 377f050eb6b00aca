/- The law MouldApart answers true: two books taken together. Written by tools/law2apart.py. -/
import Derived.Shelf.Abstract
import Derived.Shelf.RegionOpen
import Derived.Deep.RegionHeld3
import Derived.Deep.CutRange
import Derived.Deep.DeepCutAuto
import Derived.Test.YtbjgbgchagfokaaProg
import Derived.Test.YtbjgbgchagfokaaBasaa
import Derived.Test.YtbjgbgchagfokaaBasaj
import Derived.Test.YtbjgbgchagfokaaQapaa
import Derived.Test.YtbjgbgchagfokaaBasay
import Derived.Test.YtbjgbgchagfokaaBasbc
namespace Go.Proofs.Ytbjgbgchagfokaa
open Go Go.RowKit Go.Shelf


theorem best14 {s m : Int} {n : Nat} {f : Nat → W2} (h : bookE s m n f = 0) : (bestOf f n).length ≤ 14 := by
  have h1 := (best_most f n).2.1
  have h2 := cnt_atmost (fun i => i ∈ bestOf f n) n
  have h3 := (book_good h).2.2.1
  omega

set_option maxRecDepth 100000 in
set_option maxHeartbeats 64000000 in
theorem law_apart_c (S M : Int) (a : Option Addr) (n cap : Nat) (f : Nat → W2) (S' M' : Int) (a' : Option Addr) (n' cap' : Nat) (g : Nat → W2) (w : World) (hf : Wants w a n f) (hg : Wants w a' n' g) :
    Calls Try.prog 13 #[bookV S M a n cap, bookV S' M' a' n' cap'] w fun e w' => e = .returned (.bool true) ∧ Below w.heap.size w w' := by
  obtain ⟨W, hW⟩ : ∃ W, (w.alloc (.cells #[.int .i64 S, .int .i64 M, .slice a n cap] 24)).alloc (.cells #[.int .i64 S', .int .i64 M', .slice a' n' cap'] 24) = W := ⟨_, rfl⟩
  have hB : Below w.heap.size w W := by rw [← hW]; exact ((Below.refl _ w).alloc (Nat.le_refl _) _).alloc (by simp) _
  have hR : RowIs W w.heap.size #[.int .i64 S, .int .i64 M, .slice a n cap] 24 := by rw [← hW]; exact ((Below.refl _ _).alloc (Nat.le_refl _) _).block _ (by simp) |>.trans (heap_new_at _ _ _ rfl)
  have hR' : RowIs W (w.heap.size + 1) #[.int .i64 S', .int .i64 M', .slice a' n' cap'] 24 := by rw [← hW]; exact heap_new_at _ _ _ (by simp)
  have HF := Lib.hid (hf.below hB)
  have HG := Lib.hid (hg.below hB)
  have HR := Lib.hid hR
  have HQ := Lib.hid hR'
  clear hR hR' hf hg
  cases hE : decide (bookE S M n f = 0) with
  | false =>
    have HC := Lib.hid (fun (x : World) (h : Wants x a n f) => fine_c S M a n cap f x h)
    rw [hE] at HC
    clear hE
    have r0 : W.cell? ⟨w.heap.size, 0, none⟩ = some (.int .i64 S) := RowIs.cell HR.out 0
    have r1 : W.cell? ⟨w.heap.size, 1, none⟩ = some (.int .i64 M) := RowIs.cell HR.out 1
    have r2 : W.cell? ⟨w.heap.size, 2, none⟩ = some (.slice a n cap) := RowIs.cell HR.out 2
    have rz : w.heap.size < W.heap.size := HR.out.lt
    have q0 : W.cell? ⟨(w.heap.size + 1), 0, none⟩ = some (.int .i64 S') := RowIs.cell HQ.out 0
    have q1 : W.cell? ⟨(w.heap.size + 1), 1, none⟩ = some (.int .i64 M') := RowIs.cell HQ.out 1
    have q2 : W.cell? ⟨(w.heap.size + 1), 2, none⟩ = some (.slice a' n' cap') := RowIs.cell HQ.out 2
    have qz : (w.heap.size + 1) < W.heap.size := HQ.out.lt
    go_enter Try.func13, Try.ntmps13
    go_wp2_with fail
    refine (HC.out _ HF.out).mono ?_
    rintro e w1 ⟨rfl, hb1⟩
    replace HR := Lib.hid (RowIs.below HR.out hb1)
    replace HQ := Lib.hid (RowIs.below HQ.out hb1)
    replace HF := Lib.hid (HF.out.below hb1)
    replace HG := Lib.hid (HG.out.below hb1)
    replace hB := bup hB hb1
    clear r0 r1 r2 rz q0 q1 q2 qz hb1
    have r0 : w1.cell? ⟨w.heap.size, 0, none⟩ = some (.int .i64 S) := RowIs.cell HR.out 0
    have r1 : w1.cell? ⟨w.heap.size, 1, none⟩ = some (.int .i64 M) := RowIs.cell HR.out 1
    have r2 : w1.cell? ⟨w.heap.size, 2, none⟩ = some (.slice a n cap) := RowIs.cell HR.out 2
    have rz : w.heap.size < w1.heap.size := HR.out.lt
    have q0 : w1.cell? ⟨(w.heap.size + 1), 0, none⟩ = some (.int .i64 S') := RowIs.cell HQ.out 0
    have q1 : w1.cell? ⟨(w.heap.size + 1), 1, none⟩ = some (.int .i64 M') := RowIs.cell HQ.out 1
    have q2 : w1.cell? ⟨(w.heap.size + 1), 2, none⟩ = some (.slice a' n' cap') := RowIs.cell HQ.out 2
    have qz : (w.heap.size + 1) < w1.heap.size := HQ.out.lt
    go_wp2_with fail
    refine (works_c _).mono ?_
    rintro e wz ⟨rfl, hbz⟩
    go_wp2_with fail
    go_ret
    exact ⟨rfl, bup hB hbz⟩
  | true =>
    have HC := Lib.hid (fun (x : World) (h : Wants x a n f) => fine_c S M a n cap f x h)
    rw [hE] at HC
    have hE0 := of_decide_eq_true hE
    clear hE
    cases hE' : decide (bookE S' M' n' g = 0) with
    | false =>
      have HD := Lib.hid (fun (x : World) (h : Wants x a' n' g) => fine_c S' M' a' n' cap' g x h)
      rw [hE'] at HD
      clear hE'
      have r0 : W.cell? ⟨w.heap.size, 0, none⟩ = some (.int .i64 S) := RowIs.cell HR.out 0
      have r1 : W.cell? ⟨w.heap.size, 1, none⟩ = some (.int .i64 M) := RowIs.cell HR.out 1
      have r2 : W.cell? ⟨w.heap.size, 2, none⟩ = some (.slice a n cap) := RowIs.cell HR.out 2
      have rz : w.heap.size < W.heap.size := HR.out.lt
      have q0 : W.cell? ⟨(w.heap.size + 1), 0, none⟩ = some (.int .i64 S') := RowIs.cell HQ.out 0
      have q1 : W.cell? ⟨(w.heap.size + 1), 1, none⟩ = some (.int .i64 M') := RowIs.cell HQ.out 1
      have q2 : W.cell? ⟨(w.heap.size + 1), 2, none⟩ = some (.slice a' n' cap') := RowIs.cell HQ.out 2
      have qz : (w.heap.size + 1) < W.heap.size := HQ.out.lt
      go_enter Try.func13, Try.ntmps13
      go_wp2_with fail
      refine (HC.out _ HF.out).mono ?_
      rintro e w1 ⟨rfl, hb1⟩
      replace HR := Lib.hid (RowIs.below HR.out hb1)
      replace HQ := Lib.hid (RowIs.below HQ.out hb1)
      replace HF := Lib.hid (HF.out.below hb1)
      replace HG := Lib.hid (HG.out.below hb1)
      replace hB := bup hB hb1
      clear r0 r1 r2 rz q0 q1 q2 qz hb1
      have r0 : w1.cell? ⟨w.heap.size, 0, none⟩ = some (.int .i64 S) := RowIs.cell HR.out 0
      have r1 : w1.cell? ⟨w.heap.size, 1, none⟩ = some (.int .i64 M) := RowIs.cell HR.out 1
      have r2 : w1.cell? ⟨w.heap.size, 2, none⟩ = some (.slice a n cap) := RowIs.cell HR.out 2
      have rz : w.heap.size < w1.heap.size := HR.out.lt
      have q0 : w1.cell? ⟨(w.heap.size + 1), 0, none⟩ = some (.int .i64 S') := RowIs.cell HQ.out 0
      have q1 : w1.cell? ⟨(w.heap.size + 1), 1, none⟩ = some (.int .i64 M') := RowIs.cell HQ.out 1
      have q2 : w1.cell? ⟨(w.heap.size + 1), 2, none⟩ = some (.slice a' n' cap') := RowIs.cell HQ.out 2
      have qz : (w.heap.size + 1) < w1.heap.size := HQ.out.lt
      go_wp2_with fail
      refine (HD.out _ HG.out).mono ?_
      rintro e w2 ⟨rfl, hb2⟩
      replace HR := Lib.hid (RowIs.below HR.out hb2)
      replace HQ := Lib.hid (RowIs.below HQ.out hb2)
      replace HF := Lib.hid (HF.out.below hb2)
      replace HG := Lib.hid (HG.out.below hb2)
      replace hB := bup hB hb2
      clear r0 r1 r2 rz q0 q1 q2 qz hb2
      have r0 : w2.cell? ⟨w.heap.size, 0, none⟩ = some (.int .i64 S) := RowIs.cell HR.out 0
      have r1 : w2.cell? ⟨w.heap.size, 1, none⟩ = some (.int .i64 M) := RowIs.cell HR.out 1
      have r2 : w2.cell? ⟨w.heap.size, 2, none⟩ = some (.slice a n cap) := RowIs.cell HR.out 2
      have rz : w.heap.size < w2.heap.size := HR.out.lt
      have q0 : w2.cell? ⟨(w.heap.size + 1), 0, none⟩ = some (.int .i64 S') := RowIs.cell HQ.out 0
      have q1 : w2.cell? ⟨(w.heap.size + 1), 1, none⟩ = some (.int .i64 M') := RowIs.cell HQ.out 1
      have q2 : w2.cell? ⟨(w.heap.size + 1), 2, none⟩ = some (.slice a' n' cap') := RowIs.cell HQ.out 2
      have qz : (w.heap.size + 1) < w2.heap.size := HQ.out.lt
      go_wp2_with fail
      refine (works_c _).mono ?_
      rintro e wz ⟨rfl, hbz⟩
      go_wp2_with fail
      go_ret
      exact ⟨rfl, bup hB hbz⟩
    | true =>
      have HD := Lib.hid (fun (x : World) (h : Wants x a' n' g) => fine_c S' M' a' n' cap' g x h)
      rw [hE'] at HD
      have hE0' := of_decide_eq_true hE'
      clear hE'
      have hGA := book_good hE0
      have hGB := book_good hE0'
      obtain ⟨s, rfl⟩ : ∃ s : Nat, S = s := ⟨S.toNat, by have := hGA.1; omega⟩
      obtain ⟨m, rfl⟩ : ∃ m : Nat, M = m := ⟨M.toNat, by have := hGA.2.1; omega⟩
      obtain ⟨s', rfl⟩ : ∃ s : Nat, S' = s := ⟨S'.toNat, by have := hGB.1; omega⟩
      obtain ⟨m', rfl⟩ : ∃ m : Nat, M' = m := ⟨M'.toNat, by have := hGB.2.1; omega⟩
      have hs1 : 1 ≤ s ∧ s ≤ 6 := by have := hGA.1; omega
      have hm1 : 1 ≤ m ∧ m ≤ 6 := by have := hGA.2.1; omega
      have hn14 := hGA.2.2.1
      have hs1' : 1 ≤ s' ∧ s' ≤ 6 := by have := hGB.1; omega
      have hm1' : 1 ≤ m' ∧ m' ≤ 6 := by have := hGB.2.1; omega
      have hn14' := hGB.2.2.1
      have HE := Lib.hid hE0
      have HE' := Lib.hid hE0'
      clear hE0 hE0'
      obtain ⟨ss, hss⟩ : ∃ ss, s + s' = ss := ⟨_, rfl⟩
      obtain ⟨mm, hmm⟩ : ∃ mm, m + m' = mm := ⟨_, rfl⟩
      obtain ⟨nn, hnn⟩ : ∃ nn, n + n' = nn := ⟨_, rfl⟩
      have es : (s : Int) + (s' : Int) = (ss : Int) := by omega
      have em : (m : Int) + (m' : Int) = (mm : Int) := by omega
      have en : (n : Int) + (n' : Int) = (nn : Int) := by omega
      have ws : IntKind.i64.wrap ((s : Int) + (s' : Int)) = (ss : Int) := by rw [es]; exact IntWalk.i64_in _ (by omega)
      have wm : IntKind.i64.wrap ((m : Int) + (m' : Int)) = (mm : Int) := by rw [em]; exact IntWalk.i64_in _ (by omega)
      have wn : IntKind.i64.wrap ((n : Int) + (n' : Int)) = (nn : Int) := by rw [en]; exact IntWalk.i64_in _ (by omega)
      have Hss := Lib.hid hss
      have Hmm := Lib.hid hmm
      have Hnn := Lib.hid hnn
      clear hss hmm hnn es em en
      by_cases h1 : 6 < ss
      · have t1 : decide ((6 : Int) < (ss : Int)) = true := by simp; omega
        have r0 : W.cell? ⟨w.heap.size, 0, none⟩ = some (.int .i64 s) := RowIs.cell HR.out 0
        have r1 : W.cell? ⟨w.heap.size, 1, none⟩ = some (.int .i64 m) := RowIs.cell HR.out 1
        have r2 : W.cell? ⟨w.heap.size, 2, none⟩ = some (.slice a n cap) := RowIs.cell HR.out 2
        have rz : w.heap.size < W.heap.size := HR.out.lt
        have q0 : W.cell? ⟨(w.heap.size + 1), 0, none⟩ = some (.int .i64 s') := RowIs.cell HQ.out 0
        have q1 : W.cell? ⟨(w.heap.size + 1), 1, none⟩ = some (.int .i64 m') := RowIs.cell HQ.out 1
        have q2 : W.cell? ⟨(w.heap.size + 1), 2, none⟩ = some (.slice a' n' cap') := RowIs.cell HQ.out 2
        have qz : (w.heap.size + 1) < W.heap.size := HQ.out.lt
        go_enter Try.func13, Try.ntmps13
        go_wp2_with fail
        refine (HC.out _ HF.out).mono ?_
        rintro e w1 ⟨rfl, hb1⟩
        replace HR := Lib.hid (RowIs.below HR.out hb1)
        replace HQ := Lib.hid (RowIs.below HQ.out hb1)
        replace HF := Lib.hid (HF.out.below hb1)
        replace HG := Lib.hid (HG.out.below hb1)
        replace hB := bup hB hb1
        clear r0 r1 r2 rz q0 q1 q2 qz hb1
        have r0 : w1.cell? ⟨w.heap.size, 0, none⟩ = some (.int .i64 s) := RowIs.cell HR.out 0
        have r1 : w1.cell? ⟨w.heap.size, 1, none⟩ = some (.int .i64 m) := RowIs.cell HR.out 1
        have r2 : w1.cell? ⟨w.heap.size, 2, none⟩ = some (.slice a n cap) := RowIs.cell HR.out 2
        have rz : w.heap.size < w1.heap.size := HR.out.lt
        have q0 : w1.cell? ⟨(w.heap.size + 1), 0, none⟩ = some (.int .i64 s') := RowIs.cell HQ.out 0
        have q1 : w1.cell? ⟨(w.heap.size + 1), 1, none⟩ = some (.int .i64 m') := RowIs.cell HQ.out 1
        have q2 : w1.cell? ⟨(w.heap.size + 1), 2, none⟩ = some (.slice a' n' cap') := RowIs.cell HQ.out 2
        have qz : (w.heap.size + 1) < w1.heap.size := HQ.out.lt
        go_wp2_with fail
        refine (HD.out _ HG.out).mono ?_
        rintro e w2 ⟨rfl, hb2⟩
        replace HR := Lib.hid (RowIs.below HR.out hb2)
        replace HQ := Lib.hid (RowIs.below HQ.out hb2)
        replace HF := Lib.hid (HF.out.below hb2)
        replace HG := Lib.hid (HG.out.below hb2)
        replace hB := bup hB hb2
        clear r0 r1 r2 rz q0 q1 q2 qz hb2
        have r0 : w2.cell? ⟨w.heap.size, 0, none⟩ = some (.int .i64 s) := RowIs.cell HR.out 0
        have r1 : w2.cell? ⟨w.heap.size, 1, none⟩ = some (.int .i64 m) := RowIs.cell HR.out 1
        have r2 : w2.cell? ⟨w.heap.size, 2, none⟩ = some (.slice a n cap) := RowIs.cell HR.out 2
        have rz : w.heap.size < w2.heap.size := HR.out.lt
        have q0 : w2.cell? ⟨(w.heap.size + 1), 0, none⟩ = some (.int .i64 s') := RowIs.cell HQ.out 0
        have q1 : w2.cell? ⟨(w.heap.size + 1), 1, none⟩ = some (.int .i64 m') := RowIs.cell HQ.out 1
        have q2 : w2.cell? ⟨(w.heap.size + 1), 2, none⟩ = some (.slice a' n' cap') := RowIs.cell HQ.out 2
        have qz : (w.heap.size + 1) < w2.heap.size := HQ.out.lt
        go_wp2_with fail
        refine (works_c _).mono ?_
        rintro e wz ⟨rfl, hbz⟩
        go_wp2_with fail
        go_ret
        exact ⟨rfl, bup hB hbz⟩
      have t1 : decide ((6 : Int) < (ss : Int)) = false := by simp; omega
      by_cases h2 : 6 < mm
      · have t2 : decide ((6 : Int) < (mm : Int)) = true := by simp; omega
        have r0 : W.cell? ⟨w.heap.size, 0, none⟩ = some (.int .i64 s) := RowIs.cell HR.out 0
        have r1 : W.cell? ⟨w.heap.size, 1, none⟩ = some (.int .i64 m) := RowIs.cell HR.out 1
        have r2 : W.cell? ⟨w.heap.size, 2, none⟩ = some (.slice a n cap) := RowIs.cell HR.out 2
        have rz : w.heap.size < W.heap.size := HR.out.lt
        have q0 : W.cell? ⟨(w.heap.size + 1), 0, none⟩ = some (.int .i64 s') := RowIs.cell HQ.out 0
        have q1 : W.cell? ⟨(w.heap.size + 1), 1, none⟩ = some (.int .i64 m') := RowIs.cell HQ.out 1
        have q2 : W.cell? ⟨(w.heap.size + 1), 2, none⟩ = some (.slice a' n' cap') := RowIs.cell HQ.out 2
        have qz : (w.heap.size + 1) < W.heap.size := HQ.out.lt
        go_enter Try.func13, Try.ntmps13
        go_wp2_with fail
        refine (HC.out _ HF.out).mono ?_
        rintro e w1 ⟨rfl, hb1⟩
        replace HR := Lib.hid (RowIs.below HR.out hb1)
        replace HQ := Lib.hid (RowIs.below HQ.out hb1)
        replace HF := Lib.hid (HF.out.below hb1)
        replace HG := Lib.hid (HG.out.below hb1)
        replace hB := bup hB hb1
        clear r0 r1 r2 rz q0 q1 q2 qz hb1
        have r0 : w1.cell? ⟨w.heap.size, 0, none⟩ = some (.int .i64 s) := RowIs.cell HR.out 0
        have r1 : w1.cell? ⟨w.heap.size, 1, none⟩ = some (.int .i64 m) := RowIs.cell HR.out 1
        have r2 : w1.cell? ⟨w.heap.size, 2, none⟩ = some (.slice a n cap) := RowIs.cell HR.out 2
        have rz : w.heap.size < w1.heap.size := HR.out.lt
        have q0 : w1.cell? ⟨(w.heap.size + 1), 0, none⟩ = some (.int .i64 s') := RowIs.cell HQ.out 0
        have q1 : w1.cell? ⟨(w.heap.size + 1), 1, none⟩ = some (.int .i64 m') := RowIs.cell HQ.out 1
        have q2 : w1.cell? ⟨(w.heap.size + 1), 2, none⟩ = some (.slice a' n' cap') := RowIs.cell HQ.out 2
        have qz : (w.heap.size + 1) < w1.heap.size := HQ.out.lt
        go_wp2_with fail
        refine (HD.out _ HG.out).mono ?_
        rintro e w2 ⟨rfl, hb2⟩
        replace HR := Lib.hid (RowIs.below HR.out hb2)
        replace HQ := Lib.hid (RowIs.below HQ.out hb2)
        replace HF := Lib.hid (HF.out.below hb2)
        replace HG := Lib.hid (HG.out.below hb2)
        replace hB := bup hB hb2
        clear r0 r1 r2 rz q0 q1 q2 qz hb2
        have r0 : w2.cell? ⟨w.heap.size, 0, none⟩ = some (.int .i64 s) := RowIs.cell HR.out 0
        have r1 : w2.cell? ⟨w.heap.size, 1, none⟩ = some (.int .i64 m) := RowIs.cell HR.out 1
        have r2 : w2.cell? ⟨w.heap.size, 2, none⟩ = some (.slice a n cap) := RowIs.cell HR.out 2
        have rz : w.heap.size < w2.heap.size := HR.out.lt
        have q0 : w2.cell? ⟨(w.heap.size + 1), 0, none⟩ = some (.int .i64 s') := RowIs.cell HQ.out 0
        have q1 : w2.cell? ⟨(w.heap.size + 1), 1, none⟩ = some (.int .i64 m') := RowIs.cell HQ.out 1
        have q2 : w2.cell? ⟨(w.heap.size + 1), 2, none⟩ = some (.slice a' n' cap') := RowIs.cell HQ.out 2
        have qz : (w.heap.size + 1) < w2.heap.size := HQ.out.lt
        go_wp2_with fail
        refine (works_c _).mono ?_
        rintro e wz ⟨rfl, hbz⟩
        go_wp2_with fail
        go_ret
        exact ⟨rfl, bup hB hbz⟩
      have t2 : decide ((6 : Int) < (mm : Int)) = false := by simp; omega
      by_cases h3 : 14 < nn
      · have t3 : decide ((14 : Int) < (nn : Int)) = true := by simp; omega
        have r0 : W.cell? ⟨w.heap.size, 0, none⟩ = some (.int .i64 s) := RowIs.cell HR.out 0
        have r1 : W.cell? ⟨w.heap.size, 1, none⟩ = some (.int .i64 m) := RowIs.cell HR.out 1
        have r2 : W.cell? ⟨w.heap.size, 2, none⟩ = some (.slice a n cap) := RowIs.cell HR.out 2
        have rz : w.heap.size < W.heap.size := HR.out.lt
        have q0 : W.cell? ⟨(w.heap.size + 1), 0, none⟩ = some (.int .i64 s') := RowIs.cell HQ.out 0
        have q1 : W.cell? ⟨(w.heap.size + 1), 1, none⟩ = some (.int .i64 m') := RowIs.cell HQ.out 1
        have q2 : W.cell? ⟨(w.heap.size + 1), 2, none⟩ = some (.slice a' n' cap') := RowIs.cell HQ.out 2
        have qz : (w.heap.size + 1) < W.heap.size := HQ.out.lt
        go_enter Try.func13, Try.ntmps13
        go_wp2_with fail
        refine (HC.out _ HF.out).mono ?_
        rintro e w1 ⟨rfl, hb1⟩
        replace HR := Lib.hid (RowIs.below HR.out hb1)
        replace HQ := Lib.hid (RowIs.below HQ.out hb1)
        replace HF := Lib.hid (HF.out.below hb1)
        replace HG := Lib.hid (HG.out.below hb1)
        replace hB := bup hB hb1
        clear r0 r1 r2 rz q0 q1 q2 qz hb1
        have r0 : w1.cell? ⟨w.heap.size, 0, none⟩ = some (.int .i64 s) := RowIs.cell HR.out 0
        have r1 : w1.cell? ⟨w.heap.size, 1, none⟩ = some (.int .i64 m) := RowIs.cell HR.out 1
        have r2 : w1.cell? ⟨w.heap.size, 2, none⟩ = some (.slice a n cap) := RowIs.cell HR.out 2
        have rz : w.heap.size < w1.heap.size := HR.out.lt
        have q0 : w1.cell? ⟨(w.heap.size + 1), 0, none⟩ = some (.int .i64 s') := RowIs.cell HQ.out 0
        have q1 : w1.cell? ⟨(w.heap.size + 1), 1, none⟩ = some (.int .i64 m') := RowIs.cell HQ.out 1
        have q2 : w1.cell? ⟨(w.heap.size + 1), 2, none⟩ = some (.slice a' n' cap') := RowIs.cell HQ.out 2
        have qz : (w.heap.size + 1) < w1.heap.size := HQ.out.lt
        go_wp2_with fail
        refine (HD.out _ HG.out).mono ?_
        rintro e w2 ⟨rfl, hb2⟩
        replace HR := Lib.hid (RowIs.below HR.out hb2)
        replace HQ := Lib.hid (RowIs.below HQ.out hb2)
        replace HF := Lib.hid (HF.out.below hb2)
        replace HG := Lib.hid (HG.out.below hb2)
        replace hB := bup hB hb2
        clear r0 r1 r2 rz q0 q1 q2 qz hb2
        have r0 : w2.cell? ⟨w.heap.size, 0, none⟩ = some (.int .i64 s) := RowIs.cell HR.out 0
        have r1 : w2.cell? ⟨w.heap.size, 1, none⟩ = some (.int .i64 m) := RowIs.cell HR.out 1
        have r2 : w2.cell? ⟨w.heap.size, 2, none⟩ = some (.slice a n cap) := RowIs.cell HR.out 2
        have rz : w.heap.size < w2.heap.size := HR.out.lt
        have q0 : w2.cell? ⟨(w.heap.size + 1), 0, none⟩ = some (.int .i64 s') := RowIs.cell HQ.out 0
        have q1 : w2.cell? ⟨(w.heap.size + 1), 1, none⟩ = some (.int .i64 m') := RowIs.cell HQ.out 1
        have q2 : w2.cell? ⟨(w.heap.size + 1), 2, none⟩ = some (.slice a' n' cap') := RowIs.cell HQ.out 2
        have qz : (w.heap.size + 1) < w2.heap.size := HQ.out.lt
        go_wp2_with fail
        refine (works_c _).mono ?_
        rintro e wz ⟨rfl, hbz⟩
        go_wp2_with fail
        go_ret
        exact ⟨rfl, bup hB hbz⟩
      have t3 : decide ((14 : Int) < (nn : Int)) = false := by simp; omega
      have hGJ : GoodBook (ss : Int) (mm : Int) nn (joinW f n g s m) := by have h := join_good hGA hGB (by have := Hss.out; omega) (by have := Hmm.out; omega) (by have := Hnn.out; omega); rwa [show (s : Int) + s' = ss by have := Hss.out; omega, show (m : Int) + m' = mm by have := Hmm.out; omega, Hnn.out] at h
      have HEJ := Lib.hid (good_bookE hGJ)
      have HGA := Lib.hid hGA
      have HGB := Lib.hid hGB
      clear hGJ hGA hGB
      have r0 : W.cell? ⟨w.heap.size, 0, none⟩ = some (.int .i64 s) := RowIs.cell HR.out 0
      have r1 : W.cell? ⟨w.heap.size, 1, none⟩ = some (.int .i64 m) := RowIs.cell HR.out 1
      have r2 : W.cell? ⟨w.heap.size, 2, none⟩ = some (.slice a n cap) := RowIs.cell HR.out 2
      have rz : w.heap.size < W.heap.size := HR.out.lt
      have q0 : W.cell? ⟨(w.heap.size + 1), 0, none⟩ = some (.int .i64 s') := RowIs.cell HQ.out 0
      have q1 : W.cell? ⟨(w.heap.size + 1), 1, none⟩ = some (.int .i64 m') := RowIs.cell HQ.out 1
      have q2 : W.cell? ⟨(w.heap.size + 1), 2, none⟩ = some (.slice a' n' cap') := RowIs.cell HQ.out 2
      have qz : (w.heap.size + 1) < W.heap.size := HQ.out.lt
      go_enter Try.func13, Try.ntmps13
      go_wp2_with fail
      refine (HC.out _ HF.out).mono ?_
      rintro e w1 ⟨rfl, hb1⟩
      replace HR := Lib.hid (RowIs.below HR.out hb1)
      replace HQ := Lib.hid (RowIs.below HQ.out hb1)
      replace HF := Lib.hid (HF.out.below hb1)
      replace HG := Lib.hid (HG.out.below hb1)
      replace hB := bup hB hb1
      clear r0 r1 r2 rz q0 q1 q2 qz hb1
      have r0 : w1.cell? ⟨w.heap.size, 0, none⟩ = some (.int .i64 s) := RowIs.cell HR.out 0
      have r1 : w1.cell? ⟨w.heap.size, 1, none⟩ = some (.int .i64 m) := RowIs.cell HR.out 1
      have r2 : w1.cell? ⟨w.heap.size, 2, none⟩ = some (.slice a n cap) := RowIs.cell HR.out 2
      have rz : w.heap.size < w1.heap.size := HR.out.lt
      have q0 : w1.cell? ⟨(w.heap.size + 1), 0, none⟩ = some (.int .i64 s') := RowIs.cell HQ.out 0
      have q1 : w1.cell? ⟨(w.heap.size + 1), 1, none⟩ = some (.int .i64 m') := RowIs.cell HQ.out 1
      have q2 : w1.cell? ⟨(w.heap.size + 1), 2, none⟩ = some (.slice a' n' cap') := RowIs.cell HQ.out 2
      have qz : (w.heap.size + 1) < w1.heap.size := HQ.out.lt
      go_wp2_with fail
      refine (HD.out _ HG.out).mono ?_
      rintro e w2 ⟨rfl, hb2⟩
      replace HR := Lib.hid (RowIs.below HR.out hb2)
      replace HQ := Lib.hid (RowIs.below HQ.out hb2)
      replace HF := Lib.hid (HF.out.below hb2)
      replace HG := Lib.hid (HG.out.below hb2)
      replace hB := bup hB hb2
      clear r0 r1 r2 rz q0 q1 q2 qz hb2
      have r0 : w2.cell? ⟨w.heap.size, 0, none⟩ = some (.int .i64 s) := RowIs.cell HR.out 0
      have r1 : w2.cell? ⟨w.heap.size, 1, none⟩ = some (.int .i64 m) := RowIs.cell HR.out 1
      have r2 : w2.cell? ⟨w.heap.size, 2, none⟩ = some (.slice a n cap) := RowIs.cell HR.out 2
      have rz : w.heap.size < w2.heap.size := HR.out.lt
      have q0 : w2.cell? ⟨(w.heap.size + 1), 0, none⟩ = some (.int .i64 s') := RowIs.cell HQ.out 0
      have q1 : w2.cell? ⟨(w.heap.size + 1), 1, none⟩ = some (.int .i64 m') := RowIs.cell HQ.out 1
      have q2 : w2.cell? ⟨(w.heap.size + 1), 2, none⟩ = some (.slice a' n' cap') := RowIs.cell HQ.out 2
      have qz : (w.heap.size + 1) < w2.heap.size := HQ.out.lt
      clear HC HD
      go_wp2_with fail
      go_cut [5] from 57 to 71 (fun e wx => ∃ bx gx cx, e = .pointer (some ⟨bx, 0, none⟩) ∧ w2.heap.size ≤ bx ∧ RowIs wx bx #[.int .i64 ss, .int .i64 mm, .slice (some ⟨gx, 0, none⟩) n cx] 24 ∧ OwnA w2.heap.size n f wx gx cx ∧ Below w2.heap.size w2 wx)
      case first =>
        refine wp_region_run0 (by kernel_rfl) ?_
        change Run _ _ _ _ _ 17 _ _ _
        refine run_take (i := 0) (.pointer (some ⟨w.heap.size, 0, none⟩)) rfl (by kernel_rfl) (by kernel_rfl) (by kernel_rfl) rfl (fun y h => h) (fun y hy => by go_simp) ?_
        simp only [Act.put, List.getElem_toArray, List.getElem_cons_zero, List.setIfInBounds_toArray, List.set_cons_zero, List.set_cons_succ]
        refine run_take (i := 1) (.int .i64 (s : Int)) rfl (by kernel_rfl) (by kernel_rfl) (by kernel_rfl) rfl (fun y h => h) (fun y hy => by have c0 := (hy.cell (p := ⟨w.heap.size, 0, none⟩) rz).trans r0; go_simp) ?_
        simp only [Act.put, List.getElem_toArray, List.getElem_cons_zero, List.getElem_cons_succ, List.setIfInBounds_toArray, List.set_cons_zero, List.set_cons_succ]
        refine run_take (i := 2) (.pointer (some ⟨(w.heap.size + 1), 0, none⟩)) rfl (by kernel_rfl) (by kernel_rfl) (by kernel_rfl) rfl (fun y h => h) (fun y hy => by go_simp) ?_
        simp only [Act.put, List.getElem_toArray, List.getElem_cons_zero, List.getElem_cons_succ, List.setIfInBounds_toArray, List.set_cons_zero, List.set_cons_succ]
        refine run_take (i := 3) (.int .i64 (s' : Int)) rfl (by kernel_rfl) (by kernel_rfl) (by kernel_rfl) rfl (fun y h => h) (fun y hy => by have c0 := (hy.cell (p := ⟨(w.heap.size + 1), 0, none⟩) qz).trans q0; go_simp) ?_
        simp only [Act.put, List.getElem_toArray, List.getElem_cons_zero, List.getElem_cons_succ, List.setIfInBounds_toArray, List.set_cons_zero, List.set_cons_succ]
        refine run_take (i := 4) (.int .i64 (ss : Int)) rfl (by kernel_rfl) (by kernel_rfl) (by kernel_rfl) rfl (fun y h => h) (fun y hy => by go_simp) ?_
        simp only [Act.put, List.getElem_toArray, List.getElem_cons_zero, List.getElem_cons_succ, List.setIfInBounds_toArray, List.set_cons_zero, List.set_cons_succ]
        refine run_take (i := 5) (.pointer (some ⟨w.heap.size, 1, none⟩)) rfl (by kernel_rfl) (by kernel_rfl) (by kernel_rfl) rfl (fun y h => h) (fun y hy => by go_simp) ?_
        simp only [Act.put, List.getElem_toArray, List.getElem_cons_zero, List.getElem_cons_succ, List.setIfInBounds_toArray, List.set_cons_zero, List.set_cons_succ]
        refine run_take (i := 6) (.int .i64 (m : Int)) rfl (by kernel_rfl) (by kernel_rfl) (by kernel_rfl) rfl (fun y h => h) (fun y hy => by have c0 := (hy.cell (p := ⟨w.heap.size, 1, none⟩) rz).trans r1; go_simp) ?_
        simp only [Act.put, List.getElem_toArray, List.getElem_cons_zero, List.getElem_cons_succ, List.setIfInBounds_toArray, List.set_cons_zero, List.set_cons_succ]
        refine run_take (i := 7) (.pointer (some ⟨(w.heap.size + 1), 1, none⟩)) rfl (by kernel_rfl) (by kernel_rfl) (by kernel_rfl) rfl (fun y h => h) (fun y hy => by go_simp) ?_
        simp only [Act.put, List.getElem_toArray, List.getElem_cons_zero, List.getElem_cons_succ, List.setIfInBounds_toArray, List.set_cons_zero, List.set_cons_succ]
        refine run_take (i := 8) (.int .i64 (m' : Int)) rfl (by kernel_rfl) (by kernel_rfl) (by kernel_rfl) rfl (fun y h => h) (fun y hy => by have c0 := (hy.cell (p := ⟨(w.heap.size + 1), 1, none⟩) qz).trans q1; go_simp) ?_
        simp only [Act.put, List.getElem_toArray, List.getElem_cons_zero, List.getElem_cons_succ, List.setIfInBounds_toArray, List.set_cons_zero, List.set_cons_succ]
        refine run_take (i := 9) (.int .i64 (mm : Int)) rfl (by kernel_rfl) (by kernel_rfl) (by kernel_rfl) rfl (fun y h => h) (fun y hy => by go_simp) ?_
        simp only [Act.put, List.getElem_toArray, List.getElem_cons_zero, List.getElem_cons_succ, List.setIfInBounds_toArray, List.set_cons_zero, List.set_cons_succ]
        refine run_take (i := 11) (.pointer (some ⟨w.heap.size, 2, none⟩)) rfl (by kernel_rfl) (by kernel_rfl) (by kernel_rfl) rfl (fun y h => h) (fun y hy => by go_simp) ?_
        simp only [Act.put, List.getElem_toArray, List.getElem_cons_zero, List.getElem_cons_succ, List.setIfInBounds_toArray, List.set_cons_zero, List.set_cons_succ]
        refine run_take (i := 12) (.slice a n cap) rfl (by kernel_rfl) (by kernel_rfl) (by kernel_rfl) rfl (fun y h => h) (fun y hy => by have c0 := (hy.cell (p := ⟨w.heap.size, 2, none⟩) rz).trans r2; go_simp) ?_
        simp only [Act.put, List.getElem_toArray, List.getElem_cons_zero, List.getElem_cons_succ, List.setIfInBounds_toArray, List.set_cons_zero, List.set_cons_succ]
        change Run _ _ _ _ _ (2 + 2 + 1) _ _ _
        refine runX_float (w0 := w2) (x := 15) (c := 13) (tx := 5) (z := .cells #[.int .i64 0, .int .i64 0, .slice none 0 0] 24 (0, 0)) (g := 2) rfl rfl rfl (fun a w => by go_simp) (Region.noSelect_spec (by kernel_rfl)) (by kernel_rfl) (by kernel_rfl) (by decide) (fun y h => h.size) 2 _ _ _ (fun _ => False) (by kernel_rfl) (fun y h => h) (fun y _ b hb => hb.elim) ?_
        refine runX_each [10] (by kernel_rfl) (by kernel_rfl) (by kernel_rfl) (by decide) ?_
        intro i hi
        simp only [List.mem_cons, List.not_mem_nil, or_false] at hi
        subst hi
        refine atX_upd (fun v y => ∃ bb1, v = sl bb1 0 0 ∧ (Below w2.heap.size w2 y ∧ OwnL w2.heap.size y bb1)) (fun v q => ∃ bb1, v = sl bb1 0 0 ∧ q = bb1) rfl rfl ?_ ?_ ?_ ?_ ?_
        · rintro v y y1 ⟨bb1, e, ⟨h0, h1⟩⟩ hb
          exact ⟨bb1, e, h0.trans (hb.mono h0.size), OwnL.st _ _ h1 hb⟩
        · rintro v y ⟨bb1, e, ⟨h0, h1⟩⟩
          exact h0
        · rintro v y ⟨bb1, e, ⟨h0, h1⟩⟩ q ⟨bb1', e1, rfl⟩
          have e2 := (sl_inj (e.symm.trans e1)).1
          have := h1.lt.2
          omega
        · rintro y g0
          refine ⟨sl y.heap.size 0 0, y.alloc (.cells #[] 58), by go_simp, ⟨y.heap.size, rfl, g0.alloc g0.size _, lit_owns g0.size⟩, fun q zz _ hz => alloc_block y _ hz, ?_⟩
          rintro q ⟨b', e1, rfl⟩
          right
          have := (sl_inj e1).1
          omega
        rintro v ⟨_, bb1, rfl, -⟩
        refine runX_mono _ _ _ (fun y => Below w2.heap.size w2 y ∧ OwnL w2.heap.size y bb1) _ (fun q => q = bb1) _ ?_ ?_ ?_ ?_
        · rintro y ⟨bb1', e, h⟩
          have e2 := (sl_inj e).1
          subst e2
          exact h
        · intro q hq
          exact ⟨bb1, rfl, hq⟩
        · rintro q ⟨bb1', e, rfl⟩
          exact ((sl_inj e).1).symm
        simp only [Act.put, List.getElem_toArray, List.getElem_cons_zero, List.getElem_cons_succ, List.setIfInBounds_toArray, List.set_cons_zero, List.set_cons_succ]
        refine runX_each [13] (by kernel_rfl) (by kernel_rfl) (by kernel_rfl) (by decide) ?_
        intro i hi
        simp only [List.mem_cons, List.not_mem_nil, or_false] at hi
        subst hi
        refine atX_upd (fun v y => ∃ gg2 cc3, v = sl gg2 n cc3 ∧ (Below w2.heap.size w2 y ∧ OwnA w2.heap.size n f y gg2 cc3)) (fun v q => ∃ gg2 cc3, v = sl gg2 n cc3 ∧ q = gg2) rfl rfl ?_ ?_ ?_ ?_ ?_
        · rintro v y y1 ⟨gg2, cc3, e, ⟨h0, h1⟩⟩ hb
          exact ⟨gg2, cc3, e, h0.trans (hb.mono h0.size), OwnA.st _ _ h1 hb⟩
        · rintro v y ⟨gg2, cc3, e, ⟨h0, h1⟩⟩
          exact h0
        · rintro v y ⟨gg2, cc3, e, ⟨h0, h1⟩⟩ q ⟨gg2', cc3', e1, rfl⟩
          have e2 := (sl_inj (e.symm.trans e1)).1
          have := h1.lt.2
          omega
        · rintro y ⟨g0, g1⟩
          obtain ⟨g, c', y', hr, a1, a2, a3, a4⟩ := append_list (n := n) (cap := cap) g0 rfl (HF.out.below g0) (by omega) g1
          refine ⟨sl g n c', y', exec_app _ _ _ rfl _ _ rfl rfl hr, ⟨g, c', rfl, a2, a1⟩, fun q zz hq hz => a3 q zz hq hz, ?_⟩
          rintro q ⟨g'', c'', e1, rfl⟩
          have e2 := (sl_inj e1).1
          subst e2
          exact a4
        rintro v ⟨_, gg2, cc3, rfl, -⟩
        refine runX_mono _ _ _ (fun y => Below w2.heap.size w2 y ∧ OwnA w2.heap.size n f y gg2 cc3) _ (fun q => q = gg2) _ ?_ ?_ ?_ ?_
        · rintro y ⟨gg2', cc3', e, h⟩
          obtain ⟨e2, -, e3⟩ := sl_inj e
          subst e2 e3
          exact h
        · intro q hq
          exact ⟨gg2, cc3, rfl, hq⟩
        · rintro q ⟨gg2', cc3', e, rfl⟩
          exact ((sl_inj e).1).symm
        simp only [Act.put, List.getElem_toArray, List.getElem_cons_zero, List.getElem_cons_succ, List.setIfInBounds_toArray, List.set_cons_zero, List.set_cons_succ]
        refine ⟨?_, fun bx hbx hbX => ?_⟩
        · skip
          change Run _ _ _ _ _ 3 _ _ _
          refine run_take (i := 14) (.agg #[.int .i64 ss, .int .i64 mm, .slice (some ⟨gg2, 0, none⟩) n cc3]) rfl (by kernel_rfl) (by kernel_rfl) (by kernel_rfl) rfl (fun y h => h.1) (fun y _ => by go_simp) ?_
          simp only [Act.put, List.getElem_toArray, List.getElem_cons_zero, List.getElem_cons_succ, List.setIfInBounds_toArray, List.set_cons_zero, List.set_cons_succ]
          refine run_alloc (w0 := w2) (i := 15) (t := 5) (z := .cells #[.int .i64 0, .int .i64 0, .slice none 0 0] 24 (0, 0)) (by kernel_rfl) rfl rfl rfl (fun a w => by go_simp) (fun y h => h.1.size) ?_
          intro bx hbx
          simp only [Act.put, List.setIfInBounds_toArray, List.set_cons_zero, List.set_cons_succ]
          refine run_store (i := 16) (fun y => (Below w2.heap.size w2 y ∧ OwnA w2.heap.size n f y gg2 cc3) ∧ RowIs y bx #[.int .i64 ss, .int .i64 mm, .slice (some ⟨gg2, 0, none⟩) n cc3] 24) (by kernel_rfl) rfl rfl (fun y y1 h hb => ⟨⟨h.1.1.trans (hb.mono h.1.1.size), OwnA.st _ _ h.1.2 hb⟩, RowIs.below h.2 hb⟩) (fun y h => h.1.1) ?_ ?_
          · rintro y ⟨⟨g0, g1⟩, g2⟩
            have hzr : RowIs y bx #[.int .i64 0, .int .i64 0, .slice none 0 0] 24 := g2
            have e0 := hzr.cell 0
            have e1 := hzr.cell 1
            have e2 := hzr.cell 2
            have f0 := hzr.frozen 0
            have f1 := hzr.frozen 1
            have f2 := hzr.frozen 2
            have ez := hzr.lt
            simp at e0 e1 e2
            have hne : gg2 ≠ bx := OwnR.ne g1 g2 (by decide)
            refine ⟨((y.setCell ⟨bx, 0, none⟩ (.int .i64 ss)).setCell ⟨bx, 1, none⟩ (.int .i64 mm)).setCell ⟨bx, 2, none⟩ (.slice (some ⟨gg2, 0, none⟩) n cc3), by go_simp, ⟨((g0.setCell (p := ⟨bx, 0, none⟩) hbx _).setCell (p := ⟨bx, 1, none⟩) hbx _).setCell (p := ⟨bx, 2, none⟩) hbx _, ?_⟩, ?_⟩
            · exact OwnR.keep g1 (((Below.heap_setCell _ _ _ _ hne).trans (Below.heap_setCell _ _ _ _ hne)).trans (Below.heap_setCell _ _ _ _ hne))
            · exact RowIs.set (RowIs.set (RowIs.set hzr 0 (.int .i64 ss)) 1 (.int .i64 mm)) 2 _
          simp only [Act.put, List.getElem_toArray, List.getElem_cons_zero, List.getElem_cons_succ]
          refine ⟨by kernel_rfl, fun y hy => ?_⟩
          obtain ⟨⟨g0, g1⟩, g2⟩ := hy
          have G1 := Lib.hid g1
          have G2 := Lib.hid g2
          have G0 := Lib.hid g0
          clear g0 g1 g2
          go_wp2_with fail
          go_meet
          exact ⟨bx, gg2, cc3, rfl, hbx, G2.out, G1.out, G0.out⟩
        · skip
          simp only [Act.put, List.setIfInBounds_toArray, List.set_cons_zero, List.set_cons_succ]
          refine run_take (i := 14) (.agg #[.int .i64 ss, .int .i64 mm, .slice (some ⟨gg2, 0, none⟩) n cc3]) rfl (by kernel_rfl) (by kernel_rfl) (by kernel_rfl) rfl (fun y h => h.1.1) (fun y _ => by go_simp) ?_
          simp only [Act.put, List.getElem_toArray, List.getElem_cons_zero, List.getElem_cons_succ, List.setIfInBounds_toArray, List.set_cons_zero, List.set_cons_succ]
          refine run_store (i := 16) (fun y => (Below w2.heap.size w2 y ∧ OwnA w2.heap.size n f y gg2 cc3) ∧ RowIs y bx #[.int .i64 ss, .int .i64 mm, .slice (some ⟨gg2, 0, none⟩) n cc3] 24) (by kernel_rfl) rfl rfl (fun y y1 h hb => ⟨⟨h.1.1.trans (hb.mono h.1.1.size), OwnA.st _ _ h.1.2 hb⟩, RowIs.below h.2 hb⟩) (fun y h => h.1.1) ?_ ?_
          · rintro y ⟨⟨g0, g1⟩, g2⟩
            have hzr : RowIs y bx #[.int .i64 0, .int .i64 0, .slice none 0 0] 24 := g2
            have e0 := hzr.cell 0
            have e1 := hzr.cell 1
            have e2 := hzr.cell 2
            have f0 := hzr.frozen 0
            have f1 := hzr.frozen 1
            have f2 := hzr.frozen 2
            have ez := hzr.lt
            simp at e0 e1 e2
            have hne : gg2 ≠ bx := OwnR.ne g1 g2 (by decide)
            refine ⟨((y.setCell ⟨bx, 0, none⟩ (.int .i64 ss)).setCell ⟨bx, 1, none⟩ (.int .i64 mm)).setCell ⟨bx, 2, none⟩ (.slice (some ⟨gg2, 0, none⟩) n cc3), by go_simp, ⟨((g0.setCell (p := ⟨bx, 0, none⟩) hbx _).setCell (p := ⟨bx, 1, none⟩) hbx _).setCell (p := ⟨bx, 2, none⟩) hbx _, ?_⟩, ?_⟩
            · exact OwnR.keep g1 (((Below.heap_setCell _ _ _ _ hne).trans (Below.heap_setCell _ _ _ _ hne)).trans (Below.heap_setCell _ _ _ _ hne))
            · exact RowIs.set (RowIs.set (RowIs.set hzr 0 (.int .i64 ss)) 1 (.int .i64 mm)) 2 _
          simp only [Act.put, List.getElem_toArray, List.getElem_cons_zero, List.getElem_cons_succ]
          refine ⟨by kernel_rfl, fun y hy => ?_⟩
          obtain ⟨⟨g0, g1⟩, g2⟩ := hy
          have G1 := Lib.hid g1
          have G2 := Lib.hid g2
          have G0 := Lib.hid g0
          clear g0 g1 g2
          go_wp2_with fail
          go_meet
          exact ⟨bx, gg2, cc3, rfl, hbx, G2.out, G1.out, G0.out⟩
      case rest =>
      obtain ⟨bx, gx, cx, rfl, hbx, hrx, hox, hcb⟩ := hcut
      obtain ⟨w4, hww⟩ : ∃ x, x = wc := ⟨_, rfl⟩
      subst hww
      have HRX := Lib.hid hrx
      have HOX := Lib.hid hox
      have HCB := Lib.hid hcb
      clear hrx hox hcb
      obtain ⟨B, hBe⟩ : ∃ B, w2.heap.size = B := ⟨_, rfl⟩
      rw [hBe] at hbx rz qz HOX HCB
      have Hb := Lib.hid hBe
      clear hBe
      go_wp2_with fail
      go_loopw [6] (fun v wr => ∃ (k : Nat) (u : Value), k ≤ n' ∧ v = .int .i64 (k : Int) ∧ RowIs wr bx #[.int .i64 ss, .int .i64 mm, u] 24 ∧ OwnW wr B (joinW f n g s m) (n + k) u ∧ Below B w2 wr ∧ B ≤ wr.heap.size) (fun v _ => n' - (intOf v).toNat)
      case atStart => exact ⟨0, _, Nat.zero_le _, rfl, HRX.out, OwnW.congr (HOX.out : OwnW w4 B f n _) fun i hi => (join_lo hi).symm, HCB.out, by rw [← Hb.out]; exact (show Below w2.heap.size w2 w4 by rw [Hb.out]; exact HCB.out).size⟩
      case round =>
        obtain ⟨k, u, hk, rfl, hr, ho, hBw, hz⟩ := hrel
        clear HRX HOX HCB
        have hw1 : IntKind.i64.wrap ((k : Int) + 1) = (k : Int) + 1 := IntWalk.i64_in _ (by omega)
        have hBw1 : Below w2.heap.size w2 wr := by rw [Hb.out]; exact hBw
        have v2 : wr.cell? ⟨w.heap.size + 1, 2, none⟩ = some (.slice a' n' cap') := (hBw.cell (p := ⟨w.heap.size + 1, 2, none⟩) qz).trans q2
        have Hr := Lib.hid hr
        have Ho := Lib.hid ho
        have HBw := Lib.hid hBw
        have HBw1 := Lib.hid hBw1
        have zb := hr.lt
        clear hr ho hBw hBw1
        by_cases hlt : k < n'
        · skip
          obtain ⟨xb, xo, rfl, hxb, x00, x10⟩ := Wants.at HG.out k hlt
          obtain ⟨up, uc, rfl, -⟩ := Ho.out.wants
          obtain ⟨j, hj⟩ : ∃ j, n + k = j := ⟨_, rfl⟩
          rw [hj] at Ho Hr
          have hj14 : j ≤ 28 := by omega
          have hgk := HGB.out.2.2.2 k hlt
          obtain ⟨e1, he1⟩ : ∃ e1, (g k).s + (s : Int) = e1 := ⟨_, rfl⟩
          obtain ⟨e2, he2⟩ : ∃ e2, (g k).m + (m : Int) = e2 := ⟨_, rfl⟩
          have we1 : IntKind.i64.wrap ((g k).s + (s : Int)) = e1 := by rw [he1]; exact IntWalk.i64_in _ (by omega)
          have we2 : IntKind.i64.wrap ((g k).m + (m : Int)) = e2 := by rw [he2]; exact IntWalk.i64_in _ (by omega)
          have hjv : (joinW f n g s m j).s = e1 ∧ (joinW f n g s m j).m = e2 := by rw [← hj, join_hi]; exact ⟨he1, he2⟩
          have Hjv := Lib.hid hjv
          have Hj := Lib.hid hj
          rw [Hb.out] at hxb
          clear he1 he2 hgk hjv hj
          go_wp2_with fail
          have hFC : ∀ y, Below wr.heap.size wr y → Below B w2 y := fun y hy => HBw.out.trans (hy.mono (by omega))
          have Hvl := Lib.hid (Hjv.out)
          have fin : ∀ (bb : Nat) (y : World), Below wr.heap.size wr y → y.heap[bb]? = some (.cells #[.int .i64 (e1), .int .i64 (e2)] 58 (0, 0)) → ∃ v y', (Builtin.append_ #[22, 22] 22 #[.slice up j uc, .slice (some ⟨bb, 0, none⟩) 1 1]).run Try.prog y = .ok v y' ∧ RowIs y' bx #[.int .i64 ss, .int .i64 mm, .slice up j uc] 24 ∧ OwnW y' B (joinW f n g s m) (j + 1) v ∧ Below B w2 y' ∧ B ≤ y'.heap.size := fun bb y hy1 hy2 => by
            have hOy := Ho.out.below hy1
            obtain ⟨v, y', hrun, ho', hgr⟩ := hOy.append (d := bb) (by rw [Hvl.out.1, Hvl.out.2]; exact hy2) (Nat.le_trans hz hy1.size) (by omega)
            have hlo : ∀ q, q < B → (Value.slice up j uc).ownBlock ≠ some q := fun q hq e => by have := Ho.out.lt e; omega
            have hnb : (Value.slice up j uc).ownBlock ≠ some bx := fun e => OwnW.ne Ho.out Hr.out (by decide) e rfl
            have hst : ∀ q, q < y.heap.size → (Value.slice up j uc).ownBlock ≠ some q → y'.heap[q]? = y.heap[q]? := fun q hq hn => hgr.block q hq (Ne.symm hn)
            have hBy := hFC y hy1
            have hzy := hy1.size
            exact ⟨v, y', hrun, (hst _ (by omega) hnb).trans (Hr.out.below hy1), ho', ⟨hgr.os.trans hBy.os, hgr.tape.trans hBy.tape, hgr.output.trans hBy.output, Nat.le_trans hBy.size hgr.size, fun q hq => (hst q (by have := hBy.size; omega) (hlo q (by omega))).trans (hBy.block q hq)⟩, Nat.le_trans (Nat.le_trans hz hy1.size) hgr.size⟩
          refine wp_region_runF (C := fun y => Below B w2 y) (fun y => Below wr.heap.size wr y) (by kernel_rfl) (stable_below wr) (Below.refl _ _) ?_
          change Run _ _ _ _ _ 25 _ _ _
          refine run_take (i := 0) (.pointer (some ⟨bx, 2, none⟩)) rfl (by kernel_rfl) (by kernel_rfl) (by kernel_rfl) rfl hFC (fun y hy => by go_simp) ?_
          simp only [Act.put, List.getElem_toArray, List.getElem_cons_zero, List.setIfInBounds_toArray, List.set_cons_zero, List.set_cons_succ]
          refine run_take (i := 2) (.pointer (some ⟨w.heap.size + 1, 2, none⟩)) rfl (by kernel_rfl) (by kernel_rfl) (by kernel_rfl) rfl hFC (fun y hy => by go_simp) ?_
          simp only [Act.put, List.getElem_toArray, List.getElem_cons_zero, List.getElem_cons_succ, List.setIfInBounds_toArray, List.set_cons_zero, List.set_cons_succ]
          refine run_take (i := 3) (.slice (some ⟨xb, xo, none⟩) n' cap') rfl (by kernel_rfl) (by kernel_rfl) (by kernel_rfl) rfl hFC (fun y hy => by have c0 := (hy.cell (p := ⟨w.heap.size + 1, 2, none⟩) qz).trans q2; go_simp) ?_
          simp only [Act.put, List.getElem_toArray, List.getElem_cons_zero, List.getElem_cons_succ, List.setIfInBounds_toArray, List.set_cons_zero, List.set_cons_succ]
          refine run_take (i := 4) (.int .i64 (k : Int)) rfl (by kernel_rfl) (by kernel_rfl) (by kernel_rfl) rfl hFC (fun y hy => by go_simp) ?_
          simp only [Act.put, List.getElem_toArray, List.getElem_cons_zero, List.getElem_cons_succ, List.setIfInBounds_toArray, List.set_cons_zero, List.set_cons_succ]
          refine run_take (i := 5) (.pointer (some ⟨xb, xo + k * 2, none⟩)) rfl (by kernel_rfl) (by kernel_rfl) (by kernel_rfl) rfl hFC (fun y hy => by go_simp) ?_
          simp only [Act.put, List.getElem_toArray, List.getElem_cons_zero, List.getElem_cons_succ, List.setIfInBounds_toArray, List.set_cons_zero, List.set_cons_succ]
          refine run_take (i := 6) (.pointer (some ⟨xb, xo + k * 2, none⟩)) rfl (by kernel_rfl) (by kernel_rfl) (by kernel_rfl) rfl hFC (fun y hy => by go_simp) ?_
          simp only [Act.put, List.getElem_toArray, List.getElem_cons_zero, List.getElem_cons_succ, List.setIfInBounds_toArray, List.set_cons_zero, List.set_cons_succ]
          refine run_take (i := 7) (.int .i64 (g k).s) rfl (by kernel_rfl) (by kernel_rfl) (by kernel_rfl) rfl hFC (fun y hy => by have c0 := (hy.cell (p := ⟨xb, xo + k * 2, none⟩) hxb).trans x00; go_simp) ?_
          simp only [Act.put, List.getElem_toArray, List.getElem_cons_zero, List.getElem_cons_succ, List.setIfInBounds_toArray, List.set_cons_zero, List.set_cons_succ]
          refine run_take (i := 8) (.pointer (some ⟨w.heap.size, 0, none⟩)) rfl (by kernel_rfl) (by kernel_rfl) (by kernel_rfl) rfl hFC (fun y hy => by go_simp) ?_
          simp only [Act.put, List.getElem_toArray, List.getElem_cons_zero, List.getElem_cons_succ, List.setIfInBounds_toArray, List.set_cons_zero, List.set_cons_succ]
          refine run_take (i := 9) (.int .i64 (s : Int)) rfl (by kernel_rfl) (by kernel_rfl) (by kernel_rfl) rfl hFC (fun y hy => by have c0 := (hy.cell (p := ⟨w.heap.size, 0, none⟩) rz).trans r0; go_simp) ?_
          simp only [Act.put, List.getElem_toArray, List.getElem_cons_zero, List.getElem_cons_succ, List.setIfInBounds_toArray, List.set_cons_zero, List.set_cons_succ]
          refine run_take (i := 10) (.int .i64 e1) rfl (by kernel_rfl) (by kernel_rfl) (by kernel_rfl) rfl hFC (fun y hy => by go_simp) ?_
          simp only [Act.put, List.getElem_toArray, List.getElem_cons_zero, List.getElem_cons_succ, List.setIfInBounds_toArray, List.set_cons_zero, List.set_cons_succ]
          refine run_take (i := 11) (.pointer (some ⟨w.heap.size + 1, 2, none⟩)) rfl (by kernel_rfl) (by kernel_rfl) (by kernel_rfl) rfl hFC (fun y hy => by go_simp) ?_
          simp only [Act.put, List.getElem_toArray, List.getElem_cons_zero, List.getElem_cons_succ, List.setIfInBounds_toArray, List.set_cons_zero, List.set_cons_succ]
          refine run_take (i := 12) (.slice (some ⟨xb, xo, none⟩) n' cap') rfl (by kernel_rfl) (by kernel_rfl) (by kernel_rfl) rfl hFC (fun y hy => by have c0 := (hy.cell (p := ⟨w.heap.size + 1, 2, none⟩) qz).trans q2; go_simp) ?_
          simp only [Act.put, List.getElem_toArray, List.getElem_cons_zero, List.getElem_cons_succ, List.setIfInBounds_toArray, List.set_cons_zero, List.set_cons_succ]
          refine run_take (i := 13) (.int .i64 (k : Int)) rfl (by kernel_rfl) (by kernel_rfl) (by kernel_rfl) rfl hFC (fun y hy => by go_simp) ?_
          simp only [Act.put, List.getElem_toArray, List.getElem_cons_zero, List.getElem_cons_succ, List.setIfInBounds_toArray, List.set_cons_zero, List.set_cons_succ]
          refine run_take (i := 14) (.pointer (some ⟨xb, xo + k * 2, none⟩)) rfl (by kernel_rfl) (by kernel_rfl) (by kernel_rfl) rfl hFC (fun y hy => by go_simp) ?_
          simp only [Act.put, List.getElem_toArray, List.getElem_cons_zero, List.getElem_cons_succ, List.setIfInBounds_toArray, List.set_cons_zero, List.set_cons_succ]
          refine run_take (i := 15) (.pointer (some ⟨xb, xo + k * 2 + 1, none⟩)) rfl (by kernel_rfl) (by kernel_rfl) (by kernel_rfl) rfl hFC (fun y hy => by go_simp) ?_
          simp only [Act.put, List.getElem_toArray, List.getElem_cons_zero, List.getElem_cons_succ, List.setIfInBounds_toArray, List.set_cons_zero, List.set_cons_succ]
          refine run_take (i := 16) (.int .i64 (g k).m) rfl (by kernel_rfl) (by kernel_rfl) (by kernel_rfl) rfl hFC (fun y hy => by have c0 := (hy.cell (p := ⟨xb, xo + k * 2 + 1, none⟩) hxb).trans x10; go_simp) ?_
          simp only [Act.put, List.getElem_toArray, List.getElem_cons_zero, List.getElem_cons_succ, List.setIfInBounds_toArray, List.set_cons_zero, List.set_cons_succ]
          refine run_take (i := 17) (.pointer (some ⟨w.heap.size, 1, none⟩)) rfl (by kernel_rfl) (by kernel_rfl) (by kernel_rfl) rfl hFC (fun y hy => by go_simp) ?_
          simp only [Act.put, List.getElem_toArray, List.getElem_cons_zero, List.getElem_cons_succ, List.setIfInBounds_toArray, List.set_cons_zero, List.set_cons_succ]
          refine run_take (i := 18) (.int .i64 (m : Int)) rfl (by kernel_rfl) (by kernel_rfl) (by kernel_rfl) rfl hFC (fun y hy => by have c0 := (hy.cell (p := ⟨w.heap.size, 1, none⟩) rz).trans r1; go_simp) ?_
          simp only [Act.put, List.getElem_toArray, List.getElem_cons_zero, List.getElem_cons_succ, List.setIfInBounds_toArray, List.set_cons_zero, List.set_cons_succ]
          refine run_take (i := 19) (.int .i64 e2) rfl (by kernel_rfl) (by kernel_rfl) (by kernel_rfl) rfl hFC (fun y hy => by go_simp) ?_
          simp only [Act.put, List.getElem_toArray, List.getElem_cons_zero, List.getElem_cons_succ, List.setIfInBounds_toArray, List.set_cons_zero, List.set_cons_succ]
          refine run_take (i := 20) (.agg #[.int .i64 e1, .int .i64 e2]) rfl (by kernel_rfl) (by kernel_rfl) (by kernel_rfl) rfl hFC (fun y hy => by go_simp) ?_
          simp only [Act.put, List.getElem_toArray, List.getElem_cons_zero, List.getElem_cons_succ, List.setIfInBounds_toArray, List.set_cons_zero, List.set_cons_succ]
          refine run_both (i := 1) (j := 21) (by kernel_rfl) ?_ ?_
          · skip
            refine at_quiet (.slice up j uc) rfl (quiet_read rfl (fun y hy => ?_)) ?_
            · have c2 : y.cell? ⟨bx, 2, none⟩ = some (.slice up j uc) := (Hr.out.below hy).cell 2
              go_simp
            simp only [Act.put, List.getElem_toArray, List.getElem_cons_zero, List.getElem_cons_succ, List.setIfInBounds_toArray, List.set_cons_zero, List.set_cons_succ]
            refine run_only (i := 21) (by kernel_rfl) (at_make (w0 := wr) (t := 100) (z := .cells #[.int .i64 (e1), .int .i64 (e2)] 58 (0, 0)) (fun q => .slice (some ⟨q, 0, none⟩) 1 1) (fun _ => False) slice_inj rfl rfl rfl (fun y _ => by go_simp) (fun y h => h.size) (fun _ _ _ h => h.elim) ?_)
            intro bb hbb _
            simp only [Act.put, List.setIfInBounds_toArray, List.set_cons_zero, List.set_cons_succ]
            refine run_only (i := 22) (by kernel_rfl) (at_upd (fun v y => RowIs y bx #[.int .i64 ss, .int .i64 mm, .slice up j uc] 24 ∧ OwnW y B (joinW f n g s m) (j + 1) v ∧ Below B w2 y ∧ B ≤ y.heap.size) rfl rfl (fun v y y1 h hb => ⟨h.1.below hb, h.2.1.below hb, h.2.2.1.trans (hb.mono (Nat.le_trans (by omega) h.2.2.2)), Nat.le_trans h.2.2.2 hb.size⟩) (fun v y h => h.2.2.1) (fun y hy => ?_) ?_)
            · obtain ⟨v, y', hrun, h3⟩ := fin bb y hy.1 hy.2
              exact ⟨v, y', exec_app _ _ _ rfl _ _ rfl rfl hrun, h3⟩
            intro v hv
            simp only [Act.put, List.getElem_toArray, List.getElem_cons_zero, List.getElem_cons_succ, List.setIfInBounds_toArray, List.set_cons_zero, List.set_cons_succ]
            refine run_quiet (i := 23) (.pointer (some ⟨bx, 2, none⟩)) (by kernel_rfl) rfl rfl (fun y _ => by go_simp) ?_
            simp only [Act.put, List.getElem_toArray, List.getElem_cons_zero, List.getElem_cons_succ, List.setIfInBounds_toArray, List.set_cons_zero, List.set_cons_succ]
            refine run_store (i := 24) (fun y => RowIs y bx #[.int .i64 ss, .int .i64 mm, v] 24 ∧ OwnW y B (joinW f n g s m) (j + 1) v ∧ Below B w2 y ∧ B ≤ y.heap.size) (by kernel_rfl) rfl rfl (fun y y1 h hb => ⟨h.1.below hb, h.2.1.below hb, h.2.2.1.trans (hb.mono (Nat.le_trans (by omega) h.2.2.2)), Nat.le_trans h.2.2.2 hb.size⟩) (fun y h => h.2.2.1) (fun y hy => ?_) ?_
            · obtain ⟨h1, h2, h3, h4⟩ := hy
              obtain ⟨vp, vc, rfl, -⟩ := h2.wants
              have c2 : y.cell? ⟨bx, 2, none⟩ = some (.slice up j uc) := h1.cell 2
              have f2 := h1.frozen 2
              refine ⟨y.setCell ⟨bx, 2, none⟩ (.slice vp (j + 1) vc), by go_simp, RowIs.set h1 2 _, h2.keep fun q hq => Below.heap_setCell _ _ _ _ (OwnW.ne h2 h1 (by decide) hq), h3.setCell (p := ⟨bx, 2, none⟩) (by show B ≤ bx; omega) _, by simpa using h4⟩
            simp only [Act.put, List.getElem_toArray, List.getElem_cons_zero, List.getElem_cons_succ]
            refine ⟨by kernel_rfl, fun y hy => ?_⟩
            obtain ⟨h1, h2, h3, h4⟩ := hy
            have G1 := Lib.hid h1
            have G2 := Lib.hid h2
            have G3 := Lib.hid h3
            clear h1 h2 h3
            go_wp2_with fail
            go_roundw
            case rel => exact ⟨k + 1, v, by omega, by go_num, G1.out, by rw [show n + (k + 1) = j + 1 by have := Hj.out; omega]; exact G2.out, G3.out, h4⟩
            case measure => simp [intOf]; omega
          · skip
            refine at_make (w0 := wr) (t := 100) (z := .cells #[.int .i64 (e1), .int .i64 (e2)] 58 (0, 0)) (fun q => .slice (some ⟨q, 0, none⟩) 1 1) (fun _ => False) slice_inj rfl rfl rfl (fun y _ => by go_simp) (fun y h => h.size) (fun _ _ _ h => h.elim) ?_
            intro bb hbb _
            simp only [Act.put, List.setIfInBounds_toArray, List.set_cons_zero, List.set_cons_succ]
            refine run_quiet (i := 1) (.slice up j uc) (by kernel_rfl) rfl rfl (fun y hy => by
                have c2 : y.cell? ⟨bx, 2, none⟩ = some (.slice up j uc) := (Hr.out.below hy.1).cell 2
                go_simp) ?_
            simp only [Act.put, List.getElem_toArray, List.getElem_cons_zero, List.getElem_cons_succ, List.setIfInBounds_toArray, List.set_cons_zero, List.set_cons_succ]
            refine run_only (i := 22) (by kernel_rfl) (at_upd (fun v y => RowIs y bx #[.int .i64 ss, .int .i64 mm, .slice up j uc] 24 ∧ OwnW y B (joinW f n g s m) (j + 1) v ∧ Below B w2 y ∧ B ≤ y.heap.size) rfl rfl (fun v y y1 h hb => ⟨h.1.below hb, h.2.1.below hb, h.2.2.1.trans (hb.mono (Nat.le_trans (by omega) h.2.2.2)), Nat.le_trans h.2.2.2 hb.size⟩) (fun v y h => h.2.2.1) (fun y hy => ?_) ?_)
            · obtain ⟨v, y', hrun, h3⟩ := fin bb y hy.1 hy.2
              exact ⟨v, y', exec_app _ _ _ rfl _ _ rfl rfl hrun, h3⟩
            intro v hv
            simp only [Act.put, List.getElem_toArray, List.getElem_cons_zero, List.getElem_cons_succ, List.setIfInBounds_toArray, List.set_cons_zero, List.set_cons_succ]
            refine run_quiet (i := 23) (.pointer (some ⟨bx, 2, none⟩)) (by kernel_rfl) rfl rfl (fun y _ => by go_simp) ?_
            simp only [Act.put, List.getElem_toArray, List.getElem_cons_zero, List.getElem_cons_succ, List.setIfInBounds_toArray, List.set_cons_zero, List.set_cons_succ]
            refine run_store (i := 24) (fun y => RowIs y bx #[.int .i64 ss, .int .i64 mm, v] 24 ∧ OwnW y B (joinW f n g s m) (j + 1) v ∧ Below B w2 y ∧ B ≤ y.heap.size) (by kernel_rfl) rfl rfl (fun y y1 h hb => ⟨h.1.below hb, h.2.1.below hb, h.2.2.1.trans (hb.mono (Nat.le_trans (by omega) h.2.2.2)), Nat.le_trans h.2.2.2 hb.size⟩) (fun y h => h.2.2.1) (fun y hy => ?_) ?_
            · obtain ⟨h1, h2, h3, h4⟩ := hy
              obtain ⟨vp, vc, rfl, -⟩ := h2.wants
              have c2 : y.cell? ⟨bx, 2, none⟩ = some (.slice up j uc) := h1.cell 2
              have f2 := h1.frozen 2
              refine ⟨y.setCell ⟨bx, 2, none⟩ (.slice vp (j + 1) vc), by go_simp, RowIs.set h1 2 _, h2.keep fun q hq => Below.heap_setCell _ _ _ _ (OwnW.ne h2 h1 (by decide) hq), h3.setCell (p := ⟨bx, 2, none⟩) (by show B ≤ bx; omega) _, by simpa using h4⟩
            simp only [Act.put, List.getElem_toArray, List.getElem_cons_zero, List.getElem_cons_succ]
            refine ⟨by kernel_rfl, fun y hy => ?_⟩
            obtain ⟨h1, h2, h3, h4⟩ := hy
            have G1 := Lib.hid h1
            have G2 := Lib.hid h2
            have G3 := Lib.hid h3
            clear h1 h2 h3
            go_wp2_with fail
            go_roundw
            case rel => exact ⟨k + 1, v, by omega, by go_num, G1.out, by rw [show n + (k + 1) = j + 1 by have := Hj.out; omega]; exact G2.out, G3.out, h4⟩
            case measure => simp [intOf]; omega
        · obtain rfl : k = n' := by omega
          obtain ⟨up, uc, rfl, hwx⟩ := Ho.out.wants
          rw [Hnn.out] at hwx Hr
          have HX := Lib.hid hwx
          have HRX := Hr
          clear hwx r0 r1 r2 rz q0 q1 q2 qz v2 Ho Hr hz zb hw1 hlt hk
          replace HF := Lib.hid (HF.out.below HBw1.out)
          replace HG := Lib.hid (HG.out.below HBw1.out)
          replace HR := Lib.hid (RowIs.below HR.out HBw1.out)
          replace HQ := Lib.hid (RowIs.below HQ.out HBw1.out)
          replace hB := bup hB HBw1.out
          clear HBw HBw1 Hb
          obtain ⟨h, hh⟩ : ∃ h, joinW f n g s m = h := ⟨_, rfl⟩
          rw [hh] at HX HEJ
          have Hh := Lib.hid hh
          clear hh
          have r0 : wr.cell? ⟨w.heap.size, 0, none⟩ = some (.int .i64 s) := RowIs.cell HR.out 0
          have r1 : wr.cell? ⟨w.heap.size, 1, none⟩ = some (.int .i64 m) := RowIs.cell HR.out 1
          have r2 : wr.cell? ⟨w.heap.size, 2, none⟩ = some (.slice a n cap) := RowIs.cell HR.out 2
          have rz : w.heap.size < wr.heap.size := HR.out.lt
          have q0 : wr.cell? ⟨(w.heap.size + 1), 0, none⟩ = some (.int .i64 s') := RowIs.cell HQ.out 0
          have q1 : wr.cell? ⟨(w.heap.size + 1), 1, none⟩ = some (.int .i64 m') := RowIs.cell HQ.out 1
          have q2 : wr.cell? ⟨(w.heap.size + 1), 2, none⟩ = some (.slice a' k cap') := RowIs.cell HQ.out 2
          have qz : (w.heap.size + 1) < wr.heap.size := HQ.out.lt
          have x0 : wr.cell? ⟨bx, 0, none⟩ = some (.int .i64 ss) := RowIs.cell HRX.out 0
          have x1 : wr.cell? ⟨bx, 1, none⟩ = some (.int .i64 mm) := RowIs.cell HRX.out 1
          have x2 : wr.cell? ⟨bx, 2, none⟩ = some (.slice up nn uc) := RowIs.cell HRX.out 2
          have xz : bx < wr.heap.size := HRX.out.lt
          go_wp2_with fail
          refine (few_c s m a n cap f _ HF.out HE.out).mono ?_
          rintro e w5 ⟨db1, d1, D1, rfl, -, -, hb5, hD1, hG1, -⟩
          have HG1 := Lib.hid hG1
          clear hG1
          replace HR := Lib.hid (RowIs.below HR.out hb5)
          replace HQ := Lib.hid (RowIs.below HQ.out hb5)
          replace HRX := Lib.hid (RowIs.below HRX.out hb5)
          replace HF := Lib.hid (HF.out.below hb5)
          replace HG := Lib.hid (HG.out.below hb5)
          replace HX := Lib.hid (HX.out.below hb5)
          replace hB := bup hB hb5
          clear r0 r1 r2 rz q0 q1 q2 qz x0 x1 x2 xz hb5
          have r0 : w5.cell? ⟨w.heap.size, 0, none⟩ = some (.int .i64 s) := RowIs.cell HR.out 0
          have r1 : w5.cell? ⟨w.heap.size, 1, none⟩ = some (.int .i64 m) := RowIs.cell HR.out 1
          have r2 : w5.cell? ⟨w.heap.size, 2, none⟩ = some (.slice a n cap) := RowIs.cell HR.out 2
          have rz : w.heap.size < w5.heap.size := HR.out.lt
          have q0 : w5.cell? ⟨(w.heap.size + 1), 0, none⟩ = some (.int .i64 s') := RowIs.cell HQ.out 0
          have q1 : w5.cell? ⟨(w.heap.size + 1), 1, none⟩ = some (.int .i64 m') := RowIs.cell HQ.out 1
          have q2 : w5.cell? ⟨(w.heap.size + 1), 2, none⟩ = some (.slice a' k cap') := RowIs.cell HQ.out 2
          have qz : (w.heap.size + 1) < w5.heap.size := HQ.out.lt
          have x0 : w5.cell? ⟨bx, 0, none⟩ = some (.int .i64 ss) := RowIs.cell HRX.out 0
          have x1 : w5.cell? ⟨bx, 1, none⟩ = some (.int .i64 mm) := RowIs.cell HRX.out 1
          have x2 : w5.cell? ⟨bx, 2, none⟩ = some (.slice up nn uc) := RowIs.cell HRX.out 2
          have xz : bx < w5.heap.size := HRX.out.lt
          go_wp2_with fail
          refine (few_c s' m' a' k cap' g _ HG.out HE'.out).mono ?_
          rintro e w6 ⟨db2, d2, D2, rfl, -, -, hb6, hD2, hG2, -⟩
          have HG2 := Lib.hid hG2
          clear hG2
          replace HR := Lib.hid (RowIs.below HR.out hb6)
          replace HQ := Lib.hid (RowIs.below HQ.out hb6)
          replace HRX := Lib.hid (RowIs.below HRX.out hb6)
          replace HF := Lib.hid (HF.out.below hb6)
          replace HG := Lib.hid (HG.out.below hb6)
          replace HX := Lib.hid (HX.out.below hb6)
          replace hB := bup hB hb6
          clear r0 r1 r2 rz q0 q1 q2 qz x0 x1 x2 xz hb6
          have r0 : w6.cell? ⟨w.heap.size, 0, none⟩ = some (.int .i64 s) := RowIs.cell HR.out 0
          have r1 : w6.cell? ⟨w.heap.size, 1, none⟩ = some (.int .i64 m) := RowIs.cell HR.out 1
          have r2 : w6.cell? ⟨w.heap.size, 2, none⟩ = some (.slice a n cap) := RowIs.cell HR.out 2
          have rz : w.heap.size < w6.heap.size := HR.out.lt
          have q0 : w6.cell? ⟨(w.heap.size + 1), 0, none⟩ = some (.int .i64 s') := RowIs.cell HQ.out 0
          have q1 : w6.cell? ⟨(w.heap.size + 1), 1, none⟩ = some (.int .i64 m') := RowIs.cell HQ.out 1
          have q2 : w6.cell? ⟨(w.heap.size + 1), 2, none⟩ = some (.slice a' k cap') := RowIs.cell HQ.out 2
          have qz : (w.heap.size + 1) < w6.heap.size := HQ.out.lt
          have x0 : w6.cell? ⟨bx, 0, none⟩ = some (.int .i64 ss) := RowIs.cell HRX.out 0
          have x1 : w6.cell? ⟨bx, 1, none⟩ = some (.int .i64 mm) := RowIs.cell HRX.out 1
          have x2 : w6.cell? ⟨bx, 2, none⟩ = some (.slice up nn uc) := RowIs.cell HRX.out 2
          have xz : bx < w6.heap.size := HRX.out.lt
          go_wp2_with fail
          refine (few_c ss mm up nn uc h _ HX.out HEJ.out).mono ?_
          rintro e w7 ⟨db3, d3, D3, rfl, -, -, hb7, hD3, hG3, -⟩
          have h3 : D3 = max D1 D2 := join_few HGA.out HGB.out HG1.out HG2.out (by rw [Hh.out, Hnn.out]; exact hG3)
          clear hG3 HG1 HG2
          replace HR := Lib.hid (RowIs.below HR.out hb7)
          replace HQ := Lib.hid (RowIs.below HQ.out hb7)
          replace HRX := Lib.hid (RowIs.below HRX.out hb7)
          replace HF := Lib.hid (HF.out.below hb7)
          replace HG := Lib.hid (HG.out.below hb7)
          replace HX := Lib.hid (HX.out.below hb7)
          replace hB := bup hB hb7
          clear r0 r1 r2 rz q0 q1 q2 qz x0 x1 x2 xz hb7
          have r0 : w7.cell? ⟨w.heap.size, 0, none⟩ = some (.int .i64 s) := RowIs.cell HR.out 0
          have r1 : w7.cell? ⟨w.heap.size, 1, none⟩ = some (.int .i64 m) := RowIs.cell HR.out 1
          have r2 : w7.cell? ⟨w.heap.size, 2, none⟩ = some (.slice a n cap) := RowIs.cell HR.out 2
          have rz : w.heap.size < w7.heap.size := HR.out.lt
          have q0 : w7.cell? ⟨(w.heap.size + 1), 0, none⟩ = some (.int .i64 s') := RowIs.cell HQ.out 0
          have q1 : w7.cell? ⟨(w.heap.size + 1), 1, none⟩ = some (.int .i64 m') := RowIs.cell HQ.out 1
          have q2 : w7.cell? ⟨(w.heap.size + 1), 2, none⟩ = some (.slice a' k cap') := RowIs.cell HQ.out 2
          have qz : (w.heap.size + 1) < w7.heap.size := HQ.out.lt
          have x0 : w7.cell? ⟨bx, 0, none⟩ = some (.int .i64 ss) := RowIs.cell HRX.out 0
          have x1 : w7.cell? ⟨bx, 1, none⟩ = some (.int .i64 mm) := RowIs.cell HRX.out 1
          have x2 : w7.cell? ⟨bx, 2, none⟩ = some (.slice up nn uc) := RowIs.cell HRX.out 2
          have xz : bx < w7.heap.size := HRX.out.lt
          have hbj := join_best HGA.out HGB.out
          rw [Hh.out, Hnn.out] at hbj
          have b1 := best14 HE.out
          have b2 := best14 HE'.out
          have b3 := best14 HEJ.out
          have HB1 := Lib.hid (fun (x : World) (y : Wants x a n f) => best_c s m a n cap f x y HE.out)
          have HB2 := Lib.hid (fun (x : World) (y : Wants x a' k g) => best_c s' m' a' k cap' g x y HE'.out)
          have HB3 := Lib.hid (fun (x : World) (y : Wants x up nn h) => best_c ss mm up nn uc h x y HEJ.out)
          obtain ⟨L1, hL1⟩ : ∃ L, bestOf f n = L := ⟨_, rfl⟩
          obtain ⟨L2, hL2⟩ : ∃ L, bestOf g k = L := ⟨_, rfl⟩
          obtain ⟨L3, hL3⟩ : ∃ L, bestOf h nn = L := ⟨_, rfl⟩
          rw [hL1] at HB1 hbj b1
          rw [hL2] at HB2 hbj b2
          rw [hL3] at HB3 hbj b3
          clear hL1 hL2 hL3
          go_wp2_with fail
          refine (HB1.out _ HF.out).mono ?_
          rintro e w8 ⟨p1, c1, rfl, -, hb8⟩
          replace HR := Lib.hid (RowIs.below HR.out hb8)
          replace HQ := Lib.hid (RowIs.below HQ.out hb8)
          replace HRX := Lib.hid (RowIs.below HRX.out hb8)
          replace HF := Lib.hid (HF.out.below hb8)
          replace HG := Lib.hid (HG.out.below hb8)
          replace HX := Lib.hid (HX.out.below hb8)
          replace hB := bup hB hb8
          clear r0 r1 r2 rz q0 q1 q2 qz x0 x1 x2 xz hb8
          have r0 : w8.cell? ⟨w.heap.size, 0, none⟩ = some (.int .i64 s) := RowIs.cell HR.out 0
          have r1 : w8.cell? ⟨w.heap.size, 1, none⟩ = some (.int .i64 m) := RowIs.cell HR.out 1
          have r2 : w8.cell? ⟨w.heap.size, 2, none⟩ = some (.slice a n cap) := RowIs.cell HR.out 2
          have rz : w.heap.size < w8.heap.size := HR.out.lt
          have q0 : w8.cell? ⟨(w.heap.size + 1), 0, none⟩ = some (.int .i64 s') := RowIs.cell HQ.out 0
          have q1 : w8.cell? ⟨(w.heap.size + 1), 1, none⟩ = some (.int .i64 m') := RowIs.cell HQ.out 1
          have q2 : w8.cell? ⟨(w.heap.size + 1), 2, none⟩ = some (.slice a' k cap') := RowIs.cell HQ.out 2
          have qz : (w.heap.size + 1) < w8.heap.size := HQ.out.lt
          have x0 : w8.cell? ⟨bx, 0, none⟩ = some (.int .i64 ss) := RowIs.cell HRX.out 0
          have x1 : w8.cell? ⟨bx, 1, none⟩ = some (.int .i64 mm) := RowIs.cell HRX.out 1
          have x2 : w8.cell? ⟨bx, 2, none⟩ = some (.slice up nn uc) := RowIs.cell HRX.out 2
          have xz : bx < w8.heap.size := HRX.out.lt
          go_wp2_with fail
          refine (HB2.out _ HG.out).mono ?_
          rintro e w9 ⟨p2, c2, rfl, -, hb9⟩
          replace HR := Lib.hid (RowIs.below HR.out hb9)
          replace HQ := Lib.hid (RowIs.below HQ.out hb9)
          replace HRX := Lib.hid (RowIs.below HRX.out hb9)
          replace HF := Lib.hid (HF.out.below hb9)
          replace HG := Lib.hid (HG.out.below hb9)
          replace HX := Lib.hid (HX.out.below hb9)
          replace hB := bup hB hb9
          clear r0 r1 r2 rz q0 q1 q2 qz x0 x1 x2 xz hb9
          have r0 : w9.cell? ⟨w.heap.size, 0, none⟩ = some (.int .i64 s) := RowIs.cell HR.out 0
          have r1 : w9.cell? ⟨w.heap.size, 1, none⟩ = some (.int .i64 m) := RowIs.cell HR.out 1
          have r2 : w9.cell? ⟨w.heap.size, 2, none⟩ = some (.slice a n cap) := RowIs.cell HR.out 2
          have rz : w.heap.size < w9.heap.size := HR.out.lt
          have q0 : w9.cell? ⟨(w.heap.size + 1), 0, none⟩ = some (.int .i64 s') := RowIs.cell HQ.out 0
          have q1 : w9.cell? ⟨(w.heap.size + 1), 1, none⟩ = some (.int .i64 m') := RowIs.cell HQ.out 1
          have q2 : w9.cell? ⟨(w.heap.size + 1), 2, none⟩ = some (.slice a' k cap') := RowIs.cell HQ.out 2
          have qz : (w.heap.size + 1) < w9.heap.size := HQ.out.lt
          have x0 : w9.cell? ⟨bx, 0, none⟩ = some (.int .i64 ss) := RowIs.cell HRX.out 0
          have x1 : w9.cell? ⟨bx, 1, none⟩ = some (.int .i64 mm) := RowIs.cell HRX.out 1
          have x2 : w9.cell? ⟨bx, 2, none⟩ = some (.slice up nn uc) := RowIs.cell HRX.out 2
          have xz : bx < w9.heap.size := HRX.out.lt
          go_wp2_with fail
          refine (HB3.out _ HX.out).mono ?_
          rintro e w10 ⟨p3, c3, rfl, -, hb10⟩
          replace HR := Lib.hid (RowIs.below HR.out hb10)
          replace HQ := Lib.hid (RowIs.below HQ.out hb10)
          replace HRX := Lib.hid (RowIs.below HRX.out hb10)
          replace HF := Lib.hid (HF.out.below hb10)
          replace HG := Lib.hid (HG.out.below hb10)
          replace HX := Lib.hid (HX.out.below hb10)
          replace hB := bup hB hb10
          clear r0 r1 r2 rz q0 q1 q2 qz x0 x1 x2 xz hb10
          have r0 : w10.cell? ⟨w.heap.size, 0, none⟩ = some (.int .i64 s) := RowIs.cell HR.out 0
          have r1 : w10.cell? ⟨w.heap.size, 1, none⟩ = some (.int .i64 m) := RowIs.cell HR.out 1
          have r2 : w10.cell? ⟨w.heap.size, 2, none⟩ = some (.slice a n cap) := RowIs.cell HR.out 2
          have rz : w.heap.size < w10.heap.size := HR.out.lt
          have q0 : w10.cell? ⟨(w.heap.size + 1), 0, none⟩ = some (.int .i64 s') := RowIs.cell HQ.out 0
          have q1 : w10.cell? ⟨(w.heap.size + 1), 1, none⟩ = some (.int .i64 m') := RowIs.cell HQ.out 1
          have q2 : w10.cell? ⟨(w.heap.size + 1), 2, none⟩ = some (.slice a' k cap') := RowIs.cell HQ.out 2
          have qz : (w.heap.size + 1) < w10.heap.size := HQ.out.lt
          have x0 : w10.cell? ⟨bx, 0, none⟩ = some (.int .i64 ss) := RowIs.cell HRX.out 0
          have x1 : w10.cell? ⟨bx, 1, none⟩ = some (.int .i64 mm) := RowIs.cell HRX.out 1
          have x2 : w10.cell? ⟨bx, 2, none⟩ = some (.slice up nn uc) := RowIs.cell HRX.out 2
          have xz : bx < w10.heap.size := HRX.out.lt
          obtain ⟨l1, hl1⟩ : ∃ l, L1.length = l := ⟨_, rfl⟩
          obtain ⟨l2, hl2⟩ : ∃ l, L2.length = l := ⟨_, rfl⟩
          obtain ⟨l3, hl3⟩ : ∃ l, L3.length = l := ⟨_, rfl⟩
          rw [hl1] at b1 hbj ⊢
          rw [hl2] at b2 hbj ⊢
          rw [hl3] at b3 hbj ⊢
          clear hl1 hl2 hl3 HB1 HB2 HB3 HF HG HX HR HQ HRX
          clear r0 r1 r2 rz q0 q1 q2 qz x0 x1 x2 xz
          have t1 : ((D3 : Int) == max (D1 : Int) (D2 : Int)) = true := by simp; omega
          have t1' : ((D3 : Int) == (if (D1 : Int) < (D2 : Int) then (D2 : Int) else (D1 : Int))) = true := by rw [beq_iff_eq]; split <;> omega
          have t2 : IntKind.i64.wrap ((l1 : Int) + (l2 : Int)) = (l3 : Int) := by rw [IntWalk.i64_in _ (by omega)]; omega
          have t3 : ((l3 : Int) == (l3 : Int)) = true := by simp
          go_wp2_with fail
          refine (works_c _).mono ?_
          rintro e wz ⟨rfl, hbz⟩
          go_wp2_with fail
          go_ret
          exact ⟨rfl, bup hB hbz⟩

end Go.Proofs.Ytbjgbgchagfokaa
