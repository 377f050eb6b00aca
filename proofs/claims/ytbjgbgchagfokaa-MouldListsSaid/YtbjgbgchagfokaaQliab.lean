/- For whatever arguments, the law MouldLists returns true, and each argument reads behind the call as it read before. No condition. -/
import Derived.Shelf.Abstract
import Derived.Shelf.RegionOpen
import Derived.Deep.RegionHeld3
import Derived.Deep.CutRange
import Derived.Deep.DeepCutAuto
import Derived.Test.YtbjgbgchagfokaaProg
import Derived.Test.YtbjgbgchagfokaaBasaa
import Derived.Test.YtbjgbgchagfokaaBasap
import Derived.Test.YtbjgbgchagfokaaQliaa
import Derived.Test.YtbjgbgchagfokaaBasaf
import Derived.Test.YtbjgbgchagfokaaBasak
import Derived.Test.YtbjgbgchagfokaaBasae
import Derived.Test.YtbjgbgchagfokaaBasba
import Derived.Test.YtbjgbgchagfokaaBasay
import Derived.Test.YtbjgbgchagfokaaBasbb
import Derived.Test.YtbjgbgchagfokaaBasab
import Derived.Test.YtbjgbgchagfokaaBasbc
import Derived.Test.YtbjgbgchagfokaaRows
import Derived.Test.YtbjgbgchagfokaaBasbd
import Derived.ProofKit
namespace Go.Proofs.Ytbjgbgchagfokaa
open Go Go.RowKit Go.Shelf

theorem ListOf_all_c (S M : Int) (a : Option Addr) (n cap : Nat) (f : Nat → W2) (w : World) (hn : n ≤ 1000) (hf : Wants w a n f) :
    Calls Try.prog 60 #[bookV S M a n cap, .slice none 0 0, .int .i64 0] w fun e w' => ∃ p c, e = .returned (.slice p (bestOf f n).length c) ∧ Lst w' (bestOf f n) p c ∧ Below w.heap.size w w' := by
  have h := ListOf_c S M a n cap f hn n [] none 0 w (Nat.le_refl _) (by simp) (fun k hk => absurd hk List.not_mem_nil) hf lst_nil
  rw [Nat.sub_self, refL_is] at h
  exact h

theorem rList_no_c (S M : Int) (a : Option Addr) (n cap : Nat) (f : Nat → W2) (w : World) (hf : Wants w a n f) (hn : n ≤ 1048576) (hE : bookE S M n f ≠ 0) :
    Calls Try.prog 26 #[bookV S M a n cap] w fun e w' => e = .returned (.tuple #[.slice none 0 0, .int .i64 (bookE S M n f)]) ∧ Below w.heap.size w w' := by
  obtain ⟨W, hW⟩ : ∃ W, w.alloc (.cells #[.int .i64 S, .int .i64 M, .slice a n cap] 24) = W := ⟨_, rfl⟩
  have hB : Below w.heap.size w W := by rw [← hW]; exact Below.alloc1 (Below.refl _ _) _ (Nat.le_refl _)
  have hR : RowIs W w.heap.size #[.int .i64 S, .int .i64 M, .slice a n cap] 24 := by rw [← hW]; exact heap_new_at _ _ _ rfl
  have r0 : W.cell? ⟨w.heap.size, 0, none⟩ = some (.int .i64 S) := RowIs.cell hR 0
  have r1 : W.cell? ⟨w.heap.size, 1, none⟩ = some (.int .i64 M) := RowIs.cell hR 1
  have r2 : W.cell? ⟨w.heap.size, 2, none⟩ = some (.slice a n cap) := RowIs.cell hR 2
  have rz : w.heap.size < W.heap.size := hR.lt
  have HF := Lib.hid (hf.below hB)
  obtain ⟨E, hEe⟩ : ∃ E, bookE S M n f = E := ⟨_, rfl⟩
  rw [hEe] at hE ⊢
  have HC := Lib.hid (fun (x : World) (h : Wants x a n f) => rcheckBook_c S M a n cap f x h hn)
  rw [hEe] at HC
  have t0 : (E != 0) = true := by simpa using hE
  clear hR hf hE hEe
  go_enter Try.func26, Try.ntmps26
  go_wp2_with fail
  refine (HC.out _ HF.out).mono ?_
  rintro e w1 ⟨rfl, hb1⟩
  have q0 := (hb1.cell (p := ⟨w.heap.size, 0, none⟩) rz).trans r0
  have q1 := (hb1.cell (p := ⟨w.heap.size, 1, none⟩) rz).trans r1
  have q2 := (hb1.cell (p := ⟨w.heap.size, 2, none⟩) rz).trans r2
  replace HF := Lib.hid (HF.out.below hb1)
  go_wp2_with fail
  refine (HC.out _ HF.out).mono ?_
  rintro e w2 ⟨rfl, hb2⟩
  go_wp2_with fail
  refine bodyPost_ret (v := .tuple #[.slice none 0 0, .int .i64 E]) (by simp [results, Try.results26, go_sem]) rfl ⟨rfl, bup hB (bup hb1 hb2)⟩

theorem rList_yes_c (S M : Int) (a : Option Addr) (n cap : Nat) (f : Nat → W2) (w : World) (hf : Wants w a n f) (hE : bookE S M n f = 0) :
    Calls Try.prog 26 #[bookV S M a n cap] w fun e w' => ∃ p c, e = .returned (.tuple #[.slice p (bestOf f n).length c, .int .i64 0]) ∧ Lst w' (bestOf f n) p c ∧ Below w.heap.size w w' := by
  have hn14 : n ≤ 14 := (book_good hE).2.2.1
  obtain ⟨W, hW⟩ : ∃ W, w.alloc (.cells #[.int .i64 S, .int .i64 M, .slice a n cap] 24) = W := ⟨_, rfl⟩
  have hB : Below w.heap.size w W := by rw [← hW]; exact Below.alloc1 (Below.refl _ _) _ (Nat.le_refl _)
  have hR : RowIs W w.heap.size #[.int .i64 S, .int .i64 M, .slice a n cap] 24 := by rw [← hW]; exact heap_new_at _ _ _ rfl
  have r0 : W.cell? ⟨w.heap.size, 0, none⟩ = some (.int .i64 S) := RowIs.cell hR 0
  have r1 : W.cell? ⟨w.heap.size, 1, none⟩ = some (.int .i64 M) := RowIs.cell hR 1
  have r2 : W.cell? ⟨w.heap.size, 2, none⟩ = some (.slice a n cap) := RowIs.cell hR 2
  have rz : w.heap.size < W.heap.size := hR.lt
  have HF := Lib.hid (hf.below hB)
  have HC := Lib.hid (fun (x : World) (h : Wants x a n f) => rcheckBook_c S M a n cap f x h (by omega))
  rw [hE] at HC
  have HL := Lib.hid (fun (x : World) (h : Wants x a n f) => ListOf_all_c S M a n cap f x (by omega) h)
  obtain ⟨L, hL⟩ : ∃ L, bestOf f n = L := ⟨_, rfl⟩
  rw [hL] at HL ⊢
  clear hR hf hE hL
  go_enter Try.func26, Try.ntmps26
  go_wp2_with fail
  refine (HC.out _ HF.out).mono ?_
  rintro e w1 ⟨rfl, hb1⟩
  have q0 := (hb1.cell (p := ⟨w.heap.size, 0, none⟩) rz).trans r0
  have q1 := (hb1.cell (p := ⟨w.heap.size, 1, none⟩) rz).trans r1
  have q2 := (hb1.cell (p := ⟨w.heap.size, 2, none⟩) rz).trans r2
  replace HF := Lib.hid (HF.out.below hb1)
  go_wp2_with fail
  refine (HL.out _ HF.out).mono ?_
  rintro e w2 ⟨p, c, rfl, hLL, hb2⟩
  have LL := Lib.hid hLL
  clear hLL
  go_wp2_with fail
  refine bodyPost_ret (v := .tuple #[.slice p L.length c, .int .i64 0]) (by simp [results, Try.results26, go_sem]) rfl ⟨p, c, rfl, LL.out, bup hB (bup hb1 hb2)⟩

/-- The error of Short, as the document says. -/
def shortErr (s n : Nat) (f : Nat → W2) : Int := if (bestOf f n).length = wantingN s n f then 5 else 0

theorem ShortError_no_c (S M : Int) (a : Option Addr) (n cap : Nat) (f : Nat → W2) (w : World) (hf : Wants w a n f) (hn : n ≤ 1048576) (hE : bookE S M n f ≠ 0) :
    Calls Try.prog 35 #[bookV S M a n cap] w fun e w' => e = .returned (.int .i64 (bookE S M n f)) ∧ Below w.heap.size w w' := by
  obtain ⟨W, hW⟩ : ∃ W, w.alloc (.cells #[.int .i64 S, .int .i64 M, .slice a n cap] 24) = W := ⟨_, rfl⟩
  have hB : Below w.heap.size w W := by rw [← hW]; exact Below.alloc1 (Below.refl _ _) _ (Nat.le_refl _)
  have hR : RowIs W w.heap.size #[.int .i64 S, .int .i64 M, .slice a n cap] 24 := by rw [← hW]; exact heap_new_at _ _ _ rfl
  have r0 : W.cell? ⟨w.heap.size, 0, none⟩ = some (.int .i64 S) := RowIs.cell hR 0
  have r1 : W.cell? ⟨w.heap.size, 1, none⟩ = some (.int .i64 M) := RowIs.cell hR 1
  have r2 : W.cell? ⟨w.heap.size, 2, none⟩ = some (.slice a n cap) := RowIs.cell hR 2
  have rz : w.heap.size < W.heap.size := hR.lt
  have HF := Lib.hid (hf.below hB)
  obtain ⟨E, hEe⟩ : ∃ E, bookE S M n f = E := ⟨_, rfl⟩
  rw [hEe] at hE ⊢
  have HC := Lib.hid (fun (x : World) (h : Wants x a n f) => rcheckBook_c S M a n cap f x h hn)
  rw [hEe] at HC
  have t0 : (E != 0) = true := by simpa using hE
  clear hR hf hE hEe
  go_enter Try.func35, Try.ntmps35
  go_wp2_with fail
  refine (HC.out _ HF.out).mono ?_
  rintro e w1 ⟨rfl, hb1⟩
  have q0 := (hb1.cell (p := ⟨w.heap.size, 0, none⟩) rz).trans r0
  have q1 := (hb1.cell (p := ⟨w.heap.size, 1, none⟩) rz).trans r1
  have q2 := (hb1.cell (p := ⟨w.heap.size, 2, none⟩) rz).trans r2
  replace HF := Lib.hid (HF.out.below hb1)
  go_wp2_with fail
  refine (HC.out _ HF.out).mono ?_
  rintro e w2 ⟨rfl, hb2⟩
  go_wp2_with fail
  go_ret
  exact ⟨rfl, bup hB (bup hb1 hb2)⟩

set_option maxRecDepth 100000 in
set_option maxHeartbeats 4000000 in
theorem ShortError_yes_c (s m : Nat) (a : Option Addr) (n cap : Nat) (f : Nat → W2) (w : World) (hf : Wants w a n f) (hE : bookE s m n f = 0) :
    Calls Try.prog 35 #[bookV s m a n cap] w fun e w' => e = .returned (.int .i64 (shortErr s n f)) ∧ Below w.heap.size w w' := by
  have hn14 : n ≤ 14 := (book_good hE).2.2.1
  obtain ⟨W, hW⟩ : ∃ W, w.alloc (.cells #[.int .i64 s, .int .i64 m, .slice a n cap] 24) = W := ⟨_, rfl⟩
  have hB : Below w.heap.size w W := by rw [← hW]; exact Below.alloc1 (Below.refl _ _) _ (Nat.le_refl _)
  have hR : RowIs W w.heap.size #[.int .i64 s, .int .i64 m, .slice a n cap] 24 := by rw [← hW]; exact heap_new_at _ _ _ rfl
  have r0 : W.cell? ⟨w.heap.size, 0, none⟩ = some (.int .i64 s) := RowIs.cell hR 0
  have r1 : W.cell? ⟨w.heap.size, 1, none⟩ = some (.int .i64 m) := RowIs.cell hR 1
  have r2 : W.cell? ⟨w.heap.size, 2, none⟩ = some (.slice a n cap) := RowIs.cell hR 2
  have rz : w.heap.size < W.heap.size := hR.lt
  have HF := Lib.hid (hf.below hB)
  have HC := Lib.hid (fun (x : World) (h : Wants x a n f) => rcheckBook_c s m a n cap f x h (by omega))
  rw [hE] at HC
  have HL := Lib.hid (fun (x : World) (h : Wants x a n f) => ListOf_all_c s m a n cap f x (by omega) h)
  have HWt := Lib.hid (fun (x : World) (h : Wants x a n f) => Wanting_c s m a n cap f x h (book_good hE))
  have hse : shortErr s n f = if (bestOf f n).length = wantingN s n f then 5 else 0 := rfl
  obtain ⟨L, hL⟩ : ∃ L, bestOf f n = L := ⟨_, rfl⟩
  obtain ⟨wn, hwn⟩ : ∃ wn, wantingN s n f = wn := ⟨_, rfl⟩
  obtain ⟨E, hEe⟩ : ∃ E, shortErr s n f = E := ⟨_, rfl⟩
  rw [hEe]
  rw [hL, hwn, hEe] at hse
  rw [hL] at HL
  rw [hwn] at HWt
  have HSE := Lib.hid hse
  clear hR hf hE hL hwn hEe hse
  go_enter Try.func35, Try.ntmps35
  go_wp2_with fail
  refine (HC.out _ HF.out).mono ?_
  rintro e w1 ⟨rfl, hb1⟩
  have q0 := (hb1.cell (p := ⟨w.heap.size, 0, none⟩) rz).trans r0
  have q1 := (hb1.cell (p := ⟨w.heap.size, 1, none⟩) rz).trans r1
  have q2 := (hb1.cell (p := ⟨w.heap.size, 2, none⟩) rz).trans r2
  have qz := Nat.lt_of_lt_of_le rz hb1.size
  replace HF := Lib.hid (HF.out.below hb1)
  replace hB := bup hB hb1
  clear r0 r1 r2 rz hb1 HC
  have HL1 := Lib.hid (fun (x : World) (h : Below w1.heap.size w1 x) => HL.out x (HF.out.below h))
  have HW1 := Lib.hid (fun (x : World) (h : Below w1.heap.size w1 x) => HWt.out x (HF.out.below h))
  clear HL HWt
  go_wp2_with fail
  go_cut [13] from 8 to 12 (fun e wx => e = .bool (((L.length : Nat) : Int) == ((wn : Nat) : Int)) ∧ Below w1.heap.size w1 wx)
  case first =>
    go_region_held3 (fun w' => w'.cell? ⟨w.heap.size, 0, none⟩ = some (.int .i64 s) ∧ w'.cell? ⟨w.heap.size, 1, none⟩ = some (.int .i64 m) ∧ w'.cell? ⟨w.heap.size, 2, none⟩ = some (.slice a n cap))
      (first | (go_split_ands; refine ⟨?_, ?_, ?_⟩ <;> first | assumption | (go_keep; done)) | go_keep)
      ((first
        | (go_at_call 60; with_reducible refine Calls.mono (HL1.out _ ?_) ?_; (with_reducible repeat (first | exact Below.refl _ _ | assumption | refine bup ?_ (by assumption) | refine Below.drew ?_)); rintro e wg ⟨pg, cg, rfl, hLg, hbg⟩; have t0 : wg.cell? ⟨w.heap.size, 0, none⟩ = some (.int .i64 s) := (by (try go_split_ands); rw [hbg.cell (by first | assumption | (simp; omega))]; assumption); have t1 : wg.cell? ⟨w.heap.size, 1, none⟩ = some (.int .i64 m) := (by (try go_split_ands); rw [hbg.cell (by first | assumption | (simp; omega))]; assumption); have t2 : wg.cell? ⟨w.heap.size, 2, none⟩ = some (.slice a n cap) := (by (try go_split_ands); rw [hbg.cell (by first | assumption | (simp; omega))]; assumption); have tg : w.heap.size < wg.heap.size := Nat.lt_of_lt_of_le (by first | assumption | (simp; omega)) hbg.size)
        | (go_at_call 43; with_reducible refine Calls.mono (HW1.out _ ?_) ?_; (with_reducible repeat (first | exact Below.refl _ _ | assumption | refine bup ?_ (by assumption) | refine Below.drew ?_)); rintro e wh ⟨rfl, hbh⟩; have t0 : wh.cell? ⟨w.heap.size, 0, none⟩ = some (.int .i64 s) := (by (try go_split_ands); rw [hbh.cell (by first | assumption | (simp; omega))]; assumption); have t1 : wh.cell? ⟨w.heap.size, 1, none⟩ = some (.int .i64 m) := (by (try go_split_ands); rw [hbh.cell (by first | assumption | (simp; omega))]; assumption); have t2 : wh.cell? ⟨w.heap.size, 2, none⟩ = some (.slice a n cap) := (by (try go_split_ands); rw [hbh.cell (by first | assumption | (simp; omega))]; assumption); have th : w.heap.size < wh.heap.size := Nat.lt_of_lt_of_le (by first | assumption | (simp; omega)) hbh.size)
        | fail))
    all_goals (go_wp2_with fail; go_meet; refine ⟨rfl, ?_⟩; (with_reducible repeat (first | exact Below.refl _ _ | assumption | refine bup ?_ (by assumption) | refine Below.drew ?_)))
  case rest =>
  obtain ⟨rfl, hcb⟩ := hcut
  obtain ⟨w2, hww⟩ : ∃ x, x = wc := ⟨_, rfl⟩
  subst hww
  by_cases he : L.length = wn
  · have t0 : (((L.length : Nat) : Int) == ((wn : Nat) : Int)) = true := by simp [he]
    have hE5 : E = 5 := by rw [HSE.out, if_pos he]
    subst hE5
    clear he
    go_wp2_with fail
    go_ret
    exact ⟨rfl, bup hB hcb⟩
  · have t0 : (((L.length : Nat) : Int) == ((wn : Nat) : Int)) = false := by simp; omega
    have hE5 : E = 0 := by rw [HSE.out, if_neg he]
    subst hE5
    clear he
    go_wp2_with fail
    go_ret
    exact ⟨rfl, bup hB hcb⟩

end Go.Proofs.Ytbjgbgchagfokaa

namespace Go.Proofs.Ytbjgbgchagfokaa
open Go Go.RowKit Go.Shelf


theorem book_natL {S M : Int} {n : Nat} {f : Nat → W2} (hE : bookE S M n f = 0) : ∃ s m : Nat, S = s ∧ M = m := by
  have hG := book_good hE
  exact ⟨S.toNat, M.toNat, by have := hG.1; omega, by have := hG.2.1; omega⟩
theorem lists_both (S M : Int) (a : Option Addr) (n cap : Nat) (f : Nat → W2) (la : Option Addr) (len lcap : Nat) (g : Nat → Int) (hn : n ≤ 20) (hl : len ≤ 24) (hc2 : len ≤ lcap) (hc3 : lcap ≤ 9223372036854775807) :
    ∃ E : Int, (∀ x, Wants x a n f → Ints x la len g → Calls Try.prog 30 #[bookV S M a n cap, .slice la len lcap] x fun e w' => e = .returned (.int .i64 E) ∧ Below x.heap.size x w') ∧
      ∀ x, Wants x a n f → Ints x la len g → Calls Try.prog 31 #[bookV S M a n cap, .slice la len lcap] x fun e w' => e = .returned (.int .i64 E) ∧ Below x.heap.size x w' := by
  refine ⟨listE S M n f len g, fun x h h2 => ?_, fun x h h2 => rcheckList_c S M a n cap f la len lcap g x h (by omega) h2 (by omega)⟩
  by_cases hE : bookE S M n f = 0
  · obtain ⟨s, m, rfl, rfl⟩ := book_natL hE
    have h3 := CheckList_yes_c s m a n cap f la len lcap g x h (by omega) h2 (by omega) hc2 hc3 hE
    have e : (if listB g n len = true then (if apartAll f n g len = true then (0 : Int) else 18) else 3) = listE s m n f len g := by
      rw [listE, if_pos hE]
      by_cases hb : listB g n len = true
      · rw [if_pos hb, if_pos hb, apart_day hb]
      · rw [if_neg hb, if_neg hb]
    rw [e] at h3
    exact h3
  · have h3 := CheckList_no_c S M a n cap f (.slice la len lcap) x h (by omega) hE
    rw [show listE S M n f len g = bookE S M n f from if_neg hE]
    exact h3
theorem covers_both (S M : Int) (a : Option Addr) (n cap : Nat) (f : Nat → W2) (sa : Option Addr) (ns scap : Nat) (sh : Nat → Int) (ma : Option Addr) (nm mcap : Nat) (mo : Nat → Int) (hn : n ≤ 20) (hs : ns ≤ 24) (hm : nm ≤ 24) :
    ∃ N E : Int, (∀ x, Wants x a n f → Ints x sa ns sh → Ints x ma nm mo → Calls Try.prog 27 #[bookV S M a n cap, .slice sa ns scap, .slice ma nm mcap] x fun e w' => e = .returned (.tuple #[.int .i64 N, .int .i64 E]) ∧ Below x.heap.size x w') ∧
      ∀ x, Wants x a n f → Ints x sa ns sh → Ints x ma nm mo → Calls Try.prog 28 #[bookV S M a n cap, .slice sa ns scap, .slice ma nm mcap] x fun e w' => e = .returned (.tuple #[.int .i64 N, .int .i64 E]) ∧ Below x.heap.size x w' := by
  refine ⟨_, _, fun x h h2 h3 => ?_, fun x h h2 h3 => rcheckCover_c S M a n cap f sa ns scap sh ma nm mcap mo x h (by omega) h2 (by omega) h3 (by omega)⟩
  by_cases hE : bookE S M n f = 0
  · exact CheckCover_yes_c S M a n cap f sa ns scap sh ma nm mcap mo x h (by omega) h2 (by omega) h3 (by omega) hE
  · have h4 := CheckCover_no_c S M a n cap f (.slice sa ns scap) (.slice ma nm mcap) x h (by omega) hE
    rw [show coverE S M n f ns sh nm mo = bookE S M n f from if_neg hE, show coverN (bookE S M n f) ns nm = 0 from if_neg hE]
    exact h4
theorem list_both (S M : Int) (a : Option Addr) (n cap : Nat) (f : Nat → W2) (hn : n ≤ 20) :
    ∃ (E : Int) (L CS CM : List Nat), L.length ≤ 24 ∧ CS.length ≤ 6 ∧ CM.length ≤ 6 ∧ (E ≠ 0 → CS = [] ∧ CM = []) ∧
      (∀ x, Wants x a n f → Calls Try.prog 25 #[bookV S M a n cap] x fun e w' => ∃ p c, e = .returned (.tuple #[.slice p L.length c, .int .i64 E]) ∧ Lst w' L p c ∧ Below x.heap.size x w') ∧
      (∀ x, Wants x a n f → Calls Try.prog 26 #[bookV S M a n cap] x fun e w' => ∃ p c, e = .returned (.tuple #[.slice p L.length c, .int .i64 E]) ∧ Lst w' L p c ∧ Below x.heap.size x w') ∧
      (∀ x, Wants x a n f → Calls Try.prog 29 #[bookV S M a n cap] x fun e w' => ∃ p c q d, e = .returned (.tuple #[.slice p CS.length c, .slice q CM.length d, .int .i64 E]) ∧ Lst w' CS p c ∧ Lst w' CM q d ∧ Below x.heap.size x w') ∧
      (E = 0 → ∀ x p c q d, Wants x a n f → Lst x CS p c → Lst x CM q d → Calls Try.prog 28 #[bookV S M a n cap, .slice p CS.length c, .slice q CM.length d] x fun e w' => e = .returned (.tuple #[.int .i64 L.length, .int .i64 0]) ∧ Below x.heap.size x w') := by
  by_cases hE : bookE S M n f = 0
  · obtain ⟨s, m, rfl, rfl⟩ := book_natL hE
    have hG := book_good hE
    obtain ⟨k0, k1, k2, k3⟩ := cover_ok hG hE
    have hs6 : s ≤ 6 := by have := hG.1; omega
    have hm6 : m ≤ 6 := by have := hG.2.1; omega
    refine ⟨0, bestOf f n, covS f n s (bookL f n), covM f n s (bookL f n), by omega, by omega, by omega, fun h => absurd rfl h, fun x h => List_yes_c s m a n cap f x h (by omega) hE, fun x h => rList_yes_c s m a n cap f x h hE, fun x h => Cover_yes_c s m a n cap f x h (by omega) hE, fun _ x p c q d h h1 h2 => ?_⟩
    have h3 := rcheckCover_c s m a n cap f p (covS f n s (bookL f n)).length c (natG (covS f n s (bookL f n))) q (covM f n s (bookL f n)).length d (natG (covM f n s (bookL f n))) x h (by omega) h1.cells (by omega) h2.cells (by omega)
    rw [k0, coverN, if_pos rfl, ← Int.natCast_add, k1] at h3
    exact h3
  · refine ⟨bookE S M n f, [], [], [], by simp, by simp, by simp, fun _ => ⟨rfl, rfl⟩, fun x h => ?_, fun x h => ?_, fun x h => ?_, fun h => absurd h hE⟩
    · refine (List_no_c S M a n cap f x h (by omega) hE).mono ?_
      rintro e w' ⟨rfl, hB⟩
      exact ⟨none, 0, rfl, lst_nil, hB⟩
    · refine (rList_no_c S M a n cap f x h (by omega) hE).mono ?_
      rintro e w' ⟨rfl, hB⟩
      exact ⟨none, 0, rfl, lst_nil, hB⟩
    · refine (Cover_no_c S M a n cap f x h (by omega) hE).mono ?_
      rintro e w' ⟨rfl, hB⟩
      exact ⟨none, 0, none, 0, rfl, lst_nil, lst_nil, hB⟩
theorem ints_sameL {a b : Option Addr} {n c d : Nat} {g : Nat → Int} {w : World} (h1 : Ints w a n g) (h2 : Ints w b n g) (hn : n ≤ 1048576) :
    Calls Try.prog 24 #[.slice a n c, .slice b n d] w fun e w' => e = .returned (.bool true) ∧ Below w.heap.size w w' := by
  have h3 := Ints_c a n c g b n d g w h1 h2 hn
  rw [intsB_yes fun i _ => rfl] at h3
  exact h3
theorem long_not (p : Option Addr) (n cap : Nat) (h : n ≤ 24) (w : World) : Calls Try.prog 16 #[.slice p n cap] w fun e w' => e = .returned (.bool false) ∧ w = w' := by
  have h3 := long_c p n cap w
  rw [decide_eq_false (by omega)] at h3
  exact h3
theorem long_is (p : Option Addr) (n cap : Nat) (h : 24 < n) (w : World) : Calls Try.prog 16 #[.slice p n cap] w fun e w' => e = .returned (.bool true) ∧ w = w' := by
  have h3 := long_c p n cap w
  rw [decide_eq_true (by omega)] at h3
  exact h3
theorem great_not (S M : Int) (a : Option Addr) (n cap : Nat) (h : n ≤ 20) (w : World) : Calls Try.prog 15 #[bookV S M a n cap] w fun e w' => e = .returned (.bool false) ∧ Below w.heap.size w w' := by
  have h3 := great_c S M a n cap w
  rw [decide_eq_false (by omega)] at h3
  exact h3
theorem great_is (S M : Int) (a : Option Addr) (n cap : Nat) (h : 20 < n) (w : World) : Calls Try.prog 15 #[bookV S M a n cap] w fun e w' => e = .returned (.bool true) ∧ Below w.heap.size w w' := by
  have h3 := great_c S M a n cap w
  rw [decide_eq_true (by omega)] at h3
  exact h3

set_option maxRecDepth 100000 in
set_option maxHeartbeats 16000000 in
theorem law_lists_c (S M : Int) (a : Option Addr) (n cap : Nat) (f : Nat → W2) (la : Option Addr) (len lcap : Nat) (g : Nat → Int) (sa : Option Addr) (ns scap : Nat) (sh : Nat → Int) (ma : Option Addr) (nm mcap : Nat) (mo : Nat → Int) (w : World) (hf : Wants w a n f) (hg : Ints w la len g) (hc2 : len ≤ lcap) (hc3 : lcap ≤ 9223372036854775807) (hs : Ints w sa ns sh) (hm : Ints w ma nm mo) :
    Calls Try.prog 4 #[bookV S M a n cap, .slice la len lcap, .slice sa ns scap, .slice ma nm mcap] w fun e w' => e = .returned (.bool true) ∧ Below w.heap.size w w' := by
  obtain ⟨W, hW⟩ : ∃ W, w.alloc (.cells #[.int .i64 S, .int .i64 M, .slice a n cap] 24) = W := ⟨_, rfl⟩
  have hB : Below w.heap.size w W := by rw [← hW]; exact Below.alloc1 (Below.refl _ _) _ (Nat.le_refl _)
  have hR : RowIs W w.heap.size #[.int .i64 S, .int .i64 M, .slice a n cap] 24 := by rw [← hW]; exact heap_new_at _ _ _ rfl
  have r0 : W.cell? ⟨w.heap.size, 0, none⟩ = some (.int .i64 S) := RowIs.cell hR 0
  have r1 : W.cell? ⟨w.heap.size, 1, none⟩ = some (.int .i64 M) := RowIs.cell hR 1
  have r2 : W.cell? ⟨w.heap.size, 2, none⟩ = some (.slice a n cap) := RowIs.cell hR 2
  have rz : w.heap.size < W.heap.size := hR.lt
  have HF := Lib.hid (hf.below hB)
  have HR := Lib.hid hR
  have HG := Lib.hid (Cells.below hg hB)
  have HS := Lib.hid (Cells.below hs hB)
  have HM := Lib.hid (Cells.below hm hB)
  clear hR hf
  clear hg hs hm
  by_cases h20 : 20 < n
  · skip
    go_enter Try.func4, Try.ntmps4
    go_wp2_with fail
    refine (great_is S M a n cap h20 _).mono ?_
    rintro e w1 ⟨rfl, hb1⟩
    replace HR := Lib.hid (RowIs.below HR.out hb1)
    replace HF := Lib.hid (HF.out.below hb1)
    replace HG := Lib.hid (Cells.below HG.out hb1)
    replace HS := Lib.hid (Cells.below HS.out hb1)
    replace HM := Lib.hid (Cells.below HM.out hb1)
    replace hB := bup hB hb1
    clear r0 r1 r2 rz hb1
    have r0 : w1.cell? ⟨w.heap.size, 0, none⟩ = some (.int .i64 S) := RowIs.cell HR.out 0
    have r1 : w1.cell? ⟨w.heap.size, 1, none⟩ = some (.int .i64 M) := RowIs.cell HR.out 1
    have r2 : w1.cell? ⟨w.heap.size, 2, none⟩ = some (.slice a n cap) := RowIs.cell HR.out 2
    have rz : w.heap.size < w1.heap.size := HR.out.lt
    go_wp2_with fail
    refine (works_c _).mono ?_
    rintro e wz ⟨rfl, hbz⟩
    go_wp2_with fail
    go_ret
    exact ⟨rfl, bup hB hbz⟩
  by_cases h1 : 24 < len
  · skip
    go_enter Try.func4, Try.ntmps4
    go_wp2_with fail
    refine (great_not S M a n cap (by omega) _).mono ?_
    rintro e w1 ⟨rfl, hb1⟩
    replace HR := Lib.hid (RowIs.below HR.out hb1)
    replace HF := Lib.hid (HF.out.below hb1)
    replace HG := Lib.hid (Cells.below HG.out hb1)
    replace HS := Lib.hid (Cells.below HS.out hb1)
    replace HM := Lib.hid (Cells.below HM.out hb1)
    replace hB := bup hB hb1
    clear r0 r1 r2 rz hb1
    have r0 : w1.cell? ⟨w.heap.size, 0, none⟩ = some (.int .i64 S) := RowIs.cell HR.out 0
    have r1 : w1.cell? ⟨w.heap.size, 1, none⟩ = some (.int .i64 M) := RowIs.cell HR.out 1
    have r2 : w1.cell? ⟨w.heap.size, 2, none⟩ = some (.slice a n cap) := RowIs.cell HR.out 2
    have rz : w.heap.size < w1.heap.size := HR.out.lt
    go_wp2_with fail
    refine (long_is la len lcap (by omega) _).mono ?_
    rintro e _ ⟨rfl, rfl⟩
    go_wp2_with fail
    refine (works_c _).mono ?_
    rintro e wz ⟨rfl, hbz⟩
    go_wp2_with fail
    go_ret
    exact ⟨rfl, bup hB hbz⟩
  by_cases h2 : 24 < ns
  · skip
    go_enter Try.func4, Try.ntmps4
    go_wp2_with fail
    refine (great_not S M a n cap (by omega) _).mono ?_
    rintro e w1 ⟨rfl, hb1⟩
    replace HR := Lib.hid (RowIs.below HR.out hb1)
    replace HF := Lib.hid (HF.out.below hb1)
    replace HG := Lib.hid (Cells.below HG.out hb1)
    replace HS := Lib.hid (Cells.below HS.out hb1)
    replace HM := Lib.hid (Cells.below HM.out hb1)
    replace hB := bup hB hb1
    clear r0 r1 r2 rz hb1
    have r0 : w1.cell? ⟨w.heap.size, 0, none⟩ = some (.int .i64 S) := RowIs.cell HR.out 0
    have r1 : w1.cell? ⟨w.heap.size, 1, none⟩ = some (.int .i64 M) := RowIs.cell HR.out 1
    have r2 : w1.cell? ⟨w.heap.size, 2, none⟩ = some (.slice a n cap) := RowIs.cell HR.out 2
    have rz : w.heap.size < w1.heap.size := HR.out.lt
    go_wp2_with fail
    refine (long_not la len lcap (by omega) _).mono ?_
    rintro e _ ⟨rfl, rfl⟩
    go_wp2_with fail
    refine (long_is sa ns scap (by omega) _).mono ?_
    rintro e _ ⟨rfl, rfl⟩
    go_wp2_with fail
    refine (works_c _).mono ?_
    rintro e wz ⟨rfl, hbz⟩
    go_wp2_with fail
    go_ret
    exact ⟨rfl, bup hB hbz⟩
  by_cases h3 : 24 < nm
  · skip
    go_enter Try.func4, Try.ntmps4
    go_wp2_with fail
    refine (great_not S M a n cap (by omega) _).mono ?_
    rintro e w1 ⟨rfl, hb1⟩
    replace HR := Lib.hid (RowIs.below HR.out hb1)
    replace HF := Lib.hid (HF.out.below hb1)
    replace HG := Lib.hid (Cells.below HG.out hb1)
    replace HS := Lib.hid (Cells.below HS.out hb1)
    replace HM := Lib.hid (Cells.below HM.out hb1)
    replace hB := bup hB hb1
    clear r0 r1 r2 rz hb1
    have r0 : w1.cell? ⟨w.heap.size, 0, none⟩ = some (.int .i64 S) := RowIs.cell HR.out 0
    have r1 : w1.cell? ⟨w.heap.size, 1, none⟩ = some (.int .i64 M) := RowIs.cell HR.out 1
    have r2 : w1.cell? ⟨w.heap.size, 2, none⟩ = some (.slice a n cap) := RowIs.cell HR.out 2
    have rz : w.heap.size < w1.heap.size := HR.out.lt
    go_wp2_with fail
    refine (long_not la len lcap (by omega) _).mono ?_
    rintro e _ ⟨rfl, rfl⟩
    go_wp2_with fail
    refine (long_not sa ns scap (by omega) _).mono ?_
    rintro e _ ⟨rfl, rfl⟩
    go_wp2_with fail
    refine (long_is ma nm mcap (by omega) _).mono ?_
    rintro e _ ⟨rfl, rfl⟩
    go_wp2_with fail
    refine (works_c _).mono ?_
    rintro e wz ⟨rfl, hbz⟩
    go_wp2_with fail
    go_ret
    exact ⟨rfl, bup hB hbz⟩
  obtain ⟨E1, ha1, ha2⟩ := lists_both S M a n cap f la len lcap g (by omega) (by omega) hc2 hc3
  obtain ⟨N, E2, hb1, hb2⟩ := covers_both S M a n cap f sa ns scap sh ma nm mcap mo (by omega) (by omega) (by omega)
  obtain ⟨E, L, CS, CM, hL, hCS, hCM, hE0, hl1, hl2, hl3, hl4⟩ := list_both S M a n cap f (by omega)
  have HA1 := Lib.hid ha1
  have HA2 := Lib.hid ha2
  have HB1 := Lib.hid hb1
  have HB2 := Lib.hid hb2
  have HL1 := Lib.hid hl1
  have HL2 := Lib.hid hl2
  have HL3 := Lib.hid hl3
  have HL4 := Lib.hid hl4
  have HE0 := Lib.hid hE0
  have t1 : (E1 != E1) = false := by simp
  have t2 : (N != N) = false := by simp
  have t3 : (E2 != E2) = false := by simp
  have t4 : (E != E) = false := by simp
  clear ha1 ha2 hb1 hb2 hl1 hl2 hl3 hl4 hE0
  go_enter Try.func4, Try.ntmps4
  go_wp2_with fail
  refine (great_not S M a n cap (by omega) _).mono ?_
  rintro e w1 ⟨rfl, hb1⟩
  replace HR := Lib.hid (RowIs.below HR.out hb1)
  replace HF := Lib.hid (HF.out.below hb1)
  replace HG := Lib.hid (Cells.below HG.out hb1)
  replace HS := Lib.hid (Cells.below HS.out hb1)
  replace HM := Lib.hid (Cells.below HM.out hb1)
  replace hB := bup hB hb1
  clear r0 r1 r2 rz hb1
  have r0 : w1.cell? ⟨w.heap.size, 0, none⟩ = some (.int .i64 S) := RowIs.cell HR.out 0
  have r1 : w1.cell? ⟨w.heap.size, 1, none⟩ = some (.int .i64 M) := RowIs.cell HR.out 1
  have r2 : w1.cell? ⟨w.heap.size, 2, none⟩ = some (.slice a n cap) := RowIs.cell HR.out 2
  have rz : w.heap.size < w1.heap.size := HR.out.lt
  go_wp2_with fail
  refine (long_not la len lcap (by omega) _).mono ?_
  rintro e _ ⟨rfl, rfl⟩
  go_wp2_with fail
  refine (long_not sa ns scap (by omega) _).mono ?_
  rintro e _ ⟨rfl, rfl⟩
  go_wp2_with fail
  refine (long_not ma nm mcap (by omega) _).mono ?_
  rintro e _ ⟨rfl, rfl⟩
  go_wp2_with fail
  refine (HL1.out _ HF.out).mono ?_
  rintro e w2 ⟨p1, c1, rfl, hLa, hb2⟩
  have LA := Lib.hid hLa.cells
  clear hLa
  replace HR := Lib.hid (RowIs.below HR.out hb2)
  replace HF := Lib.hid (HF.out.below hb2)
  replace HG := Lib.hid (Cells.below HG.out hb2)
  replace HS := Lib.hid (Cells.below HS.out hb2)
  replace HM := Lib.hid (Cells.below HM.out hb2)
  replace hB := bup hB hb2
  clear r0 r1 r2 rz hb2
  have r0 : w2.cell? ⟨w.heap.size, 0, none⟩ = some (.int .i64 S) := RowIs.cell HR.out 0
  have r1 : w2.cell? ⟨w.heap.size, 1, none⟩ = some (.int .i64 M) := RowIs.cell HR.out 1
  have r2 : w2.cell? ⟨w.heap.size, 2, none⟩ = some (.slice a n cap) := RowIs.cell HR.out 2
  have rz : w.heap.size < w2.heap.size := HR.out.lt
  go_wp2_with fail
  refine (HL2.out _ HF.out).mono ?_
  rintro e w3 ⟨p2, c2, rfl, hLb, hb3⟩
  have LB := Lib.hid hLb.cells
  clear hLb
  replace HR := Lib.hid (RowIs.below HR.out hb3)
  replace HF := Lib.hid (HF.out.below hb3)
  replace HG := Lib.hid (Cells.below HG.out hb3)
  replace HS := Lib.hid (Cells.below HS.out hb3)
  replace HM := Lib.hid (Cells.below HM.out hb3)
  replace LA := Lib.hid (Cells.below LA.out hb3)
  replace hB := bup hB hb3
  clear r0 r1 r2 rz hb3
  have r0 : w3.cell? ⟨w.heap.size, 0, none⟩ = some (.int .i64 S) := RowIs.cell HR.out 0
  have r1 : w3.cell? ⟨w.heap.size, 1, none⟩ = some (.int .i64 M) := RowIs.cell HR.out 1
  have r2 : w3.cell? ⟨w.heap.size, 2, none⟩ = some (.slice a n cap) := RowIs.cell HR.out 2
  have rz : w.heap.size < w3.heap.size := HR.out.lt
  go_wp2_with fail
  refine (HB1.out _ HF.out HS.out HM.out).mono ?_
  rintro e w4 ⟨rfl, hb4⟩
  replace HR := Lib.hid (RowIs.below HR.out hb4)
  replace HF := Lib.hid (HF.out.below hb4)
  replace HG := Lib.hid (Cells.below HG.out hb4)
  replace HS := Lib.hid (Cells.below HS.out hb4)
  replace HM := Lib.hid (Cells.below HM.out hb4)
  replace LA := Lib.hid (Cells.below LA.out hb4)
  replace LB := Lib.hid (Cells.below LB.out hb4)
  replace hB := bup hB hb4
  clear r0 r1 r2 rz hb4
  have r0 : w4.cell? ⟨w.heap.size, 0, none⟩ = some (.int .i64 S) := RowIs.cell HR.out 0
  have r1 : w4.cell? ⟨w.heap.size, 1, none⟩ = some (.int .i64 M) := RowIs.cell HR.out 1
  have r2 : w4.cell? ⟨w.heap.size, 2, none⟩ = some (.slice a n cap) := RowIs.cell HR.out 2
  have rz : w.heap.size < w4.heap.size := HR.out.lt
  go_wp2_with fail
  refine (HB2.out _ HF.out HS.out HM.out).mono ?_
  rintro e w5 ⟨rfl, hb5⟩
  replace HR := Lib.hid (RowIs.below HR.out hb5)
  replace HF := Lib.hid (HF.out.below hb5)
  replace HG := Lib.hid (Cells.below HG.out hb5)
  replace HS := Lib.hid (Cells.below HS.out hb5)
  replace HM := Lib.hid (Cells.below HM.out hb5)
  replace LA := Lib.hid (Cells.below LA.out hb5)
  replace LB := Lib.hid (Cells.below LB.out hb5)
  replace hB := bup hB hb5
  clear r0 r1 r2 rz hb5
  have r0 : w5.cell? ⟨w.heap.size, 0, none⟩ = some (.int .i64 S) := RowIs.cell HR.out 0
  have r1 : w5.cell? ⟨w.heap.size, 1, none⟩ = some (.int .i64 M) := RowIs.cell HR.out 1
  have r2 : w5.cell? ⟨w.heap.size, 2, none⟩ = some (.slice a n cap) := RowIs.cell HR.out 2
  have rz : w.heap.size < w5.heap.size := HR.out.lt
  go_wp2_with fail
  refine (HL3.out _ HF.out).mono ?_
  rintro e w6 ⟨p6, c6, q6, d6, rfl, hLc, hLd, hb6⟩
  have LC := Lib.hid hLc
  have LD := Lib.hid hLd
  clear hLc hLd
  replace HR := Lib.hid (RowIs.below HR.out hb6)
  replace HF := Lib.hid (HF.out.below hb6)
  replace HG := Lib.hid (Cells.below HG.out hb6)
  replace HS := Lib.hid (Cells.below HS.out hb6)
  replace HM := Lib.hid (Cells.below HM.out hb6)
  replace LA := Lib.hid (Cells.below LA.out hb6)
  replace LB := Lib.hid (Cells.below LB.out hb6)
  replace hB := bup hB hb6
  clear r0 r1 r2 rz hb6
  have r0 : w6.cell? ⟨w.heap.size, 0, none⟩ = some (.int .i64 S) := RowIs.cell HR.out 0
  have r1 : w6.cell? ⟨w.heap.size, 1, none⟩ = some (.int .i64 M) := RowIs.cell HR.out 1
  have r2 : w6.cell? ⟨w.heap.size, 2, none⟩ = some (.slice a n cap) := RowIs.cell HR.out 2
  have rz : w.heap.size < w6.heap.size := HR.out.lt
  have HI := Lib.hid (fun (x : World) (h : Below w6.heap.size w6 x) => ints_sameL (c := c1) (d := c2) (Cells.below LA.out h) (Cells.below LB.out h) (by omega))
  have HA1' := Lib.hid (fun (x : World) (h : Below w6.heap.size w6 x) => HA1.out x (HF.out.below h) (Cells.below HG.out h))
  have HA2' := Lib.hid (fun (x : World) (h : Below w6.heap.size w6 x) => HA2.out x (HF.out.below h) (Cells.below HG.out h))
  have HN1 := Lib.hid (fun (x : World) => long_not p6 CS.length c6 (by omega) x)
  have HN2 := Lib.hid (fun (x : World) => long_not q6 CM.length d6 (by omega) x)
  have hlc := fun (x : Later w6) => later_cell x
  go_wp2_with fail
  refine wp_region_later (by kernel_rfl) (by kernel_rfl) ?_
  repeat (go_big_quiet_step ((first | (with_reducible refine calls_later (HA1'.out _ (Later.h _))) | (with_reducible refine calls_later (HA2'.out _ (Later.h _))) | (with_reducible refine calls_later (HI.out _ (Later.h _))) | (with_reducible refine calls_later_same (HN1.out _)) | (with_reducible refine calls_later_same (HN2.out _)))))
  refine wpQuiet_nil ?_
  clear hlc
  intro x7
  obtain ⟨w7, hw7⟩ : ∃ w, x7.w = w := ⟨_, rfl⟩
  have hb7 : Below w6.heap.size w6 w7 := by rw [← hw7]; exact x7.h
  rw [hw7]
  clear hw7
  clear HI HA1' HA2' HN1 HN2 LA LB HA1 HA2 HB1 HB2 HL1 HL2 HL3
  replace HR := Lib.hid (RowIs.below HR.out hb7)
  replace HF := Lib.hid (HF.out.below hb7)
  replace HG := Lib.hid (Cells.below HG.out hb7)
  replace HS := Lib.hid (Cells.below HS.out hb7)
  replace HM := Lib.hid (Cells.below HM.out hb7)
  replace LC := Lib.hid (LC.out.below hb7)
  replace LD := Lib.hid (LD.out.below hb7)
  replace hB := bup hB hb7
  clear r0 r1 r2 rz hb7
  have r0 : w7.cell? ⟨w.heap.size, 0, none⟩ = some (.int .i64 S) := RowIs.cell HR.out 0
  have r1 : w7.cell? ⟨w.heap.size, 1, none⟩ = some (.int .i64 M) := RowIs.cell HR.out 1
  have r2 : w7.cell? ⟨w.heap.size, 2, none⟩ = some (.slice a n cap) := RowIs.cell HR.out 2
  have rz : w.heap.size < w7.heap.size := HR.out.lt
  by_cases hE3 : E = 0
  · subst hE3
    have HN := Lib.hid (HL4.out rfl)
    go_wp2_with fail
    refine (HN.out _ _ _ _ _ HF.out LC.out LD.out).mono ?_
    rintro e w8 ⟨rfl, hb8⟩
    replace HR := Lib.hid (RowIs.below HR.out hb8)
    replace HF := Lib.hid (HF.out.below hb8)
    replace HG := Lib.hid (Cells.below HG.out hb8)
    replace HS := Lib.hid (Cells.below HS.out hb8)
    replace HM := Lib.hid (Cells.below HM.out hb8)
    replace LC := Lib.hid (LC.out.below hb8)
    replace LD := Lib.hid (LD.out.below hb8)
    replace hB := bup hB hb8
    clear r0 r1 r2 rz hb8
    have r0 : w8.cell? ⟨w.heap.size, 0, none⟩ = some (.int .i64 S) := RowIs.cell HR.out 0
    have r1 : w8.cell? ⟨w.heap.size, 1, none⟩ = some (.int .i64 M) := RowIs.cell HR.out 1
    have r2 : w8.cell? ⟨w.heap.size, 2, none⟩ = some (.slice a n cap) := RowIs.cell HR.out 2
    have rz : w.heap.size < w8.heap.size := HR.out.lt
    have t5 : (((L.length : Nat) : Int) == ((L.length : Nat) : Int)) = true := by simp
    go_wp2_with fail
    refine (works_c _).mono ?_
    rintro e wz ⟨rfl, hbz⟩
    go_wp2_with fail
    go_ret
    exact ⟨rfl, bup hB hbz⟩
  · obtain ⟨hx, hy⟩ := HE0.out hE3
    subst hx hy
    have t5 : (E != 0) = true := by simpa using hE3
    go_wp2_with fail
    refine (works_c _).mono ?_
    rintro e wz ⟨rfl, hbz⟩
    go_wp2_with fail
    go_ret
    exact ⟨rfl, bup hB hbz⟩

end Go.Proofs.Ytbjgbgchagfokaa

namespace Go.Proofs.Ytbjgbgchagfokaa
open Go Go.RowKit Go.ChangeShapes Go.WideShapes Go.ChangeAt

theorem own_lists : ownKnob Try.prog.godebug = .none := by kernel_rfl
theorem laidOut_lists : laidOutB Try.prog = true := by kernel_rfl

set_option maxRecDepth 100000 in
theorem lists_lifted (os : Os) (started : os.Started) (H : Type) (enc : TypeId × Value → H) :
    ReturnsInHanded {} Try.checked os 4 .any (Rows.mouldListsSpec.pre6 enc Try.prog Try.f4 Rows.mouldListsRow.domain false) (Rows.mouldListsSpec.post enc Try.prog Try.f4 false true false false) := by
  refine returnsInHanded_of_change (C := Try.checked) own_lists started (by kernel_rfl) Try.func4
    (ChangeSpec.witness6 (enc := enc) (C := Try.checked) false ⟨#[], #[.agg #[.int .i64 0, .int .i64 0, .slice .none 0 0], .slice .none 0 0, .slice .none 0 0, .slice .none 0 0], []⟩ 8 (by kernel_rfl) (by kernel_rfl) (by kernel_rfl) (by kernel_rfl)) ?_
  intro W base args ds gs before hval0 hW hcnd _
  have hval : ∀ (j : Nat) t v, Try.f4.params[j]? = some t → args[j]? = some v → Value.okWide Try.prog W .any base t v := hval0
  have hW' := hW
  obtain ⟨p, q, hA0, hV, rfl, hfz, hnd⟩ := hW
  have hA : DataW.TrodAll enc Try.prog W 0 (fun _ => true) true Try.f4.params.toList args.toList ds p := hA0
  rw [Try.params4] at hA hval
  obtain ⟨v0, vs0, d0, ds0, p0, q0, hargs, rfl, rfl, h0, r0⟩ := trodAll_cons hA
  obtain ⟨v1, vs1, d1, ds1, p1, q1, rfl, rfl, rfl, h1, r1⟩ := trodAll_cons r0
  obtain ⟨v2, vs2, d2, ds2, p2, q2, rfl, rfl, rfl, h2, r2⟩ := trodAll_cons r1
  obtain ⟨v3, vs3, d3, ds3, p3, q3, rfl, rfl, rfl, h3, r3⟩ := trodAll_cons r2
  obtain ⟨rfl, rfl, rfl⟩ := trodAll_nil r3
  obtain rfl : args = #[v0, v1, v2, v3] := by cases args; simp_all
  obtain ⟨rfl, rfl⟩ := trodVars_none hV
  obtain ⟨S0, M0, a0, n0, cap0, f0, rfl, hF0⟩ := open_book (hval 0 24 v0 rfl rfl) h0
  obtain ⟨a1, n1, cap1, f1, rfl, hF1, hc1, hm1⟩ := open_days (hval 1 25 v1 rfl rfl) h1
  obtain ⟨a2, n2, cap2, f2, rfl, hF2, hc2, hm2⟩ := open_days (hval 2 25 v2 rfl rfl) h2
  obtain ⟨a3, n3, cap3, f3, rfl, hF3, hc3, hm3⟩ := open_days (hval 3 25 v3 rfl rfl) h3
  refine (law_lists_c S0 M0 a0 n0 cap0 f0 a1 n1 cap1 f1 a2 n2 cap2 f2 a3 n3 cap3 f3 W hF0 hF1 hc1 hm1 hF2 hF3).mono fun e W' ⟨he, hb⟩ => ?_
  subst he
  have hlt := hW'.lt
  simp only [List.append_nil, List.mem_append] at hlt
  refine ⟨_, rfl, _, _, _, [], p0 ++ (p1 ++ (p2 ++ (p3 ++ []))), [], hW', trodAll_mk1 (shut_bool Try.underlying4 true), ?_, rfl, hb.frame _, fun h => Bool.noConfusion h⟩
  exact trodAll_cons_mk (Below.trod laidOut_lists (by kernel_rfl) (of_decide_eq_true (by kernel_rfl)) h0 hb fun x hx => hlt x (by simp [hx])) (trodAll_cons_mk (Below.trod laidOut_lists (by kernel_rfl) (of_decide_eq_true (by kernel_rfl)) h1 hb fun x hx => hlt x (by simp [hx])) (trodAll_cons_mk (Below.trod laidOut_lists (by kernel_rfl) (of_decide_eq_true (by kernel_rfl)) h2 hb fun x hx => hlt x (by simp [hx])) (trodAll_cons_mk (Below.trod laidOut_lists (by kernel_rfl) (of_decide_eq_true (by kernel_rfl)) h3 hb fun x hx => hlt x (by simp [hx])) trodAll_mk0)))

theorem lists_holds : Rows.MouldListsSaid :=
  OpenClaim.holds_of_wide 4 Try.f4 rfl rfl rfl rfl rfl rfl rfl ⟨rfl, rfl, rfl, rfl, rfl⟩ rfl rfl rfl rfl rfl (by kernel_rfl) Try.func4 (by kernel_rfl)
    (of_decide_eq_true (by kernel_rfl)) (by unfold Func.isWrapper; first | (rw [if_pos (by decide +kernel)]; kernel_rfl) | (rw [if_neg (by decide +kernel)]; exact ⟨rfl, rfl⟩))
    (fun os started H enc _ => lists_lifted os started H enc)
end Go.Proofs.Ytbjgbgchagfokaa
