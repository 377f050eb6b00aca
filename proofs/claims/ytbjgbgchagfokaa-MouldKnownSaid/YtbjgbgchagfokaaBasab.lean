/- Contracts of layer 2: the document's own walks over pairs: is a list apart, are days right. -/
import Derived.Test.YtbjgbgchagfokaaProg
import Derived.Test.YtbjgbgchagfokaaBasaa
import Derived.RangeFuncNested
import Derived.RangeFuncCalls
import Derived.RangeFuncLeaves
namespace Go.Proofs.Ytbjgbgchagfokaa
open Go Go.RowKit

/-- Do two wants clash, asked with whole numbers. -/
def clashI (f : Nat → W2) (i k : Int) : Bool := clashB f i.toNat k.toNat
theorem clashI_c (S M : Int) (a : Option Addr) (n cap : Nat) (f : Nat → W2) (i k : Int) (w : World) (hf : Wants w a n f) (hi : 0 ≤ i ∧ i < n) (hk : 0 ≤ k ∧ k < n) :
    Calls Try.prog 73 #[bookV S M a n cap, .int .i64 i, .int .i64 k] w fun e w' => e = .returned (.bool (clashI f i k)) ∧ Below w.heap.size w w' := by
  obtain ⟨i, rfl⟩ := Int.eq_ofNat_of_zero_le hi.1
  obtain ⟨k, rfl⟩ := Int.eq_ofNat_of_zero_le hk.1
  exact Clash_c S M a n cap f i k w hf (by omega) (by omega)

def dayRow (f : Nat → W2) (g : Nat → Int) (i : Nat) : Nat → Bool
  | 0 => true
  | k + 1 => dayRow f g i k && !clashI f (g i) (g k)
def dayB (f : Nat → W2) (g : Nat → Int) : Nat → Bool
  | 0 => true
  | i + 1 => dayB f g i && dayRow f g i i
theorem dayRow_no (f : Nat → W2) (g : Nat → Int) (i k : Nat) : ∀ n, k < n → clashI f (g i) (g k) = true → dayRow f g i n = false
  | 0, h, _ => absurd h (Nat.not_lt_zero _)
  | n + 1, h, hb => by
    by_cases e : k = n
    · subst e; simp [dayRow, hb]
    · simp [dayRow, dayRow_no f g i k n (by omega) hb]
theorem dayB_no (f : Nat → W2) (g : Nat → Int) (k : Nat) : ∀ n, k < n → dayRow f g k k = false → dayB f g n = false
  | 0, h, _ => absurd h (Nat.not_lt_zero _)
  | n + 1, h, hb => by
    by_cases e : k = n
    · subst e; simp [dayB, hb]
    · simp [dayB, dayB_no f g k n (by omega) hb]

set_option maxHeartbeats 4000000 in
theorem IsDay_c (S M : Int) (a : Option Addr) (n cap : Nat) (f : Nat → W2) (la : Option Addr) (len lcap : Nat) (g : Nat → Int) (w : World) (hf : Wants w a n f) (hg : Ints w la len g) (hl : len ≤ 1048576) (hr : ∀ i, i < len → 0 ≤ g i ∧ g i < n) :
    Calls Try.prog 69 #[bookV S M a n cap, .slice la len lcap] w fun e w' => e = .returned (.bool (dayB f g len)) ∧ Below w.heap.size w w' := by
  obtain ⟨W, hW⟩ : ∃ W, w.alloc (.cells #[.int .i64 S, .int .i64 M, .slice a n cap] 24) = W := ⟨_, rfl⟩
  have hB : Below w.heap.size w W := by rw [← hW]; exact Below.alloc1 (Below.refl _ _) _ (Nat.le_refl _)
  have hR : W.heap[w.heap.size]? = some (.cells #[.int .i64 S, .int .i64 M, .slice a n cap] 24 (0, 0)) := by rw [← hW]; exact heap_new_at _ _ _ rfl
  have r0 : W.cell? ⟨w.heap.size, 0, none⟩ = some (.int .i64 S) := RowIs.cell hR 0
  have r1 : W.cell? ⟨w.heap.size, 1, none⟩ = some (.int .i64 M) := RowIs.cell hR 1
  have r2 : W.cell? ⟨w.heap.size, 2, none⟩ = some (.slice a n cap) := RowIs.cell hR 2
  have rz : w.heap.size < W.heap.size := (Array.getElem?_eq_some_iff.1 hR).1
  have HfW := Lib.hid (hf.below hB)
  have HgW := Lib.hid (Cells.below hg hB)
  have HR := Lib.hid hr
  clear hf hg hr hR
  go_enter Try.func69, Try.ntmps69
  go_wp2
  clear hW
  go_loopw [5, 6] (fun i _ wr => ∃ k : Nat, k ≤ len ∧ i = .int .i64 k ∧ dayB f g k = true ∧ Below W.heap.size W wr) (fun i _ _ => len - (intOf i).toNat)
  case atStart => exact ⟨0, Nat.zero_le _, rfl, rfl, Below.refl _ _⟩
  case round =>
    obtain ⟨k, hk, rfl, hd, hB2⟩ := hrel
    have Hd := Lib.hid hd
    clear hd
    by_cases hlt : k < len
    · go_wp2
      go_loopw [6] (fun c wi => ∃ j : Nat, j ≤ k ∧ c = .int .i64 j ∧ dayRow f g k j = true ∧ Below W.heap.size W wi) (fun c _ => k - (intOf c).toNat)
      case atStart => exact ⟨0, Nat.zero_le _, rfl, rfl, hB2⟩
      case round =>
        obtain ⟨j, hj, rfl, he, hB3⟩ := hrel
        have He := Lib.hid he
        clear he
        by_cases hjk : j < k
        · have q0 := (hB3.cell (p := ⟨w.heap.size, 0, none⟩) rz).trans r0
          have q1 := (hB3.cell (p := ⟨w.heap.size, 1, none⟩) rz).trans r1
          have q2 := (hB3.cell (p := ⟨w.heap.size, 2, none⟩) rz).trans r2
          have qz := Nat.lt_of_lt_of_le rz hB3.size
          obtain ⟨b, off, rfl, hbs, hc⟩ := Cells.at (Cells.below HgW.out hB3) k hlt
          have ck := hc k hlt
          have cj := hc j (by omega)
          have HF := Lib.hid (Wants.below HfW.out hB3)
          clear hc r0 r1 r2
          have hlc := fun (x : Later wr) => later_cell x
          go_wp2
          refine wp_region_later (by kernel_rfl) (by kernel_rfl) ?_
          repeat (go_big_quiet_step ((refine calls_later (clashI_c S M a n cap f (g k) (g j) _ (Wants.below HF.out (Later.h _)) (HR.out k hlt) (HR.out j (by omega))))))
          refine wpQuiet_nil ?_
          clear hlc
          rintro ⟨w1, hb1⟩
          cases hc : clashI f (g k) (g j)
          · go_wp2
            go_roundw
            case rel => exact ⟨j + 1, by omega, by go_num, by rw [dayRow, He.out, hc]; rfl, bup hB3 hb1⟩
            case measure => simp [intOf]; omega
          · go_wp2
            go_ret
            exact ⟨ret_b (dayB_no f g k len hlt (dayRow_no f g k j k hjk hc)).symm, bup hB (bup hB3 hb1)⟩
        · go_wp2
          go_roundw
          case rel => exact ⟨k + 1, by omega, by go_num, by obtain rfl : j = k := by omega
                                                            rw [dayB, Hd.out, He.out]; rfl, hB3⟩
          case measure => simp [intOf]; omega
    · go_wp2
      go_ret
      exact ⟨ret_b (by obtain rfl : k = len := by omega
                       exact Hd.out.symm), bup hB hB2⟩

end Go.Proofs.Ytbjgbgchagfokaa

namespace Go.Proofs.Ytbjgbgchagfokaa
open Go Go.RowKit

def rightRow (f : Nat → W2) (g : Nat → Int) (i : Nat) : Nat → Bool
  | 0 => true
  | k + 1 => rightRow f g i k && !(decide (g i = g k) && clashB f i k)
def rightB (f : Nat → W2) (g : Nat → Int) : Nat → Bool
  | 0 => true
  | i + 1 => rightB f g i && rightRow f g i i
theorem rightRow_no (f : Nat → W2) (g : Nat → Int) (i k : Nat) : ∀ n, k < n → g i = g k → clashB f i k = true → rightRow f g i n = false
  | 0, h, _, _ => absurd h (Nat.not_lt_zero _)
  | n + 1, h, hg, hb => by
    by_cases e : k = n
    · subst e; simp [rightRow, hb, hg]
    · simp [rightRow, rightRow_no f g i k n (by omega) hg hb]
theorem rightB_no (f : Nat → W2) (g : Nat → Int) (k : Nat) : ∀ n, k < n → rightRow f g k k = false → rightB f g n = false
  | 0, h, _ => absurd h (Nat.not_lt_zero _)
  | n + 1, h, hb => by
    by_cases e : k = n
    · subst e; simp [rightB, hb]
    · simp [rightB, rightB_no f g k n (by omega) hb]

set_option maxHeartbeats 4000000 in
theorem IsRight_c (S M : Int) (a : Option Addr) (n cap : Nat) (f : Nat → W2) (la : Option Addr) (len lcap : Nat) (g : Nat → Int) (w : World) (hf : Wants w a n f) (hg : Ints w la len g) (hl : len ≤ 1048576) (hr : len ≤ n) :
    Calls Try.prog 54 #[bookV S M a n cap, .slice la len lcap] w fun e w' => e = .returned (.bool (rightB f g len)) ∧ Below w.heap.size w w' := by
  obtain ⟨W, hW⟩ : ∃ W, w.alloc (.cells #[.int .i64 S, .int .i64 M, .slice a n cap] 24) = W := ⟨_, rfl⟩
  have hB : Below w.heap.size w W := by rw [← hW]; exact Below.alloc1 (Below.refl _ _) _ (Nat.le_refl _)
  have hR : W.heap[w.heap.size]? = some (.cells #[.int .i64 S, .int .i64 M, .slice a n cap] 24 (0, 0)) := by rw [← hW]; exact heap_new_at _ _ _ rfl
  have r0 : W.cell? ⟨w.heap.size, 0, none⟩ = some (.int .i64 S) := RowIs.cell hR 0
  have r1 : W.cell? ⟨w.heap.size, 1, none⟩ = some (.int .i64 M) := RowIs.cell hR 1
  have r2 : W.cell? ⟨w.heap.size, 2, none⟩ = some (.slice a n cap) := RowIs.cell hR 2
  have rz : w.heap.size < W.heap.size := (Array.getElem?_eq_some_iff.1 hR).1
  have HfW := Lib.hid (hf.below hB)
  have HgW := Lib.hid (Cells.below hg hB)
  clear hf hg hR
  go_enter Try.func54, Try.ntmps54
  go_wp2
  clear hW
  go_loopw [5, 6] (fun i _ wr => ∃ k : Nat, k ≤ len ∧ i = .int .i64 k ∧ rightB f g k = true ∧ Below W.heap.size W wr) (fun i _ _ => len - (intOf i).toNat)
  case atStart => exact ⟨0, Nat.zero_le _, rfl, rfl, Below.refl _ _⟩
  case round =>
    obtain ⟨k, hk, rfl, hd, hB2⟩ := hrel
    have Hd := Lib.hid hd
    clear hd
    by_cases hlt : k < len
    · go_wp2
      go_loopw [6] (fun c wi => ∃ j : Nat, j ≤ k ∧ c = .int .i64 j ∧ rightRow f g k j = true ∧ Below W.heap.size W wi) (fun c _ => k - (intOf c).toNat)
      case atStart => exact ⟨0, Nat.zero_le _, rfl, rfl, hB2⟩
      case round =>
        obtain ⟨j, hj, rfl, he, hB3⟩ := hrel
        have He := Lib.hid he
        clear he
        by_cases hjk : j < k
        · have q0 := (hB3.cell (p := ⟨w.heap.size, 0, none⟩) rz).trans r0
          have q1 := (hB3.cell (p := ⟨w.heap.size, 1, none⟩) rz).trans r1
          have q2 := (hB3.cell (p := ⟨w.heap.size, 2, none⟩) rz).trans r2
          have qz := Nat.lt_of_lt_of_le rz hB3.size
          obtain ⟨b, off, rfl, hbs, hc⟩ := Cells.at (Cells.below HgW.out hB3) k hlt
          have ck := hc k hlt
          have cj := hc j (by omega)
          have HF := Lib.hid (Wants.below HfW.out hB3)
          clear hc r0 r1 r2
          have hlc := fun (x : Later wr) => later_cell x
          cases ht : decide (g k = g j)
          · have ht' : (g k == g j) = false := by simpa using ht
            have HT := Lib.hid ht
            clear ht
            go_wp2
            refine wp_region_later (by kernel_rfl) (by kernel_rfl) ?_
            repeat (go_big_quiet_step (fail))
            refine wpQuiet_nil ?_
            clear hlc
            rintro ⟨w1, hb1⟩
            go_wp2
            go_roundw
            case rel => exact ⟨j + 1, by omega, by go_num, by rw [rightRow, He.out, HT.out]; rfl, bup hB3 hb1⟩
            case measure => simp [intOf]; omega
          have ht' : (g k == g j) = true := by simpa using ht
          have HT := Lib.hid ht
          clear ht
          go_wp2
          refine wp_region_later (by kernel_rfl) (by kernel_rfl) ?_
          repeat (go_big_quiet_step ((refine calls_later (Clash_c S M a n cap f k j _ (Wants.below HF.out (Later.h _)) (by omega) (by omega)))))
          refine wpQuiet_nil ?_
          clear hlc
          rintro ⟨w1, hb1⟩
          cases hc : clashB f k j
          · go_wp2
            go_roundw
            case rel => exact ⟨j + 1, by omega, by go_num, by rw [rightRow, He.out, hc, HT.out]; rfl, bup hB3 hb1⟩
            case measure => simp [intOf]; omega
          · go_wp2
            go_ret
            exact ⟨ret_b (rightB_no f g k len hlt (rightRow_no f g k j k hjk (of_decide_eq_true HT.out) hc)).symm, bup hB (bup hB3 hb1)⟩
        · go_wp2
          go_roundw
          case rel => exact ⟨k + 1, by omega, by go_num, by obtain rfl : j = k := by omega
                                                            rw [rightB, Hd.out, He.out]; rfl, hB3⟩
          case measure => simp [intOf]; omega
    · go_wp2
      go_ret
      exact ⟨ret_b (by obtain rfl : k = len := by omega
                       exact Hd.out.symm), bup hB hB2⟩

/-- How many different numbers a list has. -/
def differentN (g : Nat → Int) : Nat → Nat
  | 0 => 0
  | k + 1 => differentN g k + if hasB g (g k) k then 0 else 1
theorem differentN_le (g : Nat → Int) : ∀ n, differentN g n ≤ n
  | 0 => Nat.le_refl _
  | n + 1 => by have := differentN_le g n; unfold differentN; split <;> omega

set_option maxHeartbeats 4000000 in
theorem Different_c (la : Option Addr) (len lcap : Nat) (g : Nat → Int) (w : World) (hg : Ints w la len g) (hl : len ≤ 1048576) (hc2 : len ≤ lcap) (hc3 : lcap ≤ 9223372036854775807) :
    Calls Try.prog 55 #[.slice la len lcap] w fun e w' => e = .returned (.int .i64 (differentN g len)) ∧ Below w.heap.size w w' := by
  go_enter Try.func55, Try.ntmps55
  go_wp2
  go_loopw [3, 4] (fun s i wr => ∃ k : Nat, k ≤ len ∧ i = .int .i64 k ∧ s = .int .i64 (differentN g k) ∧ Below w.heap.size w wr) (fun _ i _ => len - (intOf i).toNat)
  case atStart => exact ⟨0, Nat.zero_le _, rfl, rfl, Below.refl _ _⟩
  case round =>
    obtain ⟨k, hk, rfl, rfl, hB2⟩ := hrel
    have hD := differentN_le g k
    by_cases hlt : k < len
    · obtain ⟨b, off, rfl, hbs, hc⟩ := Cells.at (Cells.below hg hB2) k hlt
      have ck := hc k hlt
      have HG := Lib.hid (show Ints wr (some ⟨b, off, none⟩) k g from .inr ⟨b, off, rfl, hbs, fun i hi => hc i (by omega)⟩)
      clear hc hg
      have hlc := fun (x : Later wr) => later_cell x
      go_wp2
      refine wp_region_later (by kernel_rfl) (by kernel_rfl) ?_
      repeat (go_big_quiet_step ((refine calls_later_same (Has_c (g k) (some ⟨b, off, none⟩) k lcap g _ (Cells.below HG.out (Later.h _)) (by omega)))))
      refine wpQuiet_nil ?_
      clear hlc
      rintro ⟨w1, hb1⟩
      cases hh : hasB g (g k) k
      · go_wp2
        go_roundw
        case rel => exact ⟨k + 1, by omega, by go_num, by rw [differentN, hh]; go_num, bup hB2 hb1⟩
        case measure => simp [intOf]; omega
      · go_wp2
        go_roundw
        case rel => exact ⟨k + 1, by omega, by go_num, by rw [differentN, hh]; rfl, bup hB2 hb1⟩
        case measure => simp [intOf]; omega
    · go_wp2
      go_ret
      exact ⟨ret_i (by obtain rfl : k = len := by omega
                       rfl), hB2⟩

end Go.Proofs.Ytbjgbgchagfokaa

namespace Go.Proofs.Ytbjgbgchagfokaa
open Go Go.RowKit

/-- The error of a list. -/
def listE (S M : Int) (n : Nat) (f : Nat → W2) (len : Nat) (g : Nat → Int) : Int :=
  if bookE S M n f = 0 then (if listB g n len = true then (if dayB f g len = true then 0 else 18) else 3) else bookE S M n f
theorem listB_range (g : Nat → Int) (top : Int) : ∀ n, listB g top n = true → ∀ i, i < n → 0 ≤ g i ∧ g i < top
  | 0, _, _, h => absurd h (Nat.not_lt_zero _)
  | n + 1, h, i, hi => by
    simp only [listB, Bool.and_eq_true, Bool.not_eq_true', listBad, decide_eq_false_iff_not] at h
    by_cases e : i = n
    · subst e; omega
    · exact listB_range g top n h.1 i (by omega)

set_option maxHeartbeats 4000000 in
theorem rcheckList_c (S M : Int) (a : Option Addr) (n cap : Nat) (f : Nat → W2) (la : Option Addr) (len lcap : Nat) (g : Nat → Int) (w : World) (hf : Wants w a n f) (hn : n ≤ 1048576) (hg : Ints w la len g) (hl : len ≤ 1048576) :
    Calls Try.prog 31 #[bookV S M a n cap, .slice la len lcap] w fun e w' => e = .returned (.int .i64 (listE S M n f len g)) ∧ Below w.heap.size w w' := by
  obtain ⟨W, hW⟩ : ∃ W, w.alloc (.cells #[.int .i64 S, .int .i64 M, .slice a n cap] 24) = W := ⟨_, rfl⟩
  have hB : Below w.heap.size w W := by rw [← hW]; exact Below.alloc1 (Below.refl _ _) _ (Nat.le_refl _)
  have hR : W.heap[w.heap.size]? = some (.cells #[.int .i64 S, .int .i64 M, .slice a n cap] 24 (0, 0)) := by rw [← hW]; exact heap_new_at _ _ _ rfl
  have r0 : W.cell? ⟨w.heap.size, 0, none⟩ = some (.int .i64 S) := RowIs.cell hR 0
  have r1 : W.cell? ⟨w.heap.size, 1, none⟩ = some (.int .i64 M) := RowIs.cell hR 1
  have r2 : W.cell? ⟨w.heap.size, 2, none⟩ = some (.slice a n cap) := RowIs.cell hR 2
  have rz : w.heap.size < W.heap.size := (Array.getElem?_eq_some_iff.1 hR).1
  have HfW := Lib.hid (hf.below hB)
  have HgW := Lib.hid (Cells.below hg hB)
  clear hf hg hR
  obtain ⟨v, hv⟩ : ∃ v, bookE S M n f = v := ⟨_, rfl⟩
  have ev : listE S M n f len g = if v = 0 then (if listB g n len = true then (if dayB f g len = true then 0 else 18) else 3) else v := by rw [listE, hv]
  obtain ⟨u, hu⟩ : ∃ u, listE S M n f len g = u := ⟨_, rfl⟩
  rw [hu]
  have EV := Lib.hid (hu.symm.trans ev)
  clear hu ev
  go_enter Try.func31, Try.ntmps31
  go_wp2_with fail
  refine (rcheckBook_c S M a n cap f W HfW.out hn).mono ?_
  rintro e w1 ⟨rfl, hb1⟩
  rw [hv]
  have q0 := (hb1.cell (p := ⟨w.heap.size, 0, none⟩) rz).trans r0
  have q1 := (hb1.cell (p := ⟨w.heap.size, 1, none⟩) rz).trans r1
  have q2 := (hb1.cell (p := ⟨w.heap.size, 2, none⟩) rz).trans r2
  replace rz := Nat.lt_of_lt_of_le rz hb1.size
  have Hf1 := Lib.hid (Wants.below HfW.out hb1)
  have Hg1 := Lib.hid (Cells.below HgW.out hb1)
  have hB1 := bup hB hb1
  clear hW r0 r1 r2 HfW HgW hB hb1
  by_cases hv0 : v = 0
  case neg =>
    have t0 : (v != 0) = true := by simpa using hv0
    go_wp2_with fail
    refine (rcheckBook_c S M a n cap f w1 Hf1.out hn).mono ?_
    rintro e w2 ⟨rfl, hb2⟩
    rw [hv]
    go_wp2_with fail
    go_ret
    exact ⟨ret_i (by rw [EV.out, if_neg hv0]), bup hB1 hb2⟩
  subst hv0
  have HV := Lib.hid hv
  clear hv
  go_wp2_with fail
  refine (isList_c n la len lcap g w1 Hg1.out hl).mono ?_
  rintro e w2 ⟨rfl, hb2⟩
  have p0 := (hb2.cell (p := ⟨w.heap.size, 0, none⟩) rz).trans q0
  have p1 := (hb2.cell (p := ⟨w.heap.size, 1, none⟩) rz).trans q1
  have p2 := (hb2.cell (p := ⟨w.heap.size, 2, none⟩) rz).trans q2
  have Hf2 := Lib.hid (Wants.below Hf1.out hb2)
  have Hg2 := Lib.hid (Cells.below Hg1.out hb2)
  replace hB1 := bup hB1 hb2
  clear q0 q1 q2 Hf1 Hg1 hb2
  cases hL : listB g n len
  · have HL := Lib.hid hL
    clear hL
    go_wp2_with fail
    go_ret
    exact ⟨ret_i (by simp [EV.out, HL.out]), hB1⟩
  have HL := Lib.hid hL
  clear hL
  go_wp2_with fail
  refine (IsDay_c S M a n cap f la len lcap g w2 Hf2.out Hg2.out hl (listB_range g n len HL.out)).mono ?_
  rintro e w3 ⟨rfl, hb3⟩
  replace hB1 := bup hB1 hb3
  cases hD : dayB f g len
  · have HD := Lib.hid hD
    clear hD
    go_wp2_with fail
    go_ret
    exact ⟨ret_i (by simp [EV.out, HL.out, HD.out]), hB1⟩
  have HD := Lib.hid hD
  clear hD
  go_wp2_with fail
  go_ret
  exact ⟨ret_i (by simp [EV.out, HL.out, HD.out]), hB1⟩

/-- Are all numbers of a list days. -/
def daysIn (g : Nat → Int) : Nat → Bool
  | 0 => true
  | k + 1 => daysIn g k && decide (0 ≤ g k ∧ g k ≤ 13)
theorem daysIn_no (g : Nat → Int) (k : Nat) : ∀ n, k < n → (g k < 0 ∨ 13 < g k) → daysIn g n = false
  | 0, h, _ => absurd h (Nat.not_lt_zero _)
  | n + 1, h, hb => by
    by_cases e : k = n
    · subst e; simp [daysIn]; omega
    · simp [daysIn, daysIn_no g k n (by omega) hb]

/-- The error of days. -/
def daysE (S M : Int) (n : Nat) (f : Nat → W2) (len : Nat) (g : Nat → Int) : Int :=
  if bookE S M n f = 0 then (if len = n then (if daysIn g len = true then (if rightB f g len = true then 0 else 18) else 3) else 15) else bookE S M n f
/-- How many days, if there is no error. -/
def daysN (e : Int) (g : Nat → Int) (len : Nat) : Int := if e = 0 then differentN g len else 0

set_option maxHeartbeats 8000000 in
theorem rcheckDays_c (S M : Int) (a : Option Addr) (n cap : Nat) (f : Nat → W2) (la : Option Addr) (len lcap : Nat) (g : Nat → Int) (w : World) (hf : Wants w a n f) (hn : n ≤ 1048576) (hg : Ints w la len g) (hl : len ≤ 1048576) (hc2 : len ≤ lcap) (hc3 : lcap ≤ 9223372036854775807) :
    Calls Try.prog 21 #[bookV S M a n cap, .slice la len lcap] w fun e w' => e = .returned (.tuple #[.int .i64 (daysN (daysE S M n f len g) g len), .int .i64 (daysE S M n f len g)]) ∧ Below w.heap.size w w' := by
  obtain ⟨W, hW⟩ : ∃ W, w.alloc (.cells #[.int .i64 S, .int .i64 M, .slice a n cap] 24) = W := ⟨_, rfl⟩
  have hB : Below w.heap.size w W := by rw [← hW]; exact Below.alloc1 (Below.refl _ _) _ (Nat.le_refl _)
  have hR : W.heap[w.heap.size]? = some (.cells #[.int .i64 S, .int .i64 M, .slice a n cap] 24 (0, 0)) := by rw [← hW]; exact heap_new_at _ _ _ rfl
  have r0 : W.cell? ⟨w.heap.size, 0, none⟩ = some (.int .i64 S) := RowIs.cell hR 0
  have r1 : W.cell? ⟨w.heap.size, 1, none⟩ = some (.int .i64 M) := RowIs.cell hR 1
  have r2 : W.cell? ⟨w.heap.size, 2, none⟩ = some (.slice a n cap) := RowIs.cell hR 2
  have rz : w.heap.size < W.heap.size := (Array.getElem?_eq_some_iff.1 hR).1
  have HfW := Lib.hid (hf.below hB)
  have HgW := Lib.hid (Cells.below hg hB)
  clear hf hg hR
  obtain ⟨v, hv⟩ : ∃ v, bookE S M n f = v := ⟨_, rfl⟩
  have ev : daysE S M n f len g = if v = 0 then (if len = n then (if daysIn g len = true then (if rightB f g len = true then 0 else 18) else 3) else 15) else v := by rw [daysE, hv]
  obtain ⟨u, hu⟩ : ∃ u, daysE S M n f len g = u := ⟨_, rfl⟩
  rw [hu]
  have EV := Lib.hid (hu.symm.trans ev)
  clear hu ev
  obtain ⟨d, hd⟩ : ∃ d, daysN u g len = d := ⟨_, rfl⟩
  rw [hd]
  have DV := Lib.hid (hd.symm.trans (show daysN u g len = if u = 0 then (differentN g len : Int) else 0 from rfl))
  clear hd
  go_enter Try.func21, Try.ntmps21
  go_wp2_with fail
  refine (rcheckBook_c S M a n cap f W HfW.out hn).mono ?_
  rintro e w1 ⟨rfl, hb1⟩
  rw [hv]
  have q0 := (hb1.cell (p := ⟨w.heap.size, 0, none⟩) rz).trans r0
  have q1 := (hb1.cell (p := ⟨w.heap.size, 1, none⟩) rz).trans r1
  have q2 := (hb1.cell (p := ⟨w.heap.size, 2, none⟩) rz).trans r2
  replace rz := Nat.lt_of_lt_of_le rz hb1.size
  have Hf1 := Lib.hid (Wants.below HfW.out hb1)
  have Hg1 := Lib.hid (Cells.below HgW.out hb1)
  have hB1 := bup hB hb1
  clear hW r0 r1 r2 HfW HgW hB hb1
  by_cases hv0 : v = 0
  case neg =>
    have t0 : (v != 0) = true := by simpa using hv0
    go_wp2_with fail
    refine (rcheckBook_c S M a n cap f w1 Hf1.out hn).mono ?_
    rintro e w2 ⟨rfl, hb2⟩
    rw [hv]
    go_wp2_with fail
    refine bodyPost_ret (v := .tuple #[.int .i64 0, .int .i64 v]) (by simp [results, Try.results21, go_sem]) rfl ⟨?_, ?_⟩
    · have h1 : u = v := by rw [EV.out, if_neg hv0]
      rw [DV.out, h1, if_neg hv0]
    · exact bup hB1 hb2
  subst hv0
  have HV := Lib.hid hv
  clear hv
  by_cases hln : len = n
  case neg =>
    have t1 : ((len : Int) != (n : Int)) = true := by simp; omega
    have HL := Lib.hid hln
    clear hln
    go_wp2_with fail
    refine bodyPost_ret (v := .tuple #[.int .i64 0, .int .i64 15]) (by simp [results, Try.results21, go_sem]) rfl ⟨?_, ?_⟩
    · have h1 : u = 15 := by simp [EV.out, HL.out]
      rw [DV.out, h1]; rfl
    · exact hB1
  subst hln
  go_wp2_with fail
  go_loopw [6] (fun i wr => ∃ k : Nat, k ≤ len ∧ i = .int .i64 k ∧ daysIn g k = true ∧ w1 = wr) (fun i _ => len - (intOf i).toNat)
  case atStart => exact ⟨0, Nat.zero_le _, rfl, rfl, rfl⟩
  case round =>
    obtain ⟨k, hk, rfl, ho, rfl⟩ := hrel
    have Ho := Lib.hid ho
    clear ho
    by_cases hlt : k < len
    · obtain ⟨b, off, rfl, hbs, hc⟩ := Cells.at Hg1.out k hlt
      have ck := hc k hlt
      clear hc
      by_cases b1 : g k < 0
      · go_wp2_with fail
        refine bodyPost_ret (v := .tuple #[.int .i64 0, .int .i64 3]) (by simp [results, Try.results21, go_sem]) rfl ⟨?_, ?_⟩
        · have h1 : u = 3 := by simp [EV.out, daysIn_no g k len hlt (.inl b1)]
          rw [DV.out, h1]; rfl
        · exact hB1
      by_cases b2 : 13 < g k
      · go_wp2_with fail
        refine bodyPost_ret (v := .tuple #[.int .i64 0, .int .i64 3]) (by simp [results, Try.results21, go_sem]) rfl ⟨?_, ?_⟩
        · have h1 : u = 3 := by simp [EV.out, daysIn_no g k len hlt (.inr b2)]
          rw [DV.out, h1]; rfl
        · exact hB1
      go_wp2_with fail
      go_roundw
      case rel => exact ⟨k + 1, by omega, by go_num, by simp only [daysIn, Ho.out, Bool.true_and]; exact decide_eq_true (by omega), trivial⟩
      case measure => simp [intOf]; omega
    · obtain rfl : k = len := by omega
      go_wp2_with fail
      refine (IsRight_c S M a k cap f la k lcap g w1 Hf1.out Hg1.out hl (Nat.le_refl _)).mono ?_
      rintro e w3 ⟨rfl, hb3⟩
      have Hg3 := Lib.hid (Cells.below Hg1.out hb3)
      replace hB1 := bup hB1 hb3
      clear Hf1 Hg1 q0 q1 q2
      cases hD : rightB f g k
      · have HD := Lib.hid hD
        clear hD
        go_wp2_with fail
        refine bodyPost_ret (v := .tuple #[.int .i64 0, .int .i64 18]) (by simp [results, Try.results21, go_sem]) rfl ⟨?_, ?_⟩
        · have h1 : u = 18 := by simp [EV.out, Ho.out, HD.out]
          rw [DV.out, h1]; rfl
        · exact hB1
      have HD := Lib.hid hD
      clear hD
      go_wp2_with fail
      refine (Different_c la k lcap g w3 Hg3.out hl hc2 hc3).mono ?_
      rintro e w4 ⟨rfl, hb4⟩
      go_wp2_with fail
      refine bodyPost_ret (v := .tuple #[.int .i64 (differentN g k), .int .i64 0]) (by simp [results, Try.results21, go_sem]) rfl ⟨?_, ?_⟩
      · have h1 : u = 0 := by simp [EV.out, Ho.out, HD.out]
        rw [DV.out, h1]; rfl
      · exact bup hB1 hb4

end Go.Proofs.Ytbjgbgchagfokaa

namespace Go.Proofs.Ytbjgbgchagfokaa
open Go Go.RowKit

/-- A row of so many numbers. -/
def rowA (s : Nat) (h : Nat → Int) : Array Value := ((List.range s).map fun i => Value.int .i64 (h i)).toArray
theorem rowA_get (s : Nat) (h : Nat → Int) (j : Nat) (hj : j < s) : (rowA s h)[j]? = some (.int .i64 (h j)) := by simp [rowA, hj]
theorem rowA_set (s : Nat) (h g : Nat → Int) (j : Nat) (v : Int) (hv : v = g j) (hg : ∀ i, i < s → i ≠ j → g i = h i) : (rowA s h).setIfInBounds j (.int .i64 v) = rowA s g := by
  apply Array.ext_getElem?
  intro i
  simp only [rowA, Array.getElem?_setIfInBounds]
  by_cases e : j = i
  · subst e
    by_cases hj : j < s
    · simp [hj, hv]
    · simp [hj]
  · by_cases hi : i < s
    · simp [e, hi, hg i hi (fun h => e h.symm)]
    · simp [e, hi]
theorem make_row : ∀ (s : Nat) (_ : s ≤ 6) (w : World), (Instr.makeSlice 25 (.int .i64 (s : Int)) (.int .i64 (s : Int))).run Try.prog w = .ok (.slice (some ⟨w.heap.size, 0, none⟩) s s) (w.alloc (.cells (rowA s fun _ => 0) 3))
  | 0, _, w => by
    have h : (Instr.makeSlice 25 (.int .i64 0) (.int .i64 0)).run Try.prog w = .ok (.slice (some ⟨w.heap.size, 0, none⟩) 0 0) (w.alloc (.cells (rowA 0 fun _ => 0) 3)) := by kernel_rfl
    exact h
  | 1, _, w => by
    have h : (Instr.makeSlice 25 (.int .i64 1) (.int .i64 1)).run Try.prog w = .ok (.slice (some ⟨w.heap.size, 0, none⟩) 1 1) (w.alloc (.cells (rowA 1 fun _ => 0) 3)) := by kernel_rfl
    exact h
  | 2, _, w => by
    have h : (Instr.makeSlice 25 (.int .i64 2) (.int .i64 2)).run Try.prog w = .ok (.slice (some ⟨w.heap.size, 0, none⟩) 2 2) (w.alloc (.cells (rowA 2 fun _ => 0) 3)) := by kernel_rfl
    exact h
  | 3, _, w => by
    have h : (Instr.makeSlice 25 (.int .i64 3) (.int .i64 3)).run Try.prog w = .ok (.slice (some ⟨w.heap.size, 0, none⟩) 3 3) (w.alloc (.cells (rowA 3 fun _ => 0) 3)) := by kernel_rfl
    exact h
  | 4, _, w => by
    have h : (Instr.makeSlice 25 (.int .i64 4) (.int .i64 4)).run Try.prog w = .ok (.slice (some ⟨w.heap.size, 0, none⟩) 4 4) (w.alloc (.cells (rowA 4 fun _ => 0) 3)) := by kernel_rfl
    exact h
  | 5, _, w => by
    have h : (Instr.makeSlice 25 (.int .i64 5) (.int .i64 5)).run Try.prog w = .ok (.slice (some ⟨w.heap.size, 0, none⟩) 5 5) (w.alloc (.cells (rowA 5 fun _ => 0) 3)) := by kernel_rfl
    exact h
  | 6, _, w => by
    have h : (Instr.makeSlice 25 (.int .i64 6) (.int .i64 6)).run Try.prog w = .ok (.slice (some ⟨w.heap.size, 0, none⟩) 6 6) (w.alloc (.cells (rowA 6 fun _ => 0) 3)) := by kernel_rfl
    exact h
  | n + 7, h, _ => absurd h (by omega)

end Go.Proofs.Ytbjgbgchagfokaa

namespace Go.Proofs.Ytbjgbgchagfokaa
open Go Go.RowKit

theorem RowIs.frozen {w : World} {b : Nat} {c : Array Value} {e : TypeId} (h : RowIs w b c e) (j : Nat) : w.frozen? ⟨b, j, none⟩ = false := by
  simp [World.frozen?, h]
theorem RowIs.set {w : World} {b : Nat} {c : Array Value} {e : TypeId} (h : RowIs w b c e) (j : Nat) (v : Value) : RowIs (w.setCell ⟨b, j, none⟩ v) b (c.setIfInBounds j v) e := by
  simp only [RowIs, World.setCell, Array.getElem?_modify]
  simp only [RowIs] at h
  simp [h]
theorem RowIs.other {w : World} {b b' : Nat} {c : Array Value} {e : TypeId} (h : RowIs w b c e) (j : Nat) (v : Value) (hn : b' ≠ b) : RowIs (w.setCell ⟨b', j, none⟩ v) b c e := by
  rw [RowIs, Below.heap_setCell _ _ _ _ (fun e => hn e.symm)]; exact h
theorem RowIs.alloc {w : World} {b : Nat} {c : Array Value} {e : TypeId} (h : RowIs w b c e) (o : Obj) : RowIs (w.alloc o) b c e := by
  have hb := (Array.getElem?_eq_some_iff.1 h).1
  rw [RowIs, Below.heap_alloc _ _ _ hb]; exact h

/-- How many of the first wants have this number. -/
def loadF (g : Nat → Int) (x : Nat) : Nat → Int
  | 0 => 0
  | k + 1 => loadF g x k + if g k = x then 1 else 0
theorem loadF_bd (g : Nat → Int) (x : Nat) : ∀ k, 0 ≤ loadF g x k ∧ loadF g x k ≤ k
  | 0 => ⟨Int.le_refl _, Int.le_refl _⟩
  | k + 1 => by have := loadF_bd g x k; unfold loadF; split <;> omega

set_option maxHeartbeats 8000000 in
theorem LoadsOf_c (s m : Nat) (a : Option Addr) (n cap : Nat) (f : Nat → W2) (w : World) (hf : Wants w a n f) (hG : GoodBook s m n f) :
    Calls Try.prog 51 #[bookV s m a n cap] w fun e w' => ∃ b1 b2, e = .returned (.tuple #[.slice (some ⟨b1, 0, none⟩) s s, .slice (some ⟨b2, 0, none⟩) m m]) ∧ RowIs w' b1 (rowA s fun x => loadF (fun i => (f i).s) x n) 3 ∧ RowIs w' b2 (rowA m fun x => loadF (fun i => (f i).m) x n) 3 ∧ w.heap.size < b1 ∧ w.heap.size < b2 ∧ b1 ≠ b2 ∧ Below w.heap.size w w' := by
  obtain ⟨W, hW⟩ : ∃ W, w.alloc (.cells #[.int .i64 s, .int .i64 m, .slice a n cap] 24) = W := ⟨_, rfl⟩
  have hB : Below w.heap.size w W := by rw [← hW]; exact Below.alloc1 (Below.refl _ _) _ (Nat.le_refl _)
  have hR : W.heap[w.heap.size]? = some (.cells #[.int .i64 s, .int .i64 m, .slice a n cap] 24 (0, 0)) := by rw [← hW]; exact heap_new_at _ _ _ rfl
  have r0 : W.cell? ⟨w.heap.size, 0, none⟩ = some (.int .i64 s) := RowIs.cell hR 0
  have r1 : W.cell? ⟨w.heap.size, 1, none⟩ = some (.int .i64 m) := RowIs.cell hR 1
  have r2 : W.cell? ⟨w.heap.size, 2, none⟩ = some (.slice a n cap) := RowIs.cell hR 2
  have rz : w.heap.size < W.heap.size := (Array.getElem?_eq_some_iff.1 hR).1
  obtain ⟨hS, hM, hn, hr⟩ := hG
  have HR := Lib.hid hr
  have HfW := Lib.hid (hf.below hB)
  clear hf hR hr
  obtain ⟨V1, hV1⟩ : ∃ V1, ((W.alloc (.cells (rowA s fun _ => 0) 3)).alloc (.cells (rowA m fun _ => 0) 3)).drew = V1 := ⟨_, rfl⟩
  obtain ⟨V2, hV2⟩ : ∃ V2, ((W.alloc (.cells (rowA m fun _ => 0) 3)).alloc (.cells (rowA s fun _ => 0) 3)).drew = V2 := ⟨_, rfl⟩
  have SV1 : RowIs V1 W.heap.size (rowA s fun _ => 0) 3 ∧ RowIs V1 (W.heap.size + 1) (rowA m fun _ => 0) 3 ∧ Below W.heap.size W V1 := by
    rw [← hV1]
    exact ⟨RowIs.alloc (heap_new_at W _ _ rfl) _, heap_new_at _ _ _ (by simp), (Below.alloc1 (Below.alloc1 (Below.refl _ _) _ (Nat.le_refl _)) _ (by simp)).drew⟩
  have SV2 : RowIs V2 (W.heap.size + 1) (rowA s fun _ => 0) 3 ∧ RowIs V2 W.heap.size (rowA m fun _ => 0) 3 ∧ Below W.heap.size W V2 := by
    rw [← hV2]
    exact ⟨heap_new_at _ _ _ (by simp), RowIs.alloc (heap_new_at W _ _ rfl) _, (Below.alloc1 (Below.alloc1 (Below.refl _ _) _ (Nat.le_refl _)) _ (by simp)).drew⟩
  have mk1 := make_row s (by omega)
  have mk2 := make_row m (by omega)
  replace SV1 := Lib.hid SV1
  replace SV2 := Lib.hid SV2
  go_enter Try.func51, Try.ntmps51
  go_wp2
  go_region
  ·
    clear hV1 hV2 hW mk1 mk2
    go_wp2
    go_loopw [6] (fun i wr => ∃ k : Nat, k ≤ n ∧ i = .int .i64 k ∧ RowIs wr (W.heap.size) (rowA s fun x => loadF (fun i => (f i).s) x k) 3 ∧ RowIs wr (W.heap.size + 1) (rowA m fun x => loadF (fun i => (f i).m) x k) 3 ∧ Below W.heap.size W wr) (fun i _ => n - (intOf i).toNat)
    case atStart => exact ⟨0, Nat.zero_le _, rfl, SV1.out.1, SV1.out.2.1, SV1.out.2.2⟩
    case round =>
      obtain ⟨k, hk, rfl, hr1, hr2, hB2⟩ := hrel
      have H1 := Lib.hid hr1
      have H2 := Lib.hid hr2
      have q2 := (hB2.cell (p := ⟨w.heap.size, 2, none⟩) rz).trans r2
      by_cases hlt : k < n
      · obtain ⟨b, off, rfl, hbs, -, -⟩ := Wants.at HfW.out k hlt
        obtain ⟨b', off', he, -, c0, c1⟩ := Wants.at (Wants.below HfW.out hB2) k hlt
        cases he
        obtain ⟨x, hx⟩ := Int.eq_ofNat_of_zero_le (HR.out k hlt).1.1
        obtain ⟨y, hy⟩ := Int.eq_ofNat_of_zero_le (HR.out k hlt).2.1
        have hxs : x < s := by have := (HR.out k hlt).1.2; omega
        have hym : y < m := by have := (HR.out k hlt).2.2; omega
        have hlx := loadF_bd (fun i => (f i).s) x k
        have hly := loadF_bd (fun i => (f i).m) y k
        rw [hx] at c0
        rw [hy] at c1
        have e0 : wr.cell? ⟨W.heap.size, x, none⟩ = some (.int .i64 (loadF (fun i => (f i).s) x k)) := (RowIs.cell hr1 x).trans (rowA_get _ _ x hxs)
        have e1 : wr.frozen? ⟨W.heap.size, x, none⟩ = false := RowIs.frozen hr1 x
        obtain ⟨X, hX⟩ : ∃ X, wr.setCell ⟨W.heap.size, x, none⟩ (.int .i64 (loadF (fun i => (f i).s) x k + 1)) = X := ⟨_, rfl⟩
        have hBX : Below W.heap.size W X := by rw [← hX]; exact Below.setCell hB2 (by show W.heap.size ≤ W.heap.size; omega) _
        have x1 : RowIs X (W.heap.size) (rowA s fun x => loadF (fun i => (f i).s) x (k + 1)) 3 := by
          rw [← hX]
          have := RowIs.set hr1 x (.int .i64 (loadF (fun i => (f i).s) x k + 1))
          rwa [rowA_set s _ (fun z => loadF (fun i => (f i).s) z (k + 1)) x _ (by simp [loadF, hx]) (fun i _ hn => by simp [loadF, hx]; omega)] at this
        have x2 : RowIs X (W.heap.size + 1) (rowA m fun x => loadF (fun i => (f i).m) x k) 3 := by rw [← hX]; exact RowIs.other hr2 _ _ (by omega)
        have f0 : X.cell? ⟨W.heap.size + 1, y, none⟩ = some (.int .i64 (loadF (fun i => (f i).m) y k)) := (RowIs.cell x2 y).trans (rowA_get _ _ y hym)
        have f1 : X.frozen? ⟨W.heap.size + 1, y, none⟩ = false := RowIs.frozen x2 y
        obtain ⟨Y, hY⟩ : ∃ Y, X.setCell ⟨W.heap.size + 1, y, none⟩ (.int .i64 (loadF (fun i => (f i).m) y k + 1)) = Y := ⟨_, rfl⟩
        have hBY : Below W.heap.size W Y := by rw [← hY]; exact Below.setCell hBX (by show W.heap.size ≤ W.heap.size + 1; omega) _
        have y2 : RowIs Y (W.heap.size + 1) (rowA m fun x => loadF (fun i => (f i).m) x (k + 1)) 3 := by
          rw [← hY]
          have := RowIs.set x2 y (.int .i64 (loadF (fun i => (f i).m) y k + 1))
          rwa [rowA_set m _ (fun z => loadF (fun i => (f i).m) z (k + 1)) y _ (by simp [loadF, hy]) (fun i _ hn => by simp [loadF, hy]; omega)] at this
        have y1 : RowIs Y (W.heap.size) (rowA s fun x => loadF (fun i => (f i).s) x (k + 1)) 3 := by rw [← hY]; exact RowIs.other x1 _ _ (by omega)
        have p2 := (hBX.cell (p := ⟨w.heap.size, 2, none⟩) rz).trans r2
        have d1 : X.cell? ⟨b, off + k * 2 + 1, none⟩ = some (.int .i64 y) := (hBX.cell (p := ⟨b, off + k * 2 + 1, none⟩) hbs).trans ((hB2.cell (p := ⟨b, off + k * 2 + 1, none⟩) hbs).symm.trans c1)
        have hw1 : IntKind.i64.wrap (loadF (fun i => (f i).s) x k + 1) = loadF (fun i => (f i).s) x k + 1 := IntWalk.i64_in _ (by omega)
        have hw2 : IntKind.i64.wrap (loadF (fun i => (f i).m) y k + 1) = loadF (fun i => (f i).m) y k + 1 := IntWalk.i64_in _ (by omega)
        have Y1 := Lib.hid y1
        have Y2 := Lib.hid y2
        clear hr1 hr2 x1 x2 y1 y2 r0 r1 r2
        go_wp2
        go_roundw
        case rel => exact ⟨k + 1, by omega, by go_num, Y1.out, Y2.out, hBY⟩
        case measure => simp [intOf]; omega
      · obtain rfl : k = n := by omega
        go_wp2
        refine bodyPost_ret (v := .tuple #[.slice (some ⟨W.heap.size, 0, none⟩) s s, .slice (some ⟨W.heap.size + 1, 0, none⟩) m m]) (by simp [results, Try.results51, go_sem]) rfl ⟨_, _, rfl, H1.out, H2.out, by omega, by omega, by omega, bup hB hB2⟩
  ·
    clear hV1 hV2 hW mk1 mk2
    go_wp2
    go_loopw [6] (fun i wr => ∃ k : Nat, k ≤ n ∧ i = .int .i64 k ∧ RowIs wr (W.heap.size + 1) (rowA s fun x => loadF (fun i => (f i).s) x k) 3 ∧ RowIs wr (W.heap.size) (rowA m fun x => loadF (fun i => (f i).m) x k) 3 ∧ Below W.heap.size W wr) (fun i _ => n - (intOf i).toNat)
    case atStart => exact ⟨0, Nat.zero_le _, rfl, SV2.out.1, SV2.out.2.1, SV2.out.2.2⟩
    case round =>
      obtain ⟨k, hk, rfl, hr1, hr2, hB2⟩ := hrel
      have H1 := Lib.hid hr1
      have H2 := Lib.hid hr2
      have q2 := (hB2.cell (p := ⟨w.heap.size, 2, none⟩) rz).trans r2
      by_cases hlt : k < n
      · obtain ⟨b, off, rfl, hbs, -, -⟩ := Wants.at HfW.out k hlt
        obtain ⟨b', off', he, -, c0, c1⟩ := Wants.at (Wants.below HfW.out hB2) k hlt
        cases he
        obtain ⟨x, hx⟩ := Int.eq_ofNat_of_zero_le (HR.out k hlt).1.1
        obtain ⟨y, hy⟩ := Int.eq_ofNat_of_zero_le (HR.out k hlt).2.1
        have hxs : x < s := by have := (HR.out k hlt).1.2; omega
        have hym : y < m := by have := (HR.out k hlt).2.2; omega
        have hlx := loadF_bd (fun i => (f i).s) x k
        have hly := loadF_bd (fun i => (f i).m) y k
        rw [hx] at c0
        rw [hy] at c1
        have e0 : wr.cell? ⟨W.heap.size + 1, x, none⟩ = some (.int .i64 (loadF (fun i => (f i).s) x k)) := (RowIs.cell hr1 x).trans (rowA_get _ _ x hxs)
        have e1 : wr.frozen? ⟨W.heap.size + 1, x, none⟩ = false := RowIs.frozen hr1 x
        obtain ⟨X, hX⟩ : ∃ X, wr.setCell ⟨W.heap.size + 1, x, none⟩ (.int .i64 (loadF (fun i => (f i).s) x k + 1)) = X := ⟨_, rfl⟩
        have hBX : Below W.heap.size W X := by rw [← hX]; exact Below.setCell hB2 (by show W.heap.size ≤ W.heap.size + 1; omega) _
        have x1 : RowIs X (W.heap.size + 1) (rowA s fun x => loadF (fun i => (f i).s) x (k + 1)) 3 := by
          rw [← hX]
          have := RowIs.set hr1 x (.int .i64 (loadF (fun i => (f i).s) x k + 1))
          rwa [rowA_set s _ (fun z => loadF (fun i => (f i).s) z (k + 1)) x _ (by simp [loadF, hx]) (fun i _ hn => by simp [loadF, hx]; omega)] at this
        have x2 : RowIs X (W.heap.size) (rowA m fun x => loadF (fun i => (f i).m) x k) 3 := by rw [← hX]; exact RowIs.other hr2 _ _ (by omega)
        have f0 : X.cell? ⟨W.heap.size, y, none⟩ = some (.int .i64 (loadF (fun i => (f i).m) y k)) := (RowIs.cell x2 y).trans (rowA_get _ _ y hym)
        have f1 : X.frozen? ⟨W.heap.size, y, none⟩ = false := RowIs.frozen x2 y
        obtain ⟨Y, hY⟩ : ∃ Y, X.setCell ⟨W.heap.size, y, none⟩ (.int .i64 (loadF (fun i => (f i).m) y k + 1)) = Y := ⟨_, rfl⟩
        have hBY : Below W.heap.size W Y := by rw [← hY]; exact Below.setCell hBX (by show W.heap.size ≤ W.heap.size; omega) _
        have y2 : RowIs Y (W.heap.size) (rowA m fun x => loadF (fun i => (f i).m) x (k + 1)) 3 := by
          rw [← hY]
          have := RowIs.set x2 y (.int .i64 (loadF (fun i => (f i).m) y k + 1))
          rwa [rowA_set m _ (fun z => loadF (fun i => (f i).m) z (k + 1)) y _ (by simp [loadF, hy]) (fun i _ hn => by simp [loadF, hy]; omega)] at this
        have y1 : RowIs Y (W.heap.size + 1) (rowA s fun x => loadF (fun i => (f i).s) x (k + 1)) 3 := by rw [← hY]; exact RowIs.other x1 _ _ (by omega)
        have p2 := (hBX.cell (p := ⟨w.heap.size, 2, none⟩) rz).trans r2
        have d1 : X.cell? ⟨b, off + k * 2 + 1, none⟩ = some (.int .i64 y) := (hBX.cell (p := ⟨b, off + k * 2 + 1, none⟩) hbs).trans ((hB2.cell (p := ⟨b, off + k * 2 + 1, none⟩) hbs).symm.trans c1)
        have hw1 : IntKind.i64.wrap (loadF (fun i => (f i).s) x k + 1) = loadF (fun i => (f i).s) x k + 1 := IntWalk.i64_in _ (by omega)
        have hw2 : IntKind.i64.wrap (loadF (fun i => (f i).m) y k + 1) = loadF (fun i => (f i).m) y k + 1 := IntWalk.i64_in _ (by omega)
        have Y1 := Lib.hid y1
        have Y2 := Lib.hid y2
        clear hr1 hr2 x1 x2 y1 y2 r0 r1 r2
        go_wp2
        go_roundw
        case rel => exact ⟨k + 1, by omega, by go_num, Y1.out, Y2.out, hBY⟩
        case measure => simp [intOf]; omega
      · obtain rfl : k = n := by omega
        go_wp2
        refine bodyPost_ret (v := .tuple #[.slice (some ⟨W.heap.size + 1, 0, none⟩) s s, .slice (some ⟨W.heap.size, 0, none⟩) m m]) (by simp [results, Try.results51, go_sem]) rfl ⟨_, _, rfl, H1.out, H2.out, by omega, by omega, by omega, bup hB hB2⟩

end Go.Proofs.Ytbjgbgchagfokaa

namespace Go.Proofs.Ytbjgbgchagfokaa
open Go Go.RowKit

set_option maxHeartbeats 4000000 in
theorem rLoads_no_c (S M : Int) (a : Option Addr) (n cap : Nat) (f : Nat → W2) (w : World) (hf : Wants w a n f) (hn : n ≤ 1048576) (hE : bookE S M n f ≠ 0) :
    Calls Try.prog 19 #[bookV S M a n cap] w fun e w' => e = .returned (.tuple #[.slice none 0 0, .slice none 0 0, .int .i64 (bookE S M n f)]) ∧ Below w.heap.size w w' := by
  obtain ⟨W, hW⟩ : ∃ W, w.alloc (.cells #[.int .i64 S, .int .i64 M, .slice a n cap] 24) = W := ⟨_, rfl⟩
  have hB : Below w.heap.size w W := by rw [← hW]; exact Below.alloc1 (Below.refl _ _) _ (Nat.le_refl _)
  have hR : W.heap[w.heap.size]? = some (.cells #[.int .i64 S, .int .i64 M, .slice a n cap] 24 (0, 0)) := by rw [← hW]; exact heap_new_at _ _ _ rfl
  have r0 : W.cell? ⟨w.heap.size, 0, none⟩ = some (.int .i64 S) := RowIs.cell hR 0
  have r1 : W.cell? ⟨w.heap.size, 1, none⟩ = some (.int .i64 M) := RowIs.cell hR 1
  have r2 : W.cell? ⟨w.heap.size, 2, none⟩ = some (.slice a n cap) := RowIs.cell hR 2
  have rz : w.heap.size < W.heap.size := (Array.getElem?_eq_some_iff.1 hR).1
  have HfW := Lib.hid (hf.below hB)
  clear hf hR
  obtain ⟨v, hv⟩ : ∃ v, bookE S M n f = v := ⟨_, rfl⟩
  rw [hv] at hE ⊢
  have t0 : (v != 0) = true := by simpa using hE
  go_enter Try.func19, Try.ntmps19
  go_wp2_with fail
  refine (rcheckBook_c S M a n cap f W HfW.out hn).mono ?_
  rintro e w1 ⟨rfl, hb1⟩
  rw [hv]
  have q0 := (hb1.cell (p := ⟨w.heap.size, 0, none⟩) rz).trans r0
  have q1 := (hb1.cell (p := ⟨w.heap.size, 1, none⟩) rz).trans r1
  have q2 := (hb1.cell (p := ⟨w.heap.size, 2, none⟩) rz).trans r2
  have Hf1 := Lib.hid (Wants.below HfW.out hb1)
  have hB1 := bup hB hb1
  clear hW r0 r1 r2 HfW hB hb1
  go_wp2_with fail
  refine (rcheckBook_c S M a n cap f w1 Hf1.out hn).mono ?_
  rintro e w2 ⟨rfl, hb2⟩
  rw [hv]
  go_wp2_with fail
  refine bodyPost_ret (v := .tuple #[.slice none 0 0, .slice none 0 0, .int .i64 v]) (by simp [results, Try.results19, go_sem]) rfl ⟨rfl, bup hB1 hb2⟩

set_option maxHeartbeats 4000000 in
theorem rLoads_yes_c (s m : Nat) (a : Option Addr) (n cap : Nat) (f : Nat → W2) (w : World) (hf : Wants w a n f) (hn : n ≤ 1048576) (hE : bookE s m n f = 0) :
    Calls Try.prog 19 #[bookV s m a n cap] w fun e w' => ∃ b1 b2, e = .returned (.tuple #[.slice (some ⟨b1, 0, none⟩) s s, .slice (some ⟨b2, 0, none⟩) m m, .int .i64 0]) ∧ RowIs w' b1 (rowA s fun x => loadF (fun i => (f i).s) x n) 3 ∧ RowIs w' b2 (rowA m fun x => loadF (fun i => (f i).m) x n) 3 ∧ w.heap.size < b1 ∧ w.heap.size < b2 ∧ b1 ≠ b2 ∧ Below w.heap.size w w' := by
  obtain ⟨W, hW⟩ : ∃ W, w.alloc (.cells #[.int .i64 s, .int .i64 m, .slice a n cap] 24) = W := ⟨_, rfl⟩
  have hB : Below w.heap.size w W := by rw [← hW]; exact Below.alloc1 (Below.refl _ _) _ (Nat.le_refl _)
  have hR : W.heap[w.heap.size]? = some (.cells #[.int .i64 s, .int .i64 m, .slice a n cap] 24 (0, 0)) := by rw [← hW]; exact heap_new_at _ _ _ rfl
  have r0 : W.cell? ⟨w.heap.size, 0, none⟩ = some (.int .i64 s) := RowIs.cell hR 0
  have r1 : W.cell? ⟨w.heap.size, 1, none⟩ = some (.int .i64 m) := RowIs.cell hR 1
  have r2 : W.cell? ⟨w.heap.size, 2, none⟩ = some (.slice a n cap) := RowIs.cell hR 2
  have rz : w.heap.size < W.heap.size := (Array.getElem?_eq_some_iff.1 hR).1
  have HfW := Lib.hid (hf.below hB)
  have HG := Lib.hid (book_good hE)
  clear hf hR
  go_enter Try.func19, Try.ntmps19
  go_wp2_with fail
  refine (rcheckBook_c s m a n cap f W HfW.out hn).mono ?_
  rintro e w1 ⟨rfl, hb1⟩
  rw [hE]
  have q0 := (hb1.cell (p := ⟨w.heap.size, 0, none⟩) rz).trans r0
  have q1 := (hb1.cell (p := ⟨w.heap.size, 1, none⟩) rz).trans r1
  have q2 := (hb1.cell (p := ⟨w.heap.size, 2, none⟩) rz).trans r2
  have rz1 := Nat.lt_of_lt_of_le rz hb1.size
  have Hf1 := Lib.hid (Wants.below HfW.out hb1)
  have hB1 := bup hB hb1
  have HE := Lib.hid hE
  clear hW r0 r1 r2 HfW hB hb1 hE
  go_wp2_with fail
  refine (LoadsOf_c s m a n cap f w1 Hf1.out HG.out).mono ?_
  rintro e w2 ⟨b1, b2, rfl, hr1, hr2, h1, h2, h3, hb2⟩
  have H1 := Lib.hid hr1
  have H2 := Lib.hid hr2
  clear hr1 hr2 q0 q1 q2
  go_wp2_with fail
  refine bodyPost_ret (v := .tuple #[.slice (some ⟨b1, 0, none⟩) s s, .slice (some ⟨b2, 0, none⟩) m m, .int .i64 0]) (by simp [results, Try.results19, go_sem]) rfl ⟨b1, b2, rfl, H1.out, H2.out, by omega, by omega, h3, bup hB1 hb2⟩

end Go.Proofs.Ytbjgbgchagfokaa

namespace Go.Proofs.Ytbjgbgchagfokaa
open Go Go.RowKit

/-- What a round leaves as it lay: the blocks of K, and those from D on. -/
structure Spares (K : Nat → Prop) (D : Nat) (A B : World) : Prop where
  size : A.heap.size ≤ B.heap.size
  block : ∀ k, k < A.heap.size → (K k ∨ D ≤ k) → B.heap[k]? = A.heap[k]?

theorem Spares.refl (K : Nat → Prop) (D : Nat) (A : World) : Spares K D A A := ⟨Nat.le_refl _, fun _ _ _ => rfl⟩
theorem Spares.trans {K : Nat → Prop} {D : Nat} {A B C : World} (h : Spares K D A B) (k : Spares K D B C) : Spares K D A C :=
  ⟨Nat.le_trans h.size k.size, fun i hi hK => (k.block i (Nat.lt_of_lt_of_le hi h.size) hK).trans (h.block i hi hK)⟩
theorem Spares.of_below {K : Nat → Prop} {D : Nat} {A B : World} (h : Below A.heap.size A B) : Spares K D A B := ⟨h.size, fun i hi _ => h.block i hi⟩
theorem Spares.mono {K K' : Nat → Prop} {D D' : Nat} {A B : World} (h : Spares K D A B) (hK : ∀ k, K' k → K k ∨ D ≤ k) (hD : D ≤ D') : Spares K' D' A B :=
  ⟨h.size, fun i hi hk => h.block i hi (hk.elim (hK i) fun h => .inr (Nat.le_trans hD h))⟩
theorem Spares.put {K : Nat → Prop} {D r : Nat} {A : World} (o : Obj) (hK : ¬ K r) (hr : r < D) : Spares K D A (A.putObj r o) :=
  ⟨by simp, fun i _ h => World.putObj_heap_other (fun e => by subst e; exact h.elim hK (by omega))⟩

theorem below_put {D r : Nat} {A : World} (o : Obj) (hr : D ≤ r) : Below D A (A.putObj r o) :=
  ⟨rfl, rfl, rfl, by simp, fun k hk => World.putObj_heap_other (by omega)⟩

/-- An iterator that reads the blocks of K alone, and yields the list L. -/
def Gives (P : Program) (gf : Nat) (first lb : Array Value) (K : Nat → Prop) (L : List (Array Value)) (w : World) : Prop :=
  ∀ (l : Nat) (J Jx : Nat → World → Prop) (W : World),
    (∀ k, K k → k < w.heap.size ∧ W.heap[k]? = w.heap[k]?) → w.heap.size ≤ W.heap.size →
    (∀ k A B, J k A → Below W.heap.size A B → J k B) → (∀ k A B, Jx k A → Below W.heap.size A B → Jx k B) →
    (∀ k (h : k < L.length) A, W.heap.size ≤ A.heap.size → J k A → YieldAt Fence.wide 0 P l L[k] A fun e B => (e = .returned (.bool true) ∧ J (k + 1) B ∧ Spares K W.heap.size A B) ∨ (e = .returned (.bool false) ∧ Jx (k + 1) B ∧ Spares K W.heap.size A B)) →
    J 0 W →
    Calls P gf (first ++ #[.func (.yield l) #[] #[]] ++ lb) W fun e B => (∃ v, e = .returned v) ∧ (J L.length B ∨ ∃ k, Jx k B)

theorem Gives.later {P : Program} {gf : Nat} {first lb : Array Value} {K : Nat → Prop} {L : List (Array Value)} {w w' : World} (h : Gives P gf first lb K L w) (hK : ∀ k, K k → k < w.heap.size)
    (hs : w.heap.size ≤ w'.heap.size) (hb : ∀ k, K k → w'.heap[k]? = w.heap[k]?) : Gives P gf first lb K L w' :=
  fun l J Jx W hW hz hJ hJx hY h0 => h l J Jx W (fun k hk => ⟨hK k hk, (hW k hk).2.trans (hb k hk)⟩) (Nat.le_trans hs hz) hJ hJx hY h0

theorem round_any {F : Fence} {n m : Nat} {P : Program} {l : Nat} {f : FuncId} {tmps : Array Value} {assign body : Code} {w : World} {R : Ending → World → Prop} (hd : F.depth = none)
    (h : RoundIn F n P l f tmps assign body w R) : RoundIn F m P l f tmps assign body w R :=
  ⟨h.1, fun c cs _ => h.2 c cs fun d e => by rw [hd] at e; cases e⟩

/-- How the body of a round may be left. -/
def roundQ (K : Nat → Prop) (b : Nat) (I : Nat → World → Prop) (Ix : Code → Nat → World → Prop) (k : Nat) (A : World) : Exit → Act → World → Prop
  | .normal, _, B => Spares K b A B ∧ I (k + 1) B
  | .ret, _, B => Spares K b A B ∧ Ix .ret (k + 1) B
  | .exit id, _, B => Spares K b A B ∧ Ix (.exit id) (k + 1) B
  | .goto t, _, B => Spares K b A B ∧ Ix (.goto t) (k + 1) B
  | .panic _, _, _ => False
  | .outgrown, _, _ => False

/-- A loop over an iterator, in a function that stands in no round. -/
theorem wpIn_rangeL {n : Nat} {P : Program} {g : Operand} {ps : Array Tmp} {assign body : Code} {Q : Exit → Act → World → Prop} {a : Act} {w : World} {gf : Nat} {first lb : Array Value} {K : Nat → Prop} {L : List (Array Value)}
    (hg : a.eval g = .func (.func gf) first lb) (eg : ∀ args w, (callFunc gf args).run P w = .ok (.enter gf args) w)
    (hseq : Gives P gf first lb K L w) (hK : ∀ k, K k → k < w.heap.size) (hps : ∀ k (_ : k < L.length), L[k].size = ps.size)
    (I : Nat → World → Prop) (Ix : Code → Nat → World → Prop) (hI : ∀ k A B, I k A → Below w.heap.size A B → I k B) (hIx : ∀ c k A B, Ix c k A → Below w.heap.size A B → Ix c k B) (h0 : I 0 w)
    (Ax : Nat → Act → World → Prop) (hAx : ∀ k a' A o, Ax k a' A → Ax k a' (A.putObj (w.heap.size + 1) o))
    (hassign : ∀ (l k : Nat) (_ : k < L.length) (A : World) (T : Act → World → Prop), w.heap.size + 2 ≤ A.heap.size → I k A → (∀ a' A', Below A.heap.size A A' → Ax k a' A' → T a' A') →
      assign.wpIn (Fence.wide.inRound l) n P (Exit.then T (fun _ _ _ => False)) { tmps := (ps.zip L[k]).foldl (fun t (p, v) => t.setIfInBounds p v) a.tmps, defers := [] } A)
    (hbody : ∀ (l k : Nat) (_ : k < L.length) (a' : Act) (A : World), w.heap.size + 2 ≤ A.heap.size → I k A → Ax k a' A → body.wpIn (Fence.wide.inRound l) n P (roundQ K w.heap.size I Ix k A) a' A)
    (hdone : ∀ B : World, w.heap.size + 2 ≤ B.heap.size → I L.length B → B.heap[w.heap.size]? = some (.deferred (some [])) → Q .normal { a with defers := { target := .collected w.heap.size, args := #[] } :: a.defers } B)
    (hstop : ∀ (c : Code) (k : Nat) (B : World), w.heap.size + 2 ≤ B.heap.size → Ix c k B → B.heap[w.heap.size]? = some (.deferred (some [])) → c.wpIn Fence.wide n P Q { a with defers := { target := .collected w.heap.size, args := #[] } :: a.defers } B) :
    (Code.rangeFunc g ps assign body).wpIn Fence.wide n P Q a w := by
  refine wpIn_rangeFunc fun fn _ => ?_
  obtain ⟨b, hb⟩ : ∃ b, w.heap.size = b := ⟨_, rfl⟩
  obtain ⟨record, hrec⟩ : ∃ record : LoopState → Option Code → Loop, record = fun st pe => { state := st, pending := pe, fn, tmps := a.tmps, params := ps, assign, body, defers := b } := ⟨_, rfl⟩
  obtain ⟨W, hW⟩ : ∃ W, (w.alloc (.deferred (some []))).alloc (.loop (record .ready none)) = W := ⟨_, rfl⟩
  have hWl : W.heap[b + 1]? = some (.loop (record .ready none)) := by
    rw [← hW, ← hb]
    have := World.alloc_heap_new (w.alloc (.deferred (some []))) (.loop (record .ready none))
    rwa [World.size_alloc] at this
  have hWd : W.heap[b]? = some (.deferred (some [])) := by
    rw [← hW, ← hb]
    exact (Below.heap_alloc _ _ _ (by simp)).trans (World.alloc_heap_new w _)
  have hWz : W.heap.size = b + 2 := by rw [← hW]; simp [hb]
  have hWb : Below b w W := by
    rw [← hW, ← hb]
    exact ((Below.refl _ w).alloc (Nat.le_refl _) _).alloc (by simp) _
  rw [hb] at hI hIx hAx hassign hbody hdone hstop hK
  -- what lies between two rounds
  let J : Nat → World → Prop := fun k A => I k A ∧ A.heap[b + 1]? = some (.loop (record .ready none)) ∧ A.heap[b]? = some (.deferred (some [])) ∧ b + 2 ≤ A.heap.size
  let Jx : Nat → World → Prop := fun k A => ∃ c, Ix c k A ∧ A.heap[b + 1]? = some (.loop (record .done (some c))) ∧ A.heap[b]? = some (.deferred (some [])) ∧ b + 2 ≤ A.heap.size
  refine ⟨b + 1, [{ target := .collected b, args := #[] }], W, { target := .fn (.func gf) lb, args := first ++ #[.func (.yield (b + 1)) #[] #[]] }, W, gf, first ++ #[.func (.yield (b + 1)) #[] #[]] ++ lb, W, ?_, ?_, fun _ _ => trivial, ?_, fun h => by simp [Fence.wide] at h, ?_⟩
  · rw [← hW, hrec, ← hb]
    exact run_enterLoop_outer _ _ _ _ _
  · simp only [resolve, hg]
    simp [go_sem]
  · simp [invoke, go_sem, eg]
  refine callsIn_wide.2 ((hseq (b + 1) J Jx W ?_ (by omega) ?_ ?_ ?_ ?_).mono ?_)
  · intro k hk
    have := hK k hk
    exact ⟨by omega, hWb.block k this⟩
  · rintro k A B ⟨h1, h2, h3, h4⟩ hAB
    rw [hWz] at hAB
    exact ⟨hI k A B h1 (hAB.mono (by omega)), (hAB.block _ (by omega)).trans h2, (hAB.block _ (by omega)).trans h3, Nat.le_trans h4 hAB.size⟩
  · rintro k A B ⟨c, h1, h2, h3, h4⟩ hAB
    rw [hWz] at hAB
    exact ⟨c, hIx c k A B h1 (hAB.mono (by omega)), (hAB.block _ (by omega)).trans h2, (hAB.block _ (by omega)).trans h3, Nat.le_trans h4 hAB.size⟩
  · rintro k hk A _ ⟨h1, h2, h3, h4⟩
    have hy := run_yield (P := P) (args := L[k]) h2 (by rw [hrec]; exact hps k hk)
    rw [hrec] at hy
    refine ⟨fn, _, assign, body, hy, round_any (n := n) rfl (roundIn_of_wpIn trivial (hassign _ k hk A _ h4 h1 ?_))⟩
    intro a' A' hAA hax
    have hz' := hAA.size
    have h2' : A'.heap[b + 1]? = some (.loop (record .ready none)) := (hAA.block _ (by omega)).trans h2
    have h3' : A'.heap[b]? = some (.deferred (some [])) := (hAA.block _ (by omega)).trans h3
    refine ⟨_, run_beginRound h2' (by rw [hrec]), ?_⟩
    obtain ⟨C, hC⟩ : ∃ C, A'.putObj (b + 1) (.loop { record .ready none with state := .busy }) = C := ⟨_, rfl⟩
    have hC2 : C.heap[b + 1]? = some (.loop { record .ready none with state := .busy }) := by rw [← hC]; exact World.putObj_heap_same (by omega)
    have hC3 : C.heap[b]? = some (.deferred (some [])) := by rw [← hC]; exact (World.putObj_heap_other (by omega)).trans h3'
    have hCz : C.heap.size = A'.heap.size := by rw [← hC]; simp
    have hCI : I k C := by
      rw [← hC]
      exact hI k _ _ (hI k _ _ h1 (hAA.mono (by omega))) (below_put _ (by omega))
    have hCx : Ax k a' C := by rw [← hC]; exact hAx k a' A' _ hax
    have hKb : ¬ K (b + 1) := fun h => by have := hK _ h; omega
    have hAC : Spares K (b + 2) A C := by
      rw [← hC]
      exact (Spares.of_below hAA).trans (Spares.put _ hKb (by omega))
    rw [hC]
    refine wpIn_mono (hbody _ k hk a' C (by omega) hCI hCx) ?_
    have fin : ∀ (jump : Option Code) (B : World), Spares K b C B →
        ∃ B', (Instr.endRound (b + 1) jump).run P B = .ok (.bool jump.isNone) B' ∧ B'.heap[b + 1]? = some (.loop (record (if jump.isNone then .ready else .done) jump)) ∧ B'.heap[b]? = some (.deferred (some [])) ∧
          b + 2 ≤ B'.heap.size ∧ Below b B B' ∧ Spares K (b + 2) A B' := fun jump B hCB => by
      have hBz := hCB.size
      have g2 : B.heap[b + 1]? = some (.loop { record .ready none with state := .busy }) := (hCB.block _ (by omega) (.inr (by omega))).trans hC2
      have g3 : B.heap[b]? = some (.deferred (some [])) := (hCB.block _ (by omega) (.inr (by omega))).trans hC3
      have hr := run_endRound (P := P) jump g2
      rw [hrec] at hr
      refine ⟨_, hr, ?_, (World.putObj_heap_other (by omega)).trans g3, by simp; omega, below_put _ (by omega), ?_⟩
      · rw [World.putObj_heap_same (by omega), hrec]
      · exact hAC.trans ((hCB.mono (fun k h => .inl h) (by omega)).trans (Spares.put _ hKb (by omega)))
    intro e a3 B hp
    cases e with
    | normal =>
      obtain ⟨hs, hi⟩ := hp
      obtain ⟨B', hr, f1, f2, f3, f4, f5⟩ := fin none B hs
      exact ⟨_, _, hr, .inl ⟨rfl, ⟨hI _ _ _ hi f4, f1, f2, f3⟩, by rw [hWz]; exact f5⟩⟩
    | ret =>
      obtain ⟨hs, hi⟩ := hp
      obtain ⟨B', hr, f1, f2, f3, f4, f5⟩ := fin (some .ret) B hs
      exact ⟨_, _, hr, .inr ⟨rfl, ⟨.ret, hIx _ _ _ _ hi f4, f1, f2, f3⟩, by rw [hWz]; exact f5⟩⟩
    | exit id =>
      obtain ⟨hs, hi⟩ := hp
      obtain ⟨B', hr, f1, f2, f3, f4, f5⟩ := fin (some (.exit id)) B hs
      exact ⟨_, _, hr, .inr ⟨rfl, ⟨.exit id, hIx _ _ _ _ hi f4, f1, f2, f3⟩, by rw [hWz]; exact f5⟩⟩
    | goto t =>
      obtain ⟨hs, hi⟩ := hp
      obtain ⟨B', hr, f1, f2, f3, f4, f5⟩ := fin (some (.goto t)) B hs
      exact ⟨_, _, hr, .inr ⟨rfl, ⟨.goto t, hIx _ _ _ _ hi f4, f1, f2, f3⟩, by rw [hWz]; exact f5⟩⟩
    | panic ch => exact hp.elim
    | outgrown => exact hp.elim
  · exact ⟨hI 0 _ _ h0 hWb, hWl, hWd, by omega⟩
  · rintro e B ⟨⟨v, rfl⟩, (⟨h1, h2, h3, h4⟩ | ⟨k, c, h1, h2, h3, h4⟩)⟩
    · refine ⟨none, _, (by have := run_endLoop (P := P) h2 (by rw [hrec]; simp); rw [hrec] at this; exact this), ?_⟩
      have := hdone (B.putObj (b + 1) (.loop (record .exhausted none))) (by simp; omega) (hI _ _ _ h1 (below_put _ (by omega))) ((World.putObj_heap_other (by omega)).trans h3)
      simpa [hrec] using this
    · refine ⟨some c, _, (by have := run_endLoop (P := P) h2 (by rw [hrec]; simp); rw [hrec] at this; exact this), ?_⟩
      have := hstop c k (B.putObj (b + 1) (.loop (record .exhausted (some c)))) (by simp; omega) (hIx _ _ _ _ h1 (below_put _ (by omega))) ((World.putObj_heap_other (by omega)).trans h3)
      simpa [hrec] using this

end Go.Proofs.Ytbjgbgchagfokaa
