/- Contracts of package alloy: valid metals. -/
import Derived.Test.YtfjepnpnphoobaaGreatProg
import Derived.Test.YtfjepnpnphoobaaGreatMetaa
import Derived.Test.YtfjepnpnphoobaaGreatMetab
namespace Go.Proofs.YtfjepnpnphoobaaGreat
open Go.RowKit

set_option maxHeartbeats 400000 in
theorem validContent_c (lo hi : Int) (w : World) :
    Calls Tryz.prog 92 #[.agg #[.int .i64 lo, .int .i64 hi]] w fun e w' => e = .returned (.bool (rangeB lo hi)) ∧ Below w.heap.size w w' := by
  have hB : Below w.heap.size w ((w.alloc (.cells #[.int .i64 lo, .int .i64 hi] 66)).alloc (.cells #[.int .i64 lo, .int .i64 hi] 2)) := ((Below.refl _ _).alloc (Nat.le_refl _) _).alloc (by simp) _
  by_cases h : (decide (0 ≤ lo ∧ lo ≤ 1000) && decide (0 ≤ hi ∧ hi ≤ 1000)) = true
  · by_cases h2 : lo ≤ hi
    all_goals
      go_enter Tryz.func92, Tryz.ntmps92
      go_wp2_with fail
      refine (within2_c 0 1000 lo hi _ _ (by simp) _).mono ?_
      rintro e w1 ⟨he, rfl⟩
      simp only [h] at he
      subst he
      go_wp2
      go_ret
      exact ⟨ret_b (by simp at h; unfold rangeB; rw [Bool.eq_iff_iff]; simp; omega), hB⟩
  · go_enter Tryz.func92, Tryz.ntmps92
    go_wp2_with fail
    refine (within2_c 0 1000 lo hi _ _ (by simp) _).mono ?_
    rintro e w1 ⟨he, rfl⟩
    simp only [h] at he
    subst he
    go_wp2
    go_ret
    exact ⟨ret_b (by simp at h; unfold rangeB; rw [Bool.eq_iff_iff]; simp; omega), hB⟩

set_option maxHeartbeats 1000000 in
theorem validMetal_c (m : M5) (w : World) :
    Calls Tryz.prog 64 #[.agg #[.int .i64 m.p, .int .i64 m.l0, .int .i64 m.l1, .int .i64 m.c0, .int .i64 m.c1]] w fun e w' => e = .returned (.bool (!badB m)) ∧ Below w.heap.size w w' := by
  have hB : Below w.heap.size w ((w.alloc (.cells #[.int .i64 m.p, .int .i64 m.l0, .int .i64 m.l1, .int .i64 m.c0, .int .i64 m.c1] 68)).alloc (.cells #[.int .i64 m.p] 2)) := ((Below.refl _ _).alloc (Nat.le_refl _) _).alloc (by simp) _
  by_cases h : decide (0 ≤ m.p ∧ m.p ≤ 1000) = true
  · by_cases h1 : rangeB m.l0 m.l1 = true
    · go_enter Tryz.func64, Tryz.ntmps64
      go_wp2_with fail
      refine (within1_c 0 1000 m.p _ _ (by simp) _).mono ?_
      rintro e w1 ⟨he, rfl⟩
      rw [h] at he
      subst he
      go_wp2_with fail
      refine (validContent_c _ _ _).mono ?_
      rintro e w2 ⟨he, hb2⟩
      rw [h1] at he
      subst he
      obtain ⟨hc, hf⟩ := bcell hb2
      have hz := hb2.size
      go_wp2_with fail
      refine (validContent_c _ _ _).mono ?_
      rintro e w3 ⟨rfl, hb3⟩
      go_wp2_with fail
      go_ret
      exact ⟨ret_b (by simp at h; unfold badB; rw [h1]; have : decide (m.p < 0 ∨ 1000 < m.p) = false := by simp; omega
                       rw [this]; simp), bup (bup hB hb2) hb3⟩
    · have h1' : rangeB m.l0 m.l1 = false := by simpa using h1
      go_enter Tryz.func64, Tryz.ntmps64
      go_wp2_with fail
      refine (within1_c 0 1000 m.p _ _ (by simp) _).mono ?_
      rintro e w1 ⟨he, rfl⟩
      rw [h] at he
      subst he
      go_wp2_with fail
      refine (validContent_c _ _ _).mono ?_
      rintro e w2 ⟨he, hb2⟩
      rw [h1'] at he
      subst he
      go_wp2_with fail
      go_ret
      exact ⟨ret_b (by unfold badB; rw [h1']; simp), bup hB hb2⟩
  · have h' : decide (0 ≤ m.p ∧ m.p ≤ 1000) = false := by simpa using h
    go_enter Tryz.func64, Tryz.ntmps64
    go_wp2_with fail
    refine (within1_c 0 1000 m.p _ _ (by simp) _).mono ?_
    rintro e w1 ⟨he, rfl⟩
    rw [h'] at he
    subst he
    go_wp2_with fail
    go_ret
    exact ⟨ret_b (by
      have : decide (m.p < 0 ∨ 1000 < m.p) = true := by simp at h' ⊢; omega
      unfold badB; rw [this]; simp), hB⟩

set_option maxHeartbeats 1000000 in
theorem checkMetals_c (a : Option Addr) (len cap : Nat) (m : Nat → M5) (w : World) (hm : Metals w a len m) (hl : len ≤ 9223372036854775807) :
    Calls Tryz.prog 23 #[.slice a len cap] w fun e w' => e = .returned (.int .i64 (metalsE len m)) ∧ Below w.heap.size w w' := by
  have hB0 : Below w.heap.size w (w.alloc (.cells #[.int .i64 (len : Int)] 2)) := (Below.refl _ _).alloc (Nat.le_refl _) _
  by_cases h : decide ((1 : Int) ≤ len ∧ (len : Int) ≤ 6) = true
  · have hr : 1 ≤ len ∧ len ≤ 6 := by simp at h; omega
    go_enter Tryz.func23, Tryz.ntmps23
    go_wp2_with fail
    refine (within1_c 1 6 len _ _ rfl _).mono ?_
    rintro e w1 ⟨he, rfl⟩
    rw [h] at he
    subst he
    clear h
    go_wp2_with fail
    go_loopw [12] (fun i wr => ∃ k : Nat, k ≤ len ∧ i = .int .i64 k ∧ anyBad m k = false ∧ Below w.heap.size w wr) (fun i _ => len - (intOf i).toNat)
    case atStart => exact ⟨0, Nat.zero_le _, rfl, rfl, hB0⟩
    case round =>
      obtain ⟨k, hk, rfl, hbad, hB⟩ := hrel
      have Hb := Lib.hid hbad
      clear hbad
      by_cases hlt : k < len
      · obtain ⟨b, off, rfl, hbs, c0, c1, c2, c3, c4⟩ := Metals.at (hm.below hB) k hlt
        by_cases hbb : badB (m k) = true
        · go_wp2_with fail
          refine (validMetal_c (m k) _).mono ?_
          rintro e w2 ⟨he, hb2⟩
          rw [hbb] at he
          subst he
          go_wp2
          go_ret
          exact ⟨ret_i (by unfold metalsE; rw [if_neg (by omega), anyBad_of m k len hlt hbb]; rfl), bup (Below.alloc1 hB _ (Nat.le_refl _)) hb2⟩
        · have hbb' : badB (m k) = false := by simpa using hbb
          go_wp2_with fail
          refine (validMetal_c (m k) _).mono ?_
          rintro e w2 ⟨he, hb2⟩
          rw [hbb'] at he
          subst he
          go_wp2
          go_roundw
          case rel => exact ⟨k + 1, by omega, by go_num, by simp only [anyBad, Hb.out, hbb', Bool.or_self], bup (Below.alloc1 hB _ (Nat.le_refl _)) hb2⟩
          case measure => simp [intOf]; omega
      · go_wp2
        go_ret
        exact ⟨ret_i (by obtain rfl : k = len := by omega
                         unfold metalsE; rw [if_neg (by omega), Hb.out]; rfl), hB⟩
  · have h' : decide ((1 : Int) ≤ len ∧ (len : Int) ≤ 6) = false := by simpa using h
    go_enter Tryz.func23, Tryz.ntmps23
    go_wp2_with fail
    refine (within1_c 1 6 len _ _ rfl _).mono ?_
    rintro e w1 ⟨he, rfl⟩
    rw [h'] at he
    subst he
    go_wp2_with fail
    go_ret
    exact ⟨ret_i (by simp at h'; unfold metalsE; rw [if_pos (by omega)]), hB0⟩

end Go.Proofs.YtfjepnpnphoobaaGreat
