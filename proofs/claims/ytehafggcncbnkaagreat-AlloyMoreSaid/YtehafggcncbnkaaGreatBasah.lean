/- Contracts of porringerref01: CheckProof, CheckNever. -/
import Derived.Test.YtehafggcncbnkaaGreatProg
import Derived.Test.YtehafggcncbnkaaGreatBasaa
import Derived.Test.YtehafggcncbnkaaGreatBasae
import Derived.Test.YtehafggcncbnkaaGreatBasag
import Derived.RangeFuncNested
import Derived.RangeFuncCalls
import Derived.RangeFuncLeaves
namespace Go.Proofs.YtehafggcncbnkaaGreat
open Go.RowKit

set_option maxHeartbeats 2000000 in
theorem rcheckNever_c (a : Option Addr) (n cap : Nat) (m : Nat → M5) (l c : Int) (s : Bool) (p : P4) (w : World) (hm : Metals w a n m) (hn : n ≤ 1048576) :
    Calls Tryz.prog 38 #[.slice a n cap, .agg #[.int .i64 l, .int .i64 c], .bool s, proofV p] w fun e w' => e = .returned (.int .i64 (checkNeverE n m l c s p)) ∧ Below w.heap.size w w' := by
  obtain ⟨W, hW⟩ : ∃ W, (w.alloc (.cells #[.int .i64 l, .int .i64 c] 24)).alloc (.cells #[.int .i64 p.d, .int .i64 p.b, .int .i64 p.l, .int .i64 p.c] 45) = W := ⟨_, rfl⟩
  have hB0 : Below w.heap.size w W := by rw [← hW]; exact Below.alloc1 (Below.alloc1 (Below.refl _ _) _ (Nat.le_refl _)) _ (Nat.le_refl _)
  have c5 : W.cell? ⟨w.heap.size, 0, none⟩ = some (.int .i64 l) := by rw [← hW]; simp
  have c6 : W.cell? ⟨w.heap.size, 1, none⟩ = some (.int .i64 c) := by rw [← hW]; simp
  have q0 : W.cell? ⟨w.heap.size + 1, 0, none⟩ = some (.int .i64 p.d) := by rw [← hW]; simp
  have q1 : W.cell? ⟨w.heap.size + 1, 1, none⟩ = some (.int .i64 p.b) := by rw [← hW]; simp
  have q2 : W.cell? ⟨w.heap.size + 1, 2, none⟩ = some (.int .i64 p.l) := by rw [← hW]; simp
  have q3 : W.cell? ⟨w.heap.size + 1, 3, none⟩ = some (.int .i64 p.c) := by rw [← hW]; simp
  have hz1 : w.heap.size + 1 < W.heap.size := by rw [← hW]; simp
  have hz0 : w.heap.size < W.heap.size := by omega
  have hm0 := hm.below hB0
  clear hm
  by_cases h0 : bothE n m l c = 0
  · have h0' : (bothE n m l c != 0) = false := by simp [h0]
    obtain ⟨hM, ht⟩ := both_ok h0
    have HFine := Lib.hid (fine_of hM)
    have H0 := Lib.hid h0
    clear h0 hM
    by_cases h1 : p.d = 0
    · have h1' : (p.d != 0) = false := by simp [h1]
      have hd : 0 ≤ p.d ∧ p.d ≤ 1073741824 := by omega
      have H1 := Lib.hid h1
      clear h1
      by_cases h2 : isProofB p = true
      · by_cases h3 : holdsB s m p n = true
        · by_cases h4 : valueR l c p ≤ 0
          all_goals
            go_enter Tryz.func38, Tryz.ntmps38
            go_wp2_with fail
            clear hW
            refine (rboth_c a n cap m l c _ hm0 (by omega)).mono ?_
            rintro e w1 ⟨rfl, hb1⟩
            obtain ⟨hc1, hff1⟩ := bcell hb1
            have hy1 := hb1.size
            go_wp2_with fail
            refine (risProof_c p _).mono ?_
            rintro e w2 ⟨rfl, hb2⟩
            have hb12 := bup hb1 hb2
            clear hc1 hff1
            obtain ⟨hc2, hff2⟩ := bcell hb12
            have hy2 := hb12.size
            go_wp2_with fail
            refine (rholds_c a n cap m s p _ (hm0.below hb12) HFine.out h2 hd).mono ?_
            rintro e w3 ⟨rfl, hb3⟩
            have hb13 := bup hb12 hb3
            clear hc2 hff2
            obtain ⟨hc3, hff3⟩ := bcell hb13
            have hy3 := hb13.size
            go_wp2_with fail
            refine (rvalueOf_c p l c _ h2 ht).mono ?_
            rintro e w4 ⟨rfl, hb4⟩
            go_wp2_with fail
            go_ret
            exact ⟨ret_i (by unfold checkNeverE; rw [if_neg (by simp [H0.out]), if_neg (by simp [H1.out, h2])]; simp [h3, h4]), bup (bup hB0 hb13) hb4⟩
        · go_enter Tryz.func38, Tryz.ntmps38
          go_wp2_with fail
          clear hW
          refine (rboth_c a n cap m l c _ hm0 (by omega)).mono ?_
          rintro e w1 ⟨rfl, hb1⟩
          obtain ⟨hc1, hff1⟩ := bcell hb1
          have hy1 := hb1.size
          go_wp2_with fail
          refine (risProof_c p _).mono ?_
          rintro e w2 ⟨rfl, hb2⟩
          have hb12 := bup hb1 hb2
          clear hc1 hff1
          obtain ⟨hc2, hff2⟩ := bcell hb12
          have hy2 := hb12.size
          go_wp2_with fail
          refine (rholds_c a n cap m s p _ (hm0.below hb12) HFine.out h2 hd).mono ?_
          rintro e w3 ⟨rfl, hb3⟩
          have h3' : holdsB s m p n = false := by simpa using h3
          go_wp2_with fail
          go_ret
          exact ⟨ret_i (by unfold checkNeverE; rw [if_neg (by simp [H0.out]), if_neg (by simp [H1.out, h2])]; simp [h3']), bup hB0 (bup hb12 hb3)⟩
      · have h2' : isProofB p = false := by simpa using h2
        go_enter Tryz.func38, Tryz.ntmps38
        go_wp2_with fail
        clear hW
        refine (rboth_c a n cap m l c _ hm0 (by omega)).mono ?_
        rintro e w1 ⟨rfl, hb1⟩
        obtain ⟨hc1, hff1⟩ := bcell hb1
        have hy1 := hb1.size
        go_wp2_with fail
        refine (risProof_c p _).mono ?_
        rintro e w2 ⟨rfl, hb2⟩
        go_wp2_with fail
        go_ret
        exact ⟨ret_i (by unfold checkNeverE; rw [if_neg (by simp [H0.out]), if_pos (by simp [h2'])]), bup hB0 (bup hb1 hb2)⟩
    · have h1' : (p.d != 0) = true := by simp [h1]
      go_enter Tryz.func38, Tryz.ntmps38
      go_wp2_with fail
      clear hW
      refine (rboth_c a n cap m l c _ hm0 (by omega)).mono ?_
      rintro e w1 ⟨rfl, hb1⟩
      obtain ⟨hc1, hff1⟩ := bcell hb1
      have hy1 := hb1.size
      go_wp2_with fail
      go_ret
      exact ⟨ret_i (by unfold checkNeverE; rw [if_neg (by simp [H0.out]), if_pos (by simp [h1])]), bup hB0 hb1⟩
  · have h0' : (bothE n m l c != 0) = true := by simp [h0]
    have H0 := Lib.hid h0
    clear h0
    go_enter Tryz.func38, Tryz.ntmps38
    go_wp2_with fail
    clear hW
    refine (rboth_c a n cap m l c _ hm0 (by omega)).mono ?_
    rintro e w1 ⟨rfl, hb1⟩
    obtain ⟨hc1, hff1⟩ := bcell hb1
    have hy1 := hb1.size
    go_wp2_with fail
    refine (rboth_c a n cap m l c _ (hm0.below hb1) (by omega)).mono ?_
    rintro e w2 ⟨rfl, hb2⟩
    go_wp2_with fail
    go_ret
    exact ⟨ret_i (by unfold checkNeverE; rw [if_pos H0.out]), bup hB0 (bup hb1 hb2)⟩

set_option maxHeartbeats 2000000 in
theorem rcheckProof_c (a : Option Addr) (n cap : Nat) (m : Nat → M5) (l c : Int) (s : Bool) (p : P4) (w : World) (hm : Metals w a n m) (hn : n ≤ 1048576) :
    Calls Tryz.prog 34 #[.slice a n cap, .agg #[.int .i64 l, .int .i64 c], .bool s, proofV p] w fun e w' => e = .returned (re2 (checkProofR n m l c s p)) ∧ Below w.heap.size w w' := by
  obtain ⟨W, hW⟩ : ∃ W, ((w.alloc (.cells #[.int .i64 l, .int .i64 c] 24)).alloc (.cells #[.int .i64 p.d, .int .i64 p.b, .int .i64 p.l, .int .i64 p.c] 45)).alloc (.cells #[.int .i64 0, .int .i64 0] 29) = W := ⟨_, rfl⟩
  have hB0 : Below w.heap.size w W := by rw [← hW]; exact Below.alloc1 (Below.alloc1 (Below.alloc1 (Below.refl _ _) _ (Nat.le_refl _)) _ (Nat.le_refl _)) _ (Nat.le_refl _)
  have hT0 : RowIs W w.heap.size #[.int .i64 l, .int .i64 c] 24 := by rw [← hW]; exact RowIs.alloc (RowIs.alloc (heap_new_at _ _ _ rfl) _) _
  have hP0 : RowIs W (w.heap.size + 1) #[.int .i64 p.d, .int .i64 p.b, .int .i64 p.l, .int .i64 p.c] 45 := by rw [← hW]; exact RowIs.alloc (heap_new_at _ _ _ (by simp)) _
  have c5 := hT0.cell 0
  have c6 := hT0.cell 1
  have q0 := hP0.cell 0
  have q1 := hP0.cell 1
  have q2 := hP0.cell 2
  have q3 := hP0.cell 3
  simp at c5 c6 q0 q1 q2 q3
  clear hT0 hP0
  have hr0 : RowIs W (w.heap.size + 2) #[.int .i64 0, .int .i64 0] 29 := by rw [← hW]; exact heap_new_at _ _ _ (by simp)
  have hz2 : w.heap.size + 2 < W.heap.size := by rw [← hW]; simp
  have hz1 : w.heap.size + 1 < W.heap.size := by omega
  have hz0 : w.heap.size < W.heap.size := by omega
  have hm0 := hm.below hB0
  have HR := Lib.hid hr0
  clear hm hr0
  by_cases h0 : bothE n m l c = 0
  · have h0' : (bothE n m l c != 0) = false := by simp [h0]
    obtain ⟨hM, ht⟩ := both_ok h0
    have HFine := Lib.hid (fine_of hM)
    have H0 := Lib.hid h0
    clear h0 hM
    by_cases h1 : p.d < 1
    · have h1' : decide (p.d < 1) = true := by simp [h1]
      have ev : checkProofR n m l c s p = (0, 0, 3) := by unfold checkProofR; rw [if_neg (by simp [H0.out]), if_pos (Or.inl (Or.inl h1))]
      rw [ev]
      clear ev
      go_enter Tryz.func34, Tryz.ntmps34
      go_wp2_with fail
      clear hW
      refine (rboth_c a n cap m l c _ hm0 (by omega)).mono ?_
      rintro e w1 ⟨rfl, hb1⟩
      obtain ⟨hc1, hff1⟩ := bcell hb1
      have hy1 := hb1.size
      have e0 := (hc1 _ 0 hz1).trans q0
      have y1 := Nat.lt_of_lt_of_le hz1 hy1
      clear hc1 hff1
      have hr1 : RowIs w1 (w.heap.size + 2) _ _ := (hb1.block _ hz2).trans HR.out
      have r0 := hr1.cell 0
      have r1 := hr1.cell 1
      have z0 := hr1.frozen 0
      have z1 := hr1.frozen 1
      simp at r0 r1
      clear hr1
      go_wp2_with fail
      refine bodyPost_ret (v := re2 (0, 0, 3)) (by simp [results, Tryz.results34, go_sem, r0, r1]) rfl ⟨rfl, ?_⟩
      exact ((bup hB0 hb1).setCell (p := ⟨w.heap.size + 2, 0, none⟩) (Nat.le_add_right _ _) _).setCell (p := ⟨w.heap.size + 2, 1, none⟩) (Nat.le_add_right _ _) _
    · have h1' : decide (p.d < 1) = false := by simp [h1]
      by_cases h1a : 1073741824 < p.d
      · have h1a' : decide (1073741824 < p.d) = true := by simp [h1a]
        have ev : checkProofR n m l c s p = (0, 0, 3) := by unfold checkProofR; rw [if_neg (by simp [H0.out]), if_pos (Or.inl (Or.inr h1a))]
        rw [ev]
        clear ev
        go_enter Tryz.func34, Tryz.ntmps34
        go_wp2_with fail
        clear hW
        refine (rboth_c a n cap m l c _ hm0 (by omega)).mono ?_
        rintro e w1 ⟨rfl, hb1⟩
        obtain ⟨hc1, hff1⟩ := bcell hb1
        have hy1 := hb1.size
        have e0 := (hc1 _ 0 hz1).trans q0
        have y1 := Nat.lt_of_lt_of_le hz1 hy1
        clear hc1 hff1
        have hr1 : RowIs w1 (w.heap.size + 2) _ _ := (hb1.block _ hz2).trans HR.out
        have r0 := hr1.cell 0
        have r1 := hr1.cell 1
        have z0 := hr1.frozen 0
        have z1 := hr1.frozen 1
        simp at r0 r1
        clear hr1
        go_wp2_with fail
        refine bodyPost_ret (v := re2 (0, 0, 3)) (by simp [results, Tryz.results34, go_sem, r0, r1]) rfl ⟨rfl, ?_⟩
        exact ((bup hB0 hb1).setCell (p := ⟨w.heap.size + 2, 0, none⟩) (Nat.le_add_right _ _) _).setCell (p := ⟨w.heap.size + 2, 1, none⟩) (Nat.le_add_right _ _) _
      · have h1a' : decide (1073741824 < p.d) = false := by simp [h1a]
        have hd : 0 ≤ p.d ∧ p.d ≤ 1073741824 := by omega
        by_cases h2 : isProofB p = true
        · by_cases h3 : holdsB s m p n = true
          · have ev : checkProofR n m l c s p = (ratN (valueR l c p) p.d, ratD (valueR l c p) p.d, 0) := by
              unfold checkProofR; rw [if_neg (by simp [H0.out]), if_neg (by rw [h2]; simp; omega), if_neg (by simp [h3])]
            rw [ev]
            have hvb : -4611686018427387904 ≤ valueR l c p ∧ valueR l c p ≤ 4611686018427387904 := by
              have hb := isProof_bd h2
              have h1 := mul_bd hb.2.2.1 hb.2.2.2.1 ht.1 ht.2.1
              have h2 := mul_bd hb.2.2.2.2.1 hb.2.2.2.2.2 ht.2.2.1 ht.2.2.2
              unfold valueR; omega
            go_enter Tryz.func34, Tryz.ntmps34
            go_wp2_with fail
            clear hW ev
            refine (rboth_c a n cap m l c _ hm0 (by omega)).mono ?_
            rintro e w1 ⟨rfl, hb1⟩
            obtain ⟨hc1, hff1⟩ := bcell hb1
            have hy1 := hb1.size
            go_wp2_with fail
            refine (risProof_c p _).mono ?_
            rintro e w2 ⟨rfl, hb2⟩
            have hb12 := bup hb1 hb2
            clear hc1 hff1
            obtain ⟨hc2, hff2⟩ := bcell hb12
            have hy2 := hb12.size
            go_wp2_with fail
            refine (rholds_c a n cap m s p _ (hm0.below hb12) HFine.out h2 hd).mono ?_
            rintro e w3 ⟨rfl, hb3⟩
            have hb13 := bup hb12 hb3
            clear hc2 hff2
            obtain ⟨hc3, hff3⟩ := bcell hb13
            have hy3 := hb13.size
            have d5 := (hc3 _ 0 hz0).trans c5
            have d6 := (hc3 _ 1 hz0).trans c6
            have e0 := (hc3 _ 0 hz1).trans q0
            have e1 := (hc3 _ 1 hz1).trans q1
            have e2 := (hc3 _ 2 hz1).trans q2
            have e3 := (hc3 _ 3 hz1).trans q3
            clear hc3 hff3 c5 c6 q0 q1 q2 q3
            have y0 := Nat.lt_of_lt_of_le hz0 hy3
            have y1 := Nat.lt_of_lt_of_le hz1 hy3
            have hr3 : RowIs w3 (w.heap.size + 2) _ _ := (hb13.block _ hz2).trans HR.out
            have HR3 := Lib.hid hr3
            have hz3 : w.heap.size + 2 < w3.heap.size := by omega
            clear hr3 HR
            go_wp2_with fail
            have hlc := fun (x : Later w3) => later_cell x
            refine wp_region_later_tail 6 (by kernel_rfl) (by kernel_rfl) ?_
            simp only [List.take_succ_cons, List.take_zero, List.drop_succ_cons, List.drop_zero]
            repeat (go_big_quiet_step ((first | (refine calls_later (rvalueOf_c p l c _ h2 ht)) | (refine calls_later (by_c (valueR l c p) p.d _ hvb.1 hvb.2 (by omega) (by omega))))))
            refine wpQuiet_nil ?_
            clear hlc
            rintro ⟨w4, hb4⟩
            have hr4 : RowIs w4 (w.heap.size + 2) _ _ := (hb4.block _ hz3).trans HR3.out
            have r0 := hr4.cell 0
            have r1 := hr4.cell 1
            have z0 := hr4.frozen 0
            have z1 := hr4.frozen 1
            simp at r0 r1
            clear hr4
            go_wp2_with fail
            refine bodyPost_ret (v := re2 (ratN (valueR l c p) p.d, ratD (valueR l c p) p.d, 0)) (by simp [results, Tryz.results34, go_sem, r0, r1]) rfl ⟨rfl, ?_⟩
            exact ((bup hB0 (bup hb13 hb4)).setCell (p := ⟨w.heap.size + 2, 0, none⟩) (Nat.le_add_right _ _) _).setCell (p := ⟨w.heap.size + 2, 1, none⟩) (Nat.le_add_right _ _) _
          · have h3' : holdsB s m p n = false := by simpa using h3
            have ev : checkProofR n m l c s p = (0, 0, 14) := by unfold checkProofR; rw [if_neg (by simp [H0.out]), if_neg (by rw [h2]; simp; omega), if_pos h3']
            rw [ev]
            clear ev
            go_enter Tryz.func34, Tryz.ntmps34
            go_wp2_with fail
            clear hW
            refine (rboth_c a n cap m l c _ hm0 (by omega)).mono ?_
            rintro e w1 ⟨rfl, hb1⟩
            obtain ⟨hc1, hff1⟩ := bcell hb1
            have hy1 := hb1.size
            go_wp2_with fail
            refine (risProof_c p _).mono ?_
            rintro e w2 ⟨rfl, hb2⟩
            have hb12 := bup hb1 hb2
            clear hc1 hff1
            obtain ⟨hc2, hff2⟩ := bcell hb12
            have hy2 := hb12.size
            go_wp2_with fail
            refine (rholds_c a n cap m s p _ (hm0.below hb12) HFine.out h2 hd).mono ?_
            rintro e w3 ⟨rfl, hb3⟩
            have hb13 := bup hb12 hb3
            have hy3 := hb13.size
            have hr1 : RowIs w3 (w.heap.size + 2) _ _ := (hb13.block _ hz2).trans HR.out
            have r0 := hr1.cell 0
            have r1 := hr1.cell 1
            have z0 := hr1.frozen 0
            have z1 := hr1.frozen 1
            simp at r0 r1
            clear hr1
            go_wp2_with fail
            refine bodyPost_ret (v := re2 (0, 0, 14)) (by simp [results, Tryz.results34, go_sem, r0, r1]) rfl ⟨rfl, ?_⟩
            exact ((bup hB0 hb13).setCell (p := ⟨w.heap.size + 2, 0, none⟩) (Nat.le_add_right _ _) _).setCell (p := ⟨w.heap.size + 2, 1, none⟩) (Nat.le_add_right _ _) _
        · have h2' : isProofB p = false := by simpa using h2
          have ev : checkProofR n m l c s p = (0, 0, 3) := by unfold checkProofR; rw [if_neg (by simp [H0.out]), if_pos (Or.inr h2')]
          rw [ev]
          clear ev
          go_enter Tryz.func34, Tryz.ntmps34
          go_wp2_with fail
          clear hW
          refine (rboth_c a n cap m l c _ hm0 (by omega)).mono ?_
          rintro e w1 ⟨rfl, hb1⟩
          obtain ⟨hc1, hff1⟩ := bcell hb1
          have hy1 := hb1.size
          go_wp2_with fail
          refine (risProof_c p _).mono ?_
          rintro e w2 ⟨rfl, hb2⟩
          have hb12 := bup hb1 hb2
          have hy2 := hb12.size
          have hr1 : RowIs w2 (w.heap.size + 2) _ _ := (hb12.block _ hz2).trans HR.out
          have r0 := hr1.cell 0
          have r1 := hr1.cell 1
          have z0 := hr1.frozen 0
          have z1 := hr1.frozen 1
          simp at r0 r1
          clear hr1
          go_wp2_with fail
          refine bodyPost_ret (v := re2 (0, 0, 3)) (by simp [results, Tryz.results34, go_sem, r0, r1]) rfl ⟨rfl, ?_⟩
          exact ((bup hB0 hb12).setCell (p := ⟨w.heap.size + 2, 0, none⟩) (Nat.le_add_right _ _) _).setCell (p := ⟨w.heap.size + 2, 1, none⟩) (Nat.le_add_right _ _) _
  · have h0' : (bothE n m l c != 0) = true := by simp [h0]
    have ev : checkProofR n m l c s p = (0, 0, bothE n m l c) := by unfold checkProofR; rw [if_pos h0]
    rw [ev]
    clear h0 ev
    go_enter Tryz.func34, Tryz.ntmps34
    go_wp2_with fail
    clear hW
    refine (rboth_c a n cap m l c _ hm0 (by omega)).mono ?_
    rintro e w1 ⟨rfl, hb1⟩
    obtain ⟨hc1, hff1⟩ := bcell hb1
    have hy1 := hb1.size
    go_wp2_with fail
    refine (rboth_c a n cap m l c _ (hm0.below hb1) (by omega)).mono ?_
    rintro e w2 ⟨rfl, hb2⟩
    have hb12 := bup hb1 hb2
    have hy2 := hb12.size
    have hr1 : RowIs w2 (w.heap.size + 2) _ _ := (hb12.block _ hz2).trans HR.out
    have r0 := hr1.cell 0
    have r1 := hr1.cell 1
    have z0 := hr1.frozen 0
    have z1 := hr1.frozen 1
    simp at r0 r1
    clear hr1
    go_wp2_with fail
    refine bodyPost_ret (v := re2 (0, 0, bothE n m l c)) (by simp [results, Tryz.results34, go_sem, r0, r1]) rfl ⟨rfl, ?_⟩
    exact ((bup hB0 hb12).setCell (p := ⟨w.heap.size + 2, 0, none⟩) (Nat.le_add_right _ _) _).setCell (p := ⟨w.heap.size + 2, 1, none⟩) (Nat.le_add_right _ _) _

end Go.Proofs.YtehafggcncbnkaaGreat

namespace Go.Proofs.YtehafggcncbnkaaGreat
open Go Go.RowKit

/-- What a round leaves as it lay: the blocks of K, and those from D on. -/
structure Spares (K : Nat → Prop) (D : Nat) (A B : World) : Prop where
  size : A.heap.size ≤ B.heap.size
  block : ∀ k, k < A.heap.size → (K k ∨ D ≤ k) → B.heap[k]? = A.heap[k]?

theorem Spares.refl (K : Nat → Prop) (D : Nat) (A : World) : Spares K D A A := ⟨Nat.le_refl _, fun _ _ _ => rfl⟩
theorem Spares.trans {K : Nat → Prop} {D : Nat} {A B C : World} (h : Spares K D A B) (k : Spares K D B C) : Spares K D A C :=
  ⟨Nat.le_trans h.size k.size, fun i hi hK => (k.block i (Nat.lt_of_lt_of_le hi h.size) hK).trans (h.block i hi hK)⟩
theorem Spares.of_below {K : Nat → Prop} {D : Nat} {A B : World} (h : Below A.heap.size A B) : Spares K D A B := ⟨h.size, fun i hi _ => h.block i hi⟩
theorem Spares.mono {K K' : Nat → Prop} {D D' : Nat} {A B : World} (h : Spares K D A B) (hK : ∀ k, K' k → K k ∨ D ≤ k) (hD : D ≤ D') : Spares K' D' A B :=
  ⟨h.size, fun i hi hk => h.block i hi (hk.elim (hK i) fun h => .inr (Nat.le_trans hD h))⟩
theorem Spares.put {K : Nat → Prop} {D r : Nat} {A : World} (o : Obj) (hK : ¬ K r) (hr : r < D) : Spares K D A (A.putObj r o) :=
  ⟨by simp, fun i _ h => World.putObj_heap_other (fun e => by subst e; exact h.elim hK (by omega))⟩

theorem below_put {D r : Nat} {A : World} (o : Obj) (hr : D ≤ r) : Below D A (A.putObj r o) :=
  ⟨rfl, rfl, rfl, by simp, fun k hk => World.putObj_heap_other (by omega)⟩

/-- An iterator that reads the blocks of K alone, and yields the list L. -/
def Gives (P : Program) (gf : Nat) (first lb : Array Value) (K : Nat → Prop) (L : List (Array Value)) (w : World) : Prop :=
  ∀ (l : Nat) (J Jx : Nat → World → Prop) (W : World),
    (∀ k, K k → k < w.heap.size ∧ W.heap[k]? = w.heap[k]?) → w.heap.size ≤ W.heap.size →
    (∀ k A B, J k A → Below W.heap.size A B → J k B) → (∀ k A B, Jx k A → Below W.heap.size A B → Jx k B) →
    (∀ k (h : k < L.length) A, W.heap.size ≤ A.heap.size → J k A → YieldAt Fence.wide 0 P l L[k] A fun e B => (e = .returned (.bool true) ∧ J (k + 1) B ∧ Spares K W.heap.size A B) ∨ (e = .returned (.bool false) ∧ Jx (k + 1) B ∧ Spares K W.heap.size A B)) →
    J 0 W →
    Calls P gf (first ++ #[.func (.yield l) #[] #[]] ++ lb) W fun e B => (∃ v, e = .returned v) ∧ (J L.length B ∨ ∃ k, Jx k B)

theorem Gives.later {P : Program} {gf : Nat} {first lb : Array Value} {K : Nat → Prop} {L : List (Array Value)} {w w' : World} (h : Gives P gf first lb K L w) (hK : ∀ k, K k → k < w.heap.size)
    (hs : w.heap.size ≤ w'.heap.size) (hb : ∀ k, K k → w'.heap[k]? = w.heap[k]?) : Gives P gf first lb K L w' :=
  fun l J Jx W hW hz hJ hJx hY h0 => h l J Jx W (fun k hk => ⟨hK k hk, (hW k hk).2.trans (hb k hk)⟩) (Nat.le_trans hs hz) hJ hJx hY h0

theorem round_any {F : Fence} {n m : Nat} {P : Program} {l : Nat} {f : FuncId} {tmps : Array Value} {assign body : Code} {w : World} {R : Ending → World → Prop} (hd : F.depth = none)
    (h : RoundIn F n P l f tmps assign body w R) : RoundIn F m P l f tmps assign body w R :=
  ⟨h.1, fun c cs _ => h.2 c cs fun d e => by rw [hd] at e; cases e⟩

/-- How the body of a round may be left. -/
def roundQ (K : Nat → Prop) (b : Nat) (I : Nat → World → Prop) (Ix : Code → Nat → World → Prop) (k : Nat) (A : World) : Exit → Act → World → Prop
  | .normal, _, B => Spares K b A B ∧ I (k + 1) B
  | .ret, _, B => Spares K b A B ∧ Ix .ret (k + 1) B
  | .exit id, _, B => Spares K b A B ∧ Ix (.exit id) (k + 1) B
  | .goto t, _, B => Spares K b A B ∧ Ix (.goto t) (k + 1) B
  | .panic _, _, _ => False
  | .outgrown, _, _ => False

/-- A loop over an iterator, in a function that stands in no round. -/
theorem wpIn_rangeL {n : Nat} {P : Program} {g : Operand} {ps : Array Tmp} {assign body : Code} {Q : Exit → Act → World → Prop} {a : Act} {w : World} {gf : Nat} {first lb : Array Value} {K : Nat → Prop} {L : List (Array Value)}
    (hg : a.eval g = .func (.func gf) first lb) (eg : ∀ args w, (callFunc gf args).run P w = .ok (.enter gf args) w)
    (hseq : Gives P gf first lb K L w) (hK : ∀ k, K k → k < w.heap.size) (hps : ∀ k (_ : k < L.length), L[k].size = ps.size)
    (I : Nat → World → Prop) (Ix : Code → Nat → World → Prop) (hI : ∀ k A B, I k A → Below w.heap.size A B → I k B) (hIx : ∀ c k A B, Ix c k A → Below w.heap.size A B → Ix c k B) (h0 : I 0 w)
    (Ax : Nat → Act → World → Prop) (hAx : ∀ k a' A o, Ax k a' A → Ax k a' (A.putObj (w.heap.size + 1) o))
    (hassign : ∀ (l k : Nat) (_ : k < L.length) (A : World) (T : Act → World → Prop), w.heap.size + 2 ≤ A.heap.size → I k A → (∀ a' A', Below A.heap.size A A' → Ax k a' A' → T a' A') →
      assign.wpIn (Fence.wide.inRound l) n P (Exit.then T (fun _ _ _ => False)) { tmps := (ps.zip L[k]).foldl (fun t (p, v) => t.setIfInBounds p v) a.tmps, defers := [] } A)
    (hbody : ∀ (l k : Nat) (_ : k < L.length) (a' : Act) (A : World), w.heap.size + 2 ≤ A.heap.size → I k A → Ax k a' A → body.wpIn (Fence.wide.inRound l) n P (roundQ K w.heap.size I Ix k A) a' A)
    (hdone : ∀ B : World, w.heap.size + 2 ≤ B.heap.size → I L.length B → B.heap[w.heap.size]? = some (.deferred (some [])) → Q .normal { a with defers := { target := .collected w.heap.size, args := #[] } :: a.defers } B)
    (hstop : ∀ (c : Code) (k : Nat) (B : World), w.heap.size + 2 ≤ B.heap.size → Ix c k B → B.heap[w.heap.size]? = some (.deferred (some [])) → c.wpIn Fence.wide n P Q { a with defers := { target := .collected w.heap.size, args := #[] } :: a.defers } B) :
    (Code.rangeFunc g ps assign body).wpIn Fence.wide n P Q a w := by
  refine wpIn_rangeFunc fun fn _ => ?_
  obtain ⟨b, hb⟩ : ∃ b, w.heap.size = b := ⟨_, rfl⟩
  obtain ⟨record, hrec⟩ : ∃ record : LoopState → Option Code → Loop, record = fun st pe => { state := st, pending := pe, fn, tmps := a.tmps, params := ps, assign, body, defers := b } := ⟨_, rfl⟩
  obtain ⟨W, hW⟩ : ∃ W, (w.alloc (.deferred (some []))).alloc (.loop (record .ready none)) = W := ⟨_, rfl⟩
  have hWl : W.heap[b + 1]? = some (.loop (record .ready none)) := by
    rw [← hW, ← hb]
    have := World.alloc_heap_new (w.alloc (.deferred (some []))) (.loop (record .ready none))
    rwa [World.size_alloc] at this
  have hWd : W.heap[b]? = some (.deferred (some [])) := by
    rw [← hW, ← hb]
    exact (Below.heap_alloc _ _ _ (by simp)).trans (World.alloc_heap_new w _)
  have hWz : W.heap.size = b + 2 := by rw [← hW]; simp [hb]
  have hWb : Below b w W := by
    rw [← hW, ← hb]
    exact ((Below.refl _ w).alloc (Nat.le_refl _) _).alloc (by simp) _
  rw [hb] at hI hIx hAx hassign hbody hdone hstop hK
  -- what lies between two rounds
  let J : Nat → World → Prop := fun k A => I k A ∧ A.heap[b + 1]? = some (.loop (record .ready none)) ∧ A.heap[b]? = some (.deferred (some [])) ∧ b + 2 ≤ A.heap.size
  let Jx : Nat → World → Prop := fun k A => ∃ c, Ix c k A ∧ A.heap[b + 1]? = some (.loop (record .done (some c))) ∧ A.heap[b]? = some (.deferred (some [])) ∧ b + 2 ≤ A.heap.size
  refine ⟨b + 1, [{ target := .collected b, args := #[] }], W, { target := .fn (.func gf) lb, args := first ++ #[.func (.yield (b + 1)) #[] #[]] }, W, gf, first ++ #[.func (.yield (b + 1)) #[] #[]] ++ lb, W, ?_, ?_, fun _ _ => trivial, ?_, fun h => by simp [Fence.wide] at h, ?_⟩
  · rw [← hW, hrec, ← hb]
    exact run_enterLoop_outer _ _ _ _ _
  · simp only [resolve, hg]
    simp [go_sem]
  · simp [invoke, go_sem, eg]
  refine callsIn_wide.2 ((hseq (b + 1) J Jx W ?_ (by omega) ?_ ?_ ?_ ?_).mono ?_)
  · intro k hk
    have := hK k hk
    exact ⟨by omega, hWb.block k this⟩
  · rintro k A B ⟨h1, h2, h3, h4⟩ hAB
    rw [hWz] at hAB
    exact ⟨hI k A B h1 (hAB.mono (by omega)), (hAB.block _ (by omega)).trans h2, (hAB.block _ (by omega)).trans h3, Nat.le_trans h4 hAB.size⟩
  · rintro k A B ⟨c, h1, h2, h3, h4⟩ hAB
    rw [hWz] at hAB
    exact ⟨c, hIx c k A B h1 (hAB.mono (by omega)), (hAB.block _ (by omega)).trans h2, (hAB.block _ (by omega)).trans h3, Nat.le_trans h4 hAB.size⟩
  · rintro k hk A _ ⟨h1, h2, h3, h4⟩
    have hy := run_yield (P := P) (args := L[k]) h2 (by rw [hrec]; exact hps k hk)
    rw [hrec] at hy
    refine ⟨fn, _, assign, body, hy, round_any (n := n) rfl (roundIn_of_wpIn trivial (hassign _ k hk A _ h4 h1 ?_))⟩
    intro a' A' hAA hax
    have hz' := hAA.size
    have h2' : A'.heap[b + 1]? = some (.loop (record .ready none)) := (hAA.block _ (by omega)).trans h2
    have h3' : A'.heap[b]? = some (.deferred (some [])) := (hAA.block _ (by omega)).trans h3
    refine ⟨_, run_beginRound h2' (by rw [hrec]), ?_⟩
    obtain ⟨C, hC⟩ : ∃ C, A'.putObj (b + 1) (.loop { record .ready none with state := .busy }) = C := ⟨_, rfl⟩
    have hC2 : C.heap[b + 1]? = some (.loop { record .ready none with state := .busy }) := by rw [← hC]; exact World.putObj_heap_same (by omega)
    have hC3 : C.heap[b]? = some (.deferred (some [])) := by rw [← hC]; exact (World.putObj_heap_other (by omega)).trans h3'
    have hCz : C.heap.size = A'.heap.size := by rw [← hC]; simp
    have hCI : I k C := by
      rw [← hC]
      exact hI k _ _ (hI k _ _ h1 (hAA.mono (by omega))) (below_put _ (by omega))
    have hCx : Ax k a' C := by rw [← hC]; exact hAx k a' A' _ hax
    have hKb : ¬ K (b + 1) := fun h => by have := hK _ h; omega
    have hAC : Spares K (b + 2) A C := by
      rw [← hC]
      exact (Spares.of_below hAA).trans (Spares.put _ hKb (by omega))
    rw [hC]
    refine wpIn_mono (hbody _ k hk a' C (by omega) hCI hCx) ?_
    have fin : ∀ (jump : Option Code) (B : World), Spares K b C B →
        ∃ B', (Instr.endRound (b + 1) jump).run P B = .ok (.bool jump.isNone) B' ∧ B'.heap[b + 1]? = some (.loop (record (if jump.isNone then .ready else .done) jump)) ∧ B'.heap[b]? = some (.deferred (some [])) ∧
          b + 2 ≤ B'.heap.size ∧ Below b B B' ∧ Spares K (b + 2) A B' := fun jump B hCB => by
      have hBz := hCB.size
      have g2 : B.heap[b + 1]? = some (.loop { record .ready none with state := .busy }) := (hCB.block _ (by omega) (.inr (by omega))).trans hC2
      have g3 : B.heap[b]? = some (.deferred (some [])) := (hCB.block _ (by omega) (.inr (by omega))).trans hC3
      have hr := run_endRound (P := P) jump g2
      rw [hrec] at hr
      refine ⟨_, hr, ?_, (World.putObj_heap_other (by omega)).trans g3, by simp; omega, below_put _ (by omega), ?_⟩
      · rw [World.putObj_heap_same (by omega), hrec]
      · exact hAC.trans ((hCB.mono (fun k h => .inl h) (by omega)).trans (Spares.put _ hKb (by omega)))
    intro e a3 B hp
    cases e with
    | normal =>
      obtain ⟨hs, hi⟩ := hp
      obtain ⟨B', hr, f1, f2, f3, f4, f5⟩ := fin none B hs
      exact ⟨_, _, hr, .inl ⟨rfl, ⟨hI _ _ _ hi f4, f1, f2, f3⟩, by rw [hWz]; exact f5⟩⟩
    | ret =>
      obtain ⟨hs, hi⟩ := hp
      obtain ⟨B', hr, f1, f2, f3, f4, f5⟩ := fin (some .ret) B hs
      exact ⟨_, _, hr, .inr ⟨rfl, ⟨.ret, hIx _ _ _ _ hi f4, f1, f2, f3⟩, by rw [hWz]; exact f5⟩⟩
    | exit id =>
      obtain ⟨hs, hi⟩ := hp
      obtain ⟨B', hr, f1, f2, f3, f4, f5⟩ := fin (some (.exit id)) B hs
      exact ⟨_, _, hr, .inr ⟨rfl, ⟨.exit id, hIx _ _ _ _ hi f4, f1, f2, f3⟩, by rw [hWz]; exact f5⟩⟩
    | goto t =>
      obtain ⟨hs, hi⟩ := hp
      obtain ⟨B', hr, f1, f2, f3, f4, f5⟩ := fin (some (.goto t)) B hs
      exact ⟨_, _, hr, .inr ⟨rfl, ⟨.goto t, hIx _ _ _ _ hi f4, f1, f2, f3⟩, by rw [hWz]; exact f5⟩⟩
    | panic ch => exact hp.elim
    | outgrown => exact hp.elim
  · exact ⟨hI 0 _ _ h0 hWb, hWl, hWd, by omega⟩
  · rintro e B ⟨⟨v, rfl⟩, (⟨h1, h2, h3, h4⟩ | ⟨k, c, h1, h2, h3, h4⟩)⟩
    · refine ⟨none, _, (by have := run_endLoop (P := P) h2 (by rw [hrec]; simp); rw [hrec] at this; exact this), ?_⟩
      have := hdone (B.putObj (b + 1) (.loop (record .exhausted none))) (by simp; omega) (hI _ _ _ h1 (below_put _ (by omega))) ((World.putObj_heap_other (by omega)).trans h3)
      simpa [hrec] using this
    · refine ⟨some c, _, (by have := run_endLoop (P := P) h2 (by rw [hrec]; simp); rw [hrec] at this; exact this), ?_⟩
      have := hstop c k (B.putObj (b + 1) (.loop (record .exhausted (some c)))) (by simp; omega) (hIx _ _ _ _ h1 (below_put _ (by omega))) ((World.putObj_heap_other (by omega)).trans h3)
      simpa [hrec] using this

end Go.Proofs.YtehafggcncbnkaaGreat

namespace Go.Proofs.YtehafggcncbnkaaGreat
open Go.RowKit

def det3 (ax ay az bx b_y bz cx cy cz : Int) : Int := ax * (b_y * cz - bz * cy) - ay * (bx * cz - bz * cx) + az * (bx * cy - b_y * cx)
def minorR (a b c : U4) : Nat → Int
  | 0 => det3 a.p a.l a.c b.p b.l b.c c.p c.l c.c
  | 1 => det3 a.l a.c a.q b.l b.c b.q c.l c.c c.q
  | 2 => det3 a.c a.q a.p b.c b.q b.p c.c c.q c.p
  | _ => det3 a.q a.p a.l b.q b.p b.l c.q c.p c.l

/-- All numbers of a row are from -1000 to 1000. -/
def Near (u : U4) : Prop := (-1000 ≤ u.q ∧ u.q ≤ 1000) ∧ (-1000 ≤ u.p ∧ u.p ≤ 1000) ∧ (-1000 ≤ u.l ∧ u.l ≤ 1000) ∧ (-1000 ≤ u.c ∧ u.c ≤ 1000)

theorem mul_both {x y A B : Int} (hx : -A ≤ x ∧ x ≤ A) (hy : -B ≤ y ∧ y ≤ B) (hA : 0 ≤ A) (hB : 0 ≤ B) : -(A * B) ≤ x * y ∧ x * y ≤ A * B := by
  have h : (x * y).natAbs ≤ (A * B).natAbs := by
    rw [Int.natAbs_mul, Int.natAbs_mul]
    exact Nat.mul_le_mul (by omega) (by omega)
  have := Int.mul_nonneg hA hB
  omega

theorem mul_k {x y : Int} (hx : -1000 ≤ x ∧ x ≤ 1000) (hy : -1000 ≤ y ∧ y ≤ 1000) : -1000000 ≤ x * y ∧ x * y ≤ 1000000 := by
  have := mul_both (x := x) (y := y) (A := 1000) (B := 1000) (by omega) (by omega) (by omega) (by omega)
  omega

theorem det_part {a b c d e : Int} (ha : -1000 ≤ a ∧ a ≤ 1000) (hb : -1000 ≤ b ∧ b ≤ 1000) (hc : -1000 ≤ c ∧ c ≤ 1000) (hd : -1000 ≤ d ∧ d ≤ 1000) (he : -1000 ≤ e ∧ e ≤ 1000) :
    IntKind.i64.wrap (b * c) = b * c ∧ IntKind.i64.wrap (d * e) = d * e ∧ IntKind.i64.wrap (b * c - d * e) = b * c - d * e ∧ IntKind.i64.wrap (a * (b * c - d * e)) = a * (b * c - d * e) ∧
    -2000000000 ≤ a * (b * c - d * e) ∧ a * (b * c - d * e) ≤ 2000000000 := by
  have h1 := mul_k hb hc
  have h2 := mul_k hd he
  have h3 := mul_both (x := a) (y := b * c - d * e) (A := 1000) (B := 2000000) (by omega) (by omega) (by omega) (by omega)
  exact ⟨IntWalk.i64_in _ (by omega), IntWalk.i64_in _ (by omega), IntWalk.i64_in _ (by omega), IntWalk.i64_in _ (by omega), by omega, by omega⟩

theorem det_bd {ax ay az bx b_y bz cx cy cz : Int} (h1 : -1000 ≤ ax ∧ ax ≤ 1000) (h2 : -1000 ≤ ay ∧ ay ≤ 1000) (h3 : -1000 ≤ az ∧ az ≤ 1000) (h4 : -1000 ≤ bx ∧ bx ≤ 1000) (h5 : -1000 ≤ b_y ∧ b_y ≤ 1000)
    (h6 : -1000 ≤ bz ∧ bz ≤ 1000) (h7 : -1000 ≤ cx ∧ cx ≤ 1000) (h8 : -1000 ≤ cy ∧ cy ≤ 1000) (h9 : -1000 ≤ cz ∧ cz ≤ 1000) :
    -6000000000 ≤ det3 ax ay az bx b_y bz cx cy cz ∧ det3 ax ay az bx b_y bz cx cy cz ≤ 6000000000 := by
  obtain ⟨_, _, _, _, i1, i2⟩ := det_part h1 h5 h9 h6 h8
  obtain ⟨_, _, _, _, i3, i4⟩ := det_part h2 h4 h9 h6 h7
  obtain ⟨_, _, _, _, i5, i6⟩ := det_part h3 h4 h8 h5 h7
  unfold det3
  omega

theorem minor_bd {a b c : U4} (ha : Near a) (hb : Near b) (hc : Near c) (k : Nat) : -6000000000 ≤ minorR a b c k ∧ minorR a b c k ≤ 6000000000 := by
  obtain ⟨a0, a1, a2, a3⟩ := ha
  obtain ⟨b0, b1, b2, b3⟩ := hb
  obtain ⟨c0, c1, c2, c3⟩ := hc
  match k with
  | 0 => exact det_bd a1 a2 a3 b1 b2 b3 c1 c2 c3
  | 1 => exact det_bd a2 a3 a0 b2 b3 b0 c2 c3 c0
  | 2 => exact det_bd a3 a0 a1 b3 b0 b1 c3 c0 c1
  | k + 3 => exact det_bd a0 a1 a2 b0 b1 b2 c0 c1 c2

set_option maxRecDepth 100000 in
set_option maxHeartbeats 4000000 in
theorem minor_c (a b c : U4) (k : Nat) (hk : k < 4) (w : World) (ha : Near a) (hb : Near b) (hc : Near c) :
    Calls Tryz.prog 120 #[rowV a, rowV b, rowV c, .int .i64 k] w fun e w' => e = .returned (.int .i64 (minorR a b c k)) ∧ Below w.heap.size w w' := by
  obtain ⟨W, hW⟩ : ∃ W, ((w.alloc (.cells #[.int .i64 a.q, .int .i64 a.p, .int .i64 a.l, .int .i64 a.c] 92)).alloc (.cells #[.int .i64 b.q, .int .i64 b.p, .int .i64 b.l, .int .i64 b.c] 92)).alloc (.cells #[.int .i64 c.q, .int .i64 c.p, .int .i64 c.l, .int .i64 c.c] 92) = W := ⟨_, rfl⟩
  have hB0 : Below w.heap.size w W := by rw [← hW]; exact Below.alloc1 (Below.alloc1 (Below.alloc1 (Below.refl _ _) _ (Nat.le_refl _)) _ (Nat.le_refl _)) _ (Nat.le_refl _)
  have hA : RowIs W w.heap.size #[.int .i64 a.q, .int .i64 a.p, .int .i64 a.l, .int .i64 a.c] 92 := by rw [← hW]; exact RowIs.alloc (RowIs.alloc (heap_new_at _ _ _ rfl) _) _
  have hB : RowIs W (w.heap.size + 1) #[.int .i64 b.q, .int .i64 b.p, .int .i64 b.l, .int .i64 b.c] 92 := by rw [← hW]; exact RowIs.alloc (heap_new_at _ _ _ (by simp)) _
  have hC : RowIs W (w.heap.size + 2) #[.int .i64 c.q, .int .i64 c.p, .int .i64 c.l, .int .i64 c.c] 92 := by rw [← hW]; exact heap_new_at _ _ _ (by simp)
  have e0 := hA.cell 0
  have e1 := hA.cell 1
  have e2 := hA.cell 2
  have e3 := hA.cell 3
  have f0 := hB.cell 0
  have f1 := hB.cell 1
  have f2 := hB.cell 2
  have f3 := hB.cell 3
  have g0 := hC.cell 0
  have g1 := hC.cell 1
  have g2 := hC.cell 2
  have g3 := hC.cell 3
  simp at e0 e1 e2 e3 f0 f1 f2 f3 g0 g1 g2 g3
  have hz2 : w.heap.size + 2 < W.heap.size := (Array.getElem?_eq_some_iff.1 hC).1
  have hz1 : w.heap.size + 1 < W.heap.size := by omega
  have hz0 : w.heap.size < W.heap.size := by omega
  clear hA hB hC
  obtain ⟨a0, a1, a2, a3⟩ := ha
  obtain ⟨b0, b1, b2, b3⟩ := hb
  obtain ⟨c0, c1, c2, c3⟩ := hc
  have hcase : k = 0 ∨ k = 1 ∨ k = 2 ∨ k = 3 := by omega
  rcases hcase with rfl | rfl | rfl | rfl
  · obtain ⟨x1, x2, x3, x4, l1, u1⟩ := det_part a1 b2 c3 b3 c2
    obtain ⟨y1, y2, y3, y4, l2, u2⟩ := det_part a2 b1 c3 b3 c1
    obtain ⟨z1, z2, z3, z4, l3, u3⟩ := det_part a3 b1 c2 b2 c1
    have s1 : IntKind.i64.wrap (a.p * (b.l * c.c - b.c * c.l) - a.l * (b.p * c.c - b.c * c.p)) = a.p * (b.l * c.c - b.c * c.l) - a.l * (b.p * c.c - b.c * c.p) := IntWalk.i64_in _ (by omega)
    have s2 : IntKind.i64.wrap (a.p * (b.l * c.c - b.c * c.l) - a.l * (b.p * c.c - b.c * c.p) + a.c * (b.p * c.l - b.l * c.p)) = a.p * (b.l * c.c - b.c * c.l) - a.l * (b.p * c.c - b.c * c.p) + a.c * (b.p * c.l - b.l * c.p) := IntWalk.i64_in _ (by omega)
    clear a0 a1 a2 a3 b0 b1 b2 b3 c0 c1 c2 c3 l1 u1 l2 u2 l3 u3
    go_enter Tryz.func120, Tryz.ntmps120
    go_wp2_with fail
    clear hW
    go_quiet (fail)
    go_wp2_with fail
    go_ret
    exact ⟨rfl, below_drewN hB0 _⟩
  · obtain ⟨x1, x2, x3, x4, l1, u1⟩ := det_part a2 b3 c0 b0 c3
    obtain ⟨y1, y2, y3, y4, l2, u2⟩ := det_part a3 b2 c0 b0 c2
    obtain ⟨z1, z2, z3, z4, l3, u3⟩ := det_part a0 b2 c3 b3 c2
    have s1 : IntKind.i64.wrap (a.l * (b.c * c.q - b.q * c.c) - a.c * (b.l * c.q - b.q * c.l)) = a.l * (b.c * c.q - b.q * c.c) - a.c * (b.l * c.q - b.q * c.l) := IntWalk.i64_in _ (by omega)
    have s2 : IntKind.i64.wrap (a.l * (b.c * c.q - b.q * c.c) - a.c * (b.l * c.q - b.q * c.l) + a.q * (b.l * c.c - b.c * c.l)) = a.l * (b.c * c.q - b.q * c.c) - a.c * (b.l * c.q - b.q * c.l) + a.q * (b.l * c.c - b.c * c.l) := IntWalk.i64_in _ (by omega)
    clear a0 a1 a2 a3 b0 b1 b2 b3 c0 c1 c2 c3 l1 u1 l2 u2 l3 u3
    go_enter Tryz.func120, Tryz.ntmps120
    go_wp2_with fail
    clear hW
    go_quiet (fail)
    go_wp2_with fail
    go_ret
    exact ⟨rfl, below_drewN hB0 _⟩
  · obtain ⟨x1, x2, x3, x4, l1, u1⟩ := det_part a3 b0 c1 b1 c0
    obtain ⟨y1, y2, y3, y4, l2, u2⟩ := det_part a0 b3 c1 b1 c3
    obtain ⟨z1, z2, z3, z4, l3, u3⟩ := det_part a1 b3 c0 b0 c3
    have s1 : IntKind.i64.wrap (a.c * (b.q * c.p - b.p * c.q) - a.q * (b.c * c.p - b.p * c.c)) = a.c * (b.q * c.p - b.p * c.q) - a.q * (b.c * c.p - b.p * c.c) := IntWalk.i64_in _ (by omega)
    have s2 : IntKind.i64.wrap (a.c * (b.q * c.p - b.p * c.q) - a.q * (b.c * c.p - b.p * c.c) + a.p * (b.c * c.q - b.q * c.c)) = a.c * (b.q * c.p - b.p * c.q) - a.q * (b.c * c.p - b.p * c.c) + a.p * (b.c * c.q - b.q * c.c) := IntWalk.i64_in _ (by omega)
    clear a0 a1 a2 a3 b0 b1 b2 b3 c0 c1 c2 c3 l1 u1 l2 u2 l3 u3
    go_enter Tryz.func120, Tryz.ntmps120
    go_wp2_with fail
    clear hW
    go_quiet (fail)
    go_wp2_with fail
    go_ret
    exact ⟨rfl, below_drewN hB0 _⟩
  · obtain ⟨x1, x2, x3, x4, l1, u1⟩ := det_part a0 b1 c2 b2 c1
    obtain ⟨y1, y2, y3, y4, l2, u2⟩ := det_part a1 b0 c2 b2 c0
    obtain ⟨z1, z2, z3, z4, l3, u3⟩ := det_part a2 b0 c1 b1 c0
    have s1 : IntKind.i64.wrap (a.q * (b.p * c.l - b.l * c.p) - a.p * (b.q * c.l - b.l * c.q)) = a.q * (b.p * c.l - b.l * c.p) - a.p * (b.q * c.l - b.l * c.q) := IntWalk.i64_in _ (by omega)
    have s2 : IntKind.i64.wrap (a.q * (b.p * c.l - b.l * c.p) - a.p * (b.q * c.l - b.l * c.q) + a.l * (b.q * c.p - b.p * c.q)) = a.q * (b.p * c.l - b.l * c.p) - a.p * (b.q * c.l - b.l * c.q) + a.l * (b.q * c.p - b.p * c.q) := IntWalk.i64_in _ (by omega)
    clear a0 a1 a2 a3 b0 b1 b2 b3 c0 c1 c2 c3 l1 u1 l2 u2 l3 u3
    go_enter Tryz.func120, Tryz.ntmps120
    go_wp2_with fail
    clear hW
    go_quiet (fail)
    go_wp2_with fail
    go_ret
    exact ⟨rfl, below_drewN hB0 _⟩

end Go.Proofs.YtehafggcncbnkaaGreat
