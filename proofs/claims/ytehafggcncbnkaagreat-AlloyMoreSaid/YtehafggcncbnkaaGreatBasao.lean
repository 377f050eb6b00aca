/- Contracts of package alloy: Proof, Never. -/
import Derived.Test.YtehafggcncbnkaaGreatProg
import Derived.Test.YtehafggcncbnkaaGreatBasaa
import Derived.Test.YtehafggcncbnkaaGreatBasad
import Derived.Test.YtehafggcncbnkaaGreatBasag
import Derived.Test.YtehafggcncbnkaaGreatBasak
import Derived.Test.YtehafggcncbnkaaGreatBasan
import Derived.Test.YtehafggcncbnkaaGreatBasab
import Derived.Test.YtehafggcncbnkaaGreatBasaj
namespace Go.Proofs.YtehafggcncbnkaaGreat
open Go Go.RowKit

/-- Proof's error, and Never's. -/
def proofE (n : Nat) (m : Nat → M5) (l c : Int) (s : Bool) : Int := if bothE n m l c ≠ 0 then bothE n m l c else if (potL n m l c s).isEmpty then 17 else 0
def neverE (n : Nat) (m : Nat → M5) (l c : Int) (s : Bool) : Int := if bothE n m l c ≠ 0 then bothE n m l c else if (potL n m l c s).isEmpty then 0 else 5

set_option maxRecDepth 100000 in
set_option maxHeartbeats 4000000 in
theorem Proof_no_c (a : Option Addr) (n cap : Nat) (m : Nat → M5) (l c : Int) (s : Bool) (w : World) (hm : Metals w a n m) (hn : n ≤ 1048576) (he : proofE n m l c s ≠ 0) :
    Calls Tryz.prog 35 #[.slice a n cap, .agg #[.int .i64 l, .int .i64 c], .bool s] w fun e w' => e = .returned (.tuple #[proofV zeroP, .int .i64 (proofE n m l c s)]) ∧ Below w.heap.size w w' := by
  obtain ⟨W, hW⟩ : ∃ W, (w.alloc (.cells #[.int .i64 l, .int .i64 c] 24)).alloc (.cells #[.int .i64 0, .int .i64 0, .int .i64 0, .int .i64 0] 45) = W := ⟨_, rfl⟩
  have hB0 : Below w.heap.size w W := by rw [← hW]; exact Below.alloc1 (Below.alloc1 (Below.refl _ _) _ (Nat.le_refl _)) _ (Nat.le_refl _)
  have hT : RowIs W w.heap.size #[.int .i64 l, .int .i64 c] 24 := by rw [← hW]; exact RowIs.alloc (heap_new_at _ _ _ rfl) _
  have hR : RowIs W (w.heap.size + 1) (prfRow zeroP) 45 := by rw [← hW]; exact heap_new_at _ _ _ (by simp)
  have hz1 : w.heap.size + 1 < W.heap.size := (Array.getElem?_eq_some_iff.1 hR).1
  have hz0 : w.heap.size < W.heap.size := by omega
  have c5 := hT.cell 0
  have c6 := hT.cell 1
  simp at c5 c6
  have hm0 := hm.below hB0
  have HR := Lib.hid hR
  clear hm hT hR
  by_cases h0 : bothE n m l c = 0
  · obtain ⟨hM, ht⟩ := both_ok h0
    have HFine := Lib.hid (fine_of hM)
    have H0 := Lib.hid h0
    clear hM
    have hemp : (potL n m l c s).isEmpty = true := by
      cases he' : (potL n m l c s).isEmpty with
      | true => rfl
      | false => exact absurd (by unfold proofE; rw [if_neg (by simp [h0]), he']; rfl) he
    have ev : proofE n m l c s = 17 := by unfold proofE; rw [if_neg (by simp [h0]), hemp]; rfl
    have hpos := fun (g : Nat) (w1 : World) (hu : Units w1 (some ⟨g, 0, none⟩) n (potU s m)) => possible_c g n m l c s w1 HFine.out ht hu
    rw [hemp] at hpos
    rw [ev]
    have HPos := Lib.hid hpos
    clear ev hpos h0 he hemp
    go_enter Tryz.func35, Tryz.ntmps35
    go_wp2_with fail
    clear hW
    refine (newPot_c a n cap m l c s _ hm0 (by omega) H0.out).mono ?_
    rintro e w1 ⟨g, rfl, hU, hb1⟩
    clear c5 c6
    obtain ⟨W2, hW2⟩ : ∃ W2, w1.alloc (.cells #[.slice (some ⟨g, 0, none⟩) n n, .int .i64 1, .int .i64 0, .int .i64 l, .int .i64 c] 102) = W2 := ⟨_, rfl⟩
    have hb2 : Below w1.heap.size w1 W2 := by rw [← hW2]; exact Below.alloc1 (Below.refl _ _) _ (Nat.le_refl _)
    have hP2 : RowIs W2 w1.heap.size #[.slice (some ⟨g, 0, none⟩) n n, .int .i64 1, .int .i64 0, .int .i64 l, .int .i64 c] 102 := by rw [← hW2]; exact heap_new_at _ _ _ rfl
    obtain ⟨e0, e1, e2, e3, e4, ez⟩ := potrow hP2
    clear hP2
    go_wp2_with fail
    clear hW2
    refine (HPos.out g W2 (hU.below hb2)).mono ?_
    rintro e w3 ⟨rfl, hb3⟩
    have hb13 := bup hb1 (bup hb2 hb3)
    obtain ⟨⟨r0, r1, r2, r3, rz⟩, z0, z1, z2, z3⟩ := qrow (RowIs.below HR.out hb13)
    clear e0 e1 e2 e3 e4 ez
    go_wp2_with fail
    have hf : RowIs (put4 w3 (w.heap.size + 1) zeroP) (w.heap.size + 1) (prfRow zeroP) 45 := put4_row (RowIs.below HR.out hb13) zeroP
    have hbf : Below w.heap.size w (put4 w3 (w.heap.size + 1) zeroP) := (bup hB0 hb13).trans (put4_below (Nat.le_succ _) zeroP)
    change bodyPost _ _ _ _ _ (put4 w3 (w.heap.size + 1) zeroP)
    generalize put4 w3 (w.heap.size + 1) zeroP = V at hf hbf ⊢
    obtain ⟨⟨q0, q1, q2, q3, qz⟩, _⟩ := qrow hf
    exact bodyPost_ret (v := .tuple #[proofV zeroP, .int .i64 17]) (by simp [results, Tryz.results35, go_sem, q0, q1, q2, q3]) rfl ⟨rfl, hbf⟩
  · have ev : proofE n m l c s = bothE n m l c := by unfold proofE; rw [if_pos h0]
    have h0' : (bothE n m l c != 0) = true := by simpa using h0
    have H0 := Lib.hid h0
    rw [ev]
    clear ev h0 he
    go_enter Tryz.func35, Tryz.ntmps35
    go_wp2_with fail
    clear hW
    refine (newPot_err_c a n cap m l c s _ hm0 (by omega) H0.out).mono ?_
    rintro e w1 ⟨rfl, hb1⟩
    clear c5 c6
    obtain ⟨⟨r0, r1, r2, r3, rz⟩, z0, z1, z2, z3⟩ := qrow (RowIs.below HR.out hb1)
    go_wp2_with fail
    have hf : RowIs (put4 w1 (w.heap.size + 1) zeroP) (w.heap.size + 1) (prfRow zeroP) 45 := put4_row (RowIs.below HR.out hb1) zeroP
    have hbf : Below w.heap.size w (put4 w1 (w.heap.size + 1) zeroP) := (bup hB0 hb1).trans (put4_below (Nat.le_succ _) zeroP)
    have hfa := RowIs.alloc hf (.cells #[.slice none 0 0, .int .i64 0, .int .i64 0, .int .i64 0, .int .i64 0] 102)
    have hba := Below.alloc1 hbf (.cells #[.slice none 0 0, .int .i64 0, .int .i64 0, .int .i64 0, .int .i64 0] 102) (Nat.le_refl _)
    change bodyPost _ _ _ _ _ ((put4 w1 (w.heap.size + 1) zeroP).alloc (.cells #[.slice none 0 0, .int .i64 0, .int .i64 0, .int .i64 0, .int .i64 0] 102))
    generalize (put4 w1 (w.heap.size + 1) zeroP).alloc (.cells #[.slice none 0 0, .int .i64 0, .int .i64 0, .int .i64 0, .int .i64 0] 102) = V at hfa hba ⊢
    obtain ⟨⟨q0, q1, q2, q3, qz⟩, _⟩ := qrow hfa
    exact bodyPost_ret (v := .tuple #[proofV zeroP, .int .i64 (bothE n m l c)]) (by simp [results, Tryz.results35, go_sem, q0, q1, q2, q3]) rfl ⟨rfl, hba⟩

set_option maxRecDepth 100000 in
set_option maxHeartbeats 4000000 in
theorem Proof_yes_c (a : Option Addr) (n cap : Nat) (m : Nat → M5) (l c : Int) (s : Bool) (w : World) (hm : Metals w a n m) (hn : n ≤ 1048576) (h0 : bothE n m l c = 0) (hemp : (potL n m l c s).isEmpty = false) (hne : ∃ p, costS n (potU s m) p) :
    Calls Tryz.prog 35 #[.slice a n cap, .agg #[.int .i64 l, .int .i64 c], .bool s] w fun e w' => ∃ L, (∀ p, p ∈ L ↔ costS n (potU s m) p) ∧ e = .returned (.tuple #[proofV (bestP (costLt l c) L), .int .i64 0]) ∧ Below w.heap.size w w' := by
  obtain ⟨W, hW⟩ : ∃ W, (w.alloc (.cells #[.int .i64 l, .int .i64 c] 24)).alloc (.cells #[.int .i64 0, .int .i64 0, .int .i64 0, .int .i64 0] 45) = W := ⟨_, rfl⟩
  have hB0 : Below w.heap.size w W := by rw [← hW]; exact Below.alloc1 (Below.alloc1 (Below.refl _ _) _ (Nat.le_refl _)) _ (Nat.le_refl _)
  have hT : RowIs W w.heap.size #[.int .i64 l, .int .i64 c] 24 := by rw [← hW]; exact RowIs.alloc (heap_new_at _ _ _ rfl) _
  have hR : RowIs W (w.heap.size + 1) (prfRow zeroP) 45 := by rw [← hW]; exact heap_new_at _ _ _ (by simp)
  have hz1 : w.heap.size + 1 < W.heap.size := (Array.getElem?_eq_some_iff.1 hR).1
  have hz0 : w.heap.size < W.heap.size := by omega
  have c5 := hT.cell 0
  have c6 := hT.cell 1
  simp at c5 c6
  have hm0 := hm.below hB0
  have HR := Lib.hid hR
  obtain ⟨hM, ht⟩ := both_ok h0
  have HFine := Lib.hid (fine_of hM)
  have H0 := Lib.hid h0
  have hpos := fun (g : Nat) (w1 : World) (hu : Units w1 (some ⟨g, 0, none⟩) n (potU s m)) => possible_c g n m l c s w1 HFine.out ht hu
  rw [hemp] at hpos
  have HPos := Lib.hid hpos
  have Hne := Lib.hid hne
  clear hm hT hR hM hpos h0 hemp hne
  go_enter Tryz.func35, Tryz.ntmps35
  go_wp2_with fail
  clear hW
  refine (newPot_c a n cap m l c s _ hm0 (by omega) H0.out).mono ?_
  rintro e w1 ⟨g, rfl, hU, hb1⟩
  clear c5 c6
  obtain ⟨W2, hW2⟩ : ∃ W2, w1.alloc (.cells #[.slice (some ⟨g, 0, none⟩) n n, .int .i64 1, .int .i64 0, .int .i64 l, .int .i64 c] 102) = W2 := ⟨_, rfl⟩
  have hb2 : Below w1.heap.size w1 W2 := by rw [← hW2]; exact Below.alloc1 (Below.refl _ _) _ (Nat.le_refl _)
  have hP2 : RowIs W2 w1.heap.size #[.slice (some ⟨g, 0, none⟩) n n, .int .i64 1, .int .i64 0, .int .i64 l, .int .i64 c] 102 := by rw [← hW2]; exact heap_new_at _ _ _ rfl
  obtain ⟨e0, e1, e2, e3, e4, ez⟩ := potrow hP2
  have HP2 := Lib.hid hP2
  have hU2 := hU.below hb2
  clear hP2 hU
  go_wp2_with fail
  clear hW2
  refine (HPos.out g W2 hU2).mono ?_
  rintro e w3 ⟨rfl, hb3⟩
  have hb13 := bup hb1 (bup hb2 hb3)
  clear e0 e1 e2 e3 e4 ez
  obtain ⟨e0, e1, e2, e3, e4, ez⟩ := potrow (HP2.out.below hb3)
  go_wp2_with fail
  refine (costProof_c g n m l c s w3 HFine.out ht (hU2.below hb3) (ones_of HFine.out s (!s)) Hne.out).mono ?_
  rintro e w4 ⟨L, hL, rfl, hb4⟩
  have hb14 := bup hb13 hb4
  obtain ⟨⟨r0, r1, r2, r3, rz⟩, z0, z1, z2, z3⟩ := qrow (RowIs.below HR.out hb14)
  obtain ⟨q, hq⟩ : ∃ q, bestP (costLt l c) L = q := ⟨_, rfl⟩
  rw [hq]
  have Hq := Lib.hid hq
  have HL := Lib.hid hL
  clear hq hL e0 e1 e2 e3 e4 ez
  go_wp2_with fail
  have hf : RowIs (put4 w4 (w.heap.size + 1) q) (w.heap.size + 1) (prfRow q) 45 := put4_row (RowIs.below HR.out hb14) q
  have hbf : Below w.heap.size w (put4 w4 (w.heap.size + 1) q) := (bup hB0 hb14).trans (put4_below (Nat.le_succ _) q)
  change bodyPost _ _ _ _ _ (put4 w4 (w.heap.size + 1) q)
  generalize put4 w4 (w.heap.size + 1) q = V at hf hbf ⊢
  obtain ⟨⟨q0, q1, q2, q3, qz⟩, _⟩ := qrow hf
  exact bodyPost_ret (v := .tuple #[proofV q, .int .i64 0]) (by simp [results, Tryz.results35, go_sem, q0, q1, q2, q3]) rfl ⟨L, HL.out, by rw [Hq.out], hbf⟩

set_option maxRecDepth 100000 in
set_option maxHeartbeats 4000000 in
theorem Never_no_c (a : Option Addr) (n cap : Nat) (m : Nat → M5) (l c : Int) (s : Bool) (w : World) (hm : Metals w a n m) (hn : n ≤ 1048576) (he : neverE n m l c s ≠ 0) :
    Calls Tryz.prog 36 #[.slice a n cap, .agg #[.int .i64 l, .int .i64 c], .bool s] w fun e w' => e = .returned (.tuple #[proofV zeroP, .int .i64 (neverE n m l c s)]) ∧ Below w.heap.size w w' := by
  obtain ⟨W, hW⟩ : ∃ W, (w.alloc (.cells #[.int .i64 l, .int .i64 c] 24)).alloc (.cells #[.int .i64 0, .int .i64 0, .int .i64 0, .int .i64 0] 45) = W := ⟨_, rfl⟩
  have hB0 : Below w.heap.size w W := by rw [← hW]; exact Below.alloc1 (Below.alloc1 (Below.refl _ _) _ (Nat.le_refl _)) _ (Nat.le_refl _)
  have hT : RowIs W w.heap.size #[.int .i64 l, .int .i64 c] 24 := by rw [← hW]; exact RowIs.alloc (heap_new_at _ _ _ rfl) _
  have hR : RowIs W (w.heap.size + 1) (prfRow zeroP) 45 := by rw [← hW]; exact heap_new_at _ _ _ (by simp)
  have hz1 : w.heap.size + 1 < W.heap.size := (Array.getElem?_eq_some_iff.1 hR).1
  have hz0 : w.heap.size < W.heap.size := by omega
  have c5 := hT.cell 0
  have c6 := hT.cell 1
  simp at c5 c6
  have hm0 := hm.below hB0
  have HR := Lib.hid hR
  clear hm hT hR
  by_cases h0 : bothE n m l c = 0
  · obtain ⟨hM, ht⟩ := both_ok h0
    have HFine := Lib.hid (fine_of hM)
    have H0 := Lib.hid h0
    clear hM
    have hemp : (potL n m l c s).isEmpty = false := by
      cases he' : (potL n m l c s).isEmpty with
      | false => rfl
      | true => exact absurd (by unfold neverE; rw [if_neg (by simp [h0]), he']; rfl) he
    have ev : neverE n m l c s = 5 := by unfold neverE; rw [if_neg (by simp [h0]), hemp]; rfl
    have hpos := fun (g : Nat) (w1 : World) (hu : Units w1 (some ⟨g, 0, none⟩) n (potU s m)) => possible_c g n m l c s w1 HFine.out ht hu
    rw [hemp] at hpos
    rw [ev]
    have HPos := Lib.hid hpos
    clear ev hpos h0 he hemp
    go_enter Tryz.func36, Tryz.ntmps36
    go_wp2_with fail
    clear hW
    refine (newPot_c a n cap m l c s _ hm0 (by omega) H0.out).mono ?_
    rintro e w1 ⟨g, rfl, hU, hb1⟩
    clear c5 c6
    obtain ⟨W2, hW2⟩ : ∃ W2, w1.alloc (.cells #[.slice (some ⟨g, 0, none⟩) n n, .int .i64 1, .int .i64 0, .int .i64 l, .int .i64 c] 102) = W2 := ⟨_, rfl⟩
    have hb2 : Below w1.heap.size w1 W2 := by rw [← hW2]; exact Below.alloc1 (Below.refl _ _) _ (Nat.le_refl _)
    have hP2 : RowIs W2 w1.heap.size #[.slice (some ⟨g, 0, none⟩) n n, .int .i64 1, .int .i64 0, .int .i64 l, .int .i64 c] 102 := by rw [← hW2]; exact heap_new_at _ _ _ rfl
    obtain ⟨e0, e1, e2, e3, e4, ez⟩ := potrow hP2
    clear hP2
    go_wp2_with fail
    clear hW2
    refine (HPos.out g W2 (hU.below hb2)).mono ?_
    rintro e w3 ⟨rfl, hb3⟩
    have hb13 := bup hb1 (bup hb2 hb3)
    obtain ⟨⟨r0, r1, r2, r3, rz⟩, z0, z1, z2, z3⟩ := qrow (RowIs.below HR.out hb13)
    clear e0 e1 e2 e3 e4 ez
    go_wp2_with fail
    have hf : RowIs (put4 w3 (w.heap.size + 1) zeroP) (w.heap.size + 1) (prfRow zeroP) 45 := put4_row (RowIs.below HR.out hb13) zeroP
    have hbf : Below w.heap.size w (put4 w3 (w.heap.size + 1) zeroP) := (bup hB0 hb13).trans (put4_below (Nat.le_succ _) zeroP)
    change bodyPost _ _ _ _ _ (put4 w3 (w.heap.size + 1) zeroP)
    generalize put4 w3 (w.heap.size + 1) zeroP = V at hf hbf ⊢
    obtain ⟨⟨q0, q1, q2, q3, qz⟩, _⟩ := qrow hf
    exact bodyPost_ret (v := .tuple #[proofV zeroP, .int .i64 5]) (by simp [results, Tryz.results36, go_sem, q0, q1, q2, q3]) rfl ⟨rfl, hbf⟩
  · have ev : neverE n m l c s = bothE n m l c := by unfold neverE; rw [if_pos h0]
    have h0' : (bothE n m l c != 0) = true := by simpa using h0
    have H0 := Lib.hid h0
    rw [ev]
    clear ev h0 he
    go_enter Tryz.func36, Tryz.ntmps36
    go_wp2_with fail
    clear hW
    refine (newPot_err_c a n cap m l c s _ hm0 (by omega) H0.out).mono ?_
    rintro e w1 ⟨rfl, hb1⟩
    clear c5 c6
    obtain ⟨⟨r0, r1, r2, r3, rz⟩, z0, z1, z2, z3⟩ := qrow (RowIs.below HR.out hb1)
    go_wp2_with fail
    have hf : RowIs (put4 w1 (w.heap.size + 1) zeroP) (w.heap.size + 1) (prfRow zeroP) 45 := put4_row (RowIs.below HR.out hb1) zeroP
    have hbf : Below w.heap.size w (put4 w1 (w.heap.size + 1) zeroP) := (bup hB0 hb1).trans (put4_below (Nat.le_succ _) zeroP)
    have hfa := RowIs.alloc hf (.cells #[.slice none 0 0, .int .i64 0, .int .i64 0, .int .i64 0, .int .i64 0] 102)
    have hba := Below.alloc1 hbf (.cells #[.slice none 0 0, .int .i64 0, .int .i64 0, .int .i64 0, .int .i64 0] 102) (Nat.le_refl _)
    change bodyPost _ _ _ _ _ ((put4 w1 (w.heap.size + 1) zeroP).alloc (.cells #[.slice none 0 0, .int .i64 0, .int .i64 0, .int .i64 0, .int .i64 0] 102))
    generalize (put4 w1 (w.heap.size + 1) zeroP).alloc (.cells #[.slice none 0 0, .int .i64 0, .int .i64 0, .int .i64 0, .int .i64 0] 102) = V at hfa hba ⊢
    obtain ⟨⟨q0, q1, q2, q3, qz⟩, _⟩ := qrow hfa
    exact bodyPost_ret (v := .tuple #[proofV zeroP, .int .i64 (bothE n m l c)]) (by simp [results, Tryz.results36, go_sem, q0, q1, q2, q3]) rfl ⟨rfl, hba⟩

set_option maxRecDepth 100000 in
set_option maxHeartbeats 4000000 in
theorem Never_yes_c (a : Option Addr) (n cap : Nat) (m : Nat → M5) (l c : Int) (s : Bool) (w : World) (hm : Metals w a n m) (hn : n ≤ 1048576) (h0 : bothE n m l c = 0) (hemp : (potL n m l c s).isEmpty = true) (hne : ∃ p, neverS n (potU s m) p) :
    Calls Tryz.prog 36 #[.slice a n cap, .agg #[.int .i64 l, .int .i64 c], .bool s] w fun e w' => ∃ L, (∀ p, p ∈ L ↔ neverS n (potU s m) p) ∧ e = .returned (.tuple #[proofV (bestP (neverLt l c) L), .int .i64 0]) ∧ Below w.heap.size w w' := by
  obtain ⟨W, hW⟩ : ∃ W, (w.alloc (.cells #[.int .i64 l, .int .i64 c] 24)).alloc (.cells #[.int .i64 0, .int .i64 0, .int .i64 0, .int .i64 0] 45) = W := ⟨_, rfl⟩
  have hB0 : Below w.heap.size w W := by rw [← hW]; exact Below.alloc1 (Below.alloc1 (Below.refl _ _) _ (Nat.le_refl _)) _ (Nat.le_refl _)
  have hT : RowIs W w.heap.size #[.int .i64 l, .int .i64 c] 24 := by rw [← hW]; exact RowIs.alloc (heap_new_at _ _ _ rfl) _
  have hR : RowIs W (w.heap.size + 1) (prfRow zeroP) 45 := by rw [← hW]; exact heap_new_at _ _ _ (by simp)
  have hz1 : w.heap.size + 1 < W.heap.size := (Array.getElem?_eq_some_iff.1 hR).1
  have hz0 : w.heap.size < W.heap.size := by omega
  have c5 := hT.cell 0
  have c6 := hT.cell 1
  simp at c5 c6
  have hm0 := hm.below hB0
  have HR := Lib.hid hR
  obtain ⟨hM, ht⟩ := both_ok h0
  have HFine := Lib.hid (fine_of hM)
  have H0 := Lib.hid h0
  have hpos := fun (g : Nat) (w1 : World) (hu : Units w1 (some ⟨g, 0, none⟩) n (potU s m)) => possible_c g n m l c s w1 HFine.out ht hu
  rw [hemp] at hpos
  have HPos := Lib.hid hpos
  have Hne := Lib.hid hne
  clear hm hT hR hM hpos h0 hemp hne
  go_enter Tryz.func36, Tryz.ntmps36
  go_wp2_with fail
  clear hW
  refine (newPot_c a n cap m l c s _ hm0 (by omega) H0.out).mono ?_
  rintro e w1 ⟨g, rfl, hU, hb1⟩
  clear c5 c6
  obtain ⟨W2, hW2⟩ : ∃ W2, w1.alloc (.cells #[.slice (some ⟨g, 0, none⟩) n n, .int .i64 1, .int .i64 0, .int .i64 l, .int .i64 c] 102) = W2 := ⟨_, rfl⟩
  have hb2 : Below w1.heap.size w1 W2 := by rw [← hW2]; exact Below.alloc1 (Below.refl _ _) _ (Nat.le_refl _)
  have hP2 : RowIs W2 w1.heap.size #[.slice (some ⟨g, 0, none⟩) n n, .int .i64 1, .int .i64 0, .int .i64 l, .int .i64 c] 102 := by rw [← hW2]; exact heap_new_at _ _ _ rfl
  obtain ⟨e0, e1, e2, e3, e4, ez⟩ := potrow hP2
  have HP2 := Lib.hid hP2
  have hU2 := hU.below hb2
  clear hP2 hU
  go_wp2_with fail
  clear hW2
  refine (HPos.out g W2 hU2).mono ?_
  rintro e w3 ⟨rfl, hb3⟩
  have hb13 := bup hb1 (bup hb2 hb3)
  clear e0 e1 e2 e3 e4 ez
  obtain ⟨e0, e1, e2, e3, e4, ez⟩ := potrow (HP2.out.below hb3)
  go_wp2_with fail
  refine (neverProof_c g n m l c s w3 HFine.out ht (hU2.below hb3) (ones_of HFine.out s (!s)) Hne.out).mono ?_
  rintro e w4 ⟨L, hL, rfl, hb4⟩
  have hb14 := bup hb13 hb4
  obtain ⟨⟨r0, r1, r2, r3, rz⟩, z0, z1, z2, z3⟩ := qrow (RowIs.below HR.out hb14)
  obtain ⟨q, hq⟩ : ∃ q, bestP (neverLt l c) L = q := ⟨_, rfl⟩
  rw [hq]
  have Hq := Lib.hid hq
  have HL := Lib.hid hL
  clear hq hL e0 e1 e2 e3 e4 ez
  go_wp2_with fail
  have hf : RowIs (put4 w4 (w.heap.size + 1) q) (w.heap.size + 1) (prfRow q) 45 := put4_row (RowIs.below HR.out hb14) q
  have hbf : Below w.heap.size w (put4 w4 (w.heap.size + 1) q) := (bup hB0 hb14).trans (put4_below (Nat.le_succ _) q)
  change bodyPost _ _ _ _ _ (put4 w4 (w.heap.size + 1) q)
  generalize put4 w4 (w.heap.size + 1) q = V at hf hbf ⊢
  obtain ⟨⟨q0, q1, q2, q3, qz⟩, _⟩ := qrow hf
  exact bodyPost_ret (v := .tuple #[proofV q, .int .i64 0]) (by simp [results, Tryz.results36, go_sem, q0, q1, q2, q3]) rfl ⟨L, HL.out, by rw [Hq.out], hbf⟩

end Go.Proofs.YtehafggcncbnkaaGreat

namespace Go.Proofs.YtehafggcncbnkaaGreat
open Go Go.RowKit

/-- Of two mixtures the first one has a lesser share of a metal. -/
def shareB (u : Nat → U4) (n k : Nat) (f g : Nat → Int) : Bool :=
  ltB (ratN (f k) (unitSum u f n (·.q))) (ratD (f k) (unitSum u f n (·.q))) (ratN (g k) (unitSum u g n (·.q))) (ratD (g k) (unitSum u g n (·.q)))

theorem share_bd {n : Nat} {u : Nat → U4} {f g : Nat → Int} (hO : Ones n u) (hf : ∀ i, 0 ≤ f i ∧ f i ≤ 1000000) (hg : ∀ i, 0 ≤ g i ∧ g i ≤ 1000000) (h1 : 0 < unitSum u f n (·.q)) (h2 : 0 < unitSum u g n (·.q)) (k : Nat) :
    (-1152921504606846976 ≤ ratN (f k) (unitSum u f n (·.q)) * ratD (g k) (unitSum u g n (·.q)) ∧ ratN (f k) (unitSum u f n (·.q)) * ratD (g k) (unitSum u g n (·.q)) ≤ 1152921504606846976) := by
  have b2 := parts_bd hO (f := g) fun i _ => hg i
  have r1 := rat_bd (hf k).1 h1
  have r2 := rat_bd (hg k).1 h2
  have := mul_bd r1.1 (Int.le_trans r1.2.1 (hf k).2) (Int.le_of_lt r2.2.2.1) (Int.le_trans r2.2.2.2 b2.1.2)
  omega

set_option maxRecDepth 100000 in
set_option maxHeartbeats 4000000 in
theorem share1_c (P K g n k : Nat) (u : Nat → U4) (l c : Int) (f h : Nat → Int) (w : World) (hP : RowIs w P #[.slice (some ⟨g, 0, none⟩) n n, .int .i64 1, .int .i64 0, .int .i64 l, .int .i64 c] 102) (hK : RowIs w K #[.int .i64 k] 3)
    (hu : Units w (some ⟨g, 0, none⟩) n u) (hO : Ones n u) (hf : ∀ i, 0 ≤ f i ∧ f i ≤ 1000000) (hh : ∀ i, 0 ≤ h i ∧ h i ≤ 1000000) (h1 : 0 < unitSum u f n (·.q)) (h2 : 0 < unitSum u h n (·.q)) (hk : k < 6) :
    Calls Tryz.prog 85 #[mixV f, mixV h, .pointer (some ⟨P, 0, none⟩), .pointer (some ⟨K, 0, none⟩)] w fun e w' => e = .returned (.bool (shareB u n k f h)) ∧ Below w.heap.size w w' := by
  obtain ⟨W, hW⟩ : ∃ W, (w.alloc (.cells #[.int .i64 (f 0), .int .i64 (f 1), .int .i64 (f 2), .int .i64 (f 3), .int .i64 (f 4), .int .i64 (f 5)] 88)).alloc (.cells #[.int .i64 (h 0), .int .i64 (h 1), .int .i64 (h 2), .int .i64 (h 3), .int .i64 (h 4), .int .i64 (h 5)] 88) = W := ⟨_, rfl⟩
  have hB0 : Below w.heap.size w W := by rw [← hW]; exact Below.alloc1 (Below.alloc1 (Below.refl _ _) _ (Nat.le_refl _)) _ (Nat.le_refl _)
  have hF : RowIs W w.heap.size (mixRow f) 88 := by rw [← hW]; exact RowIs.alloc (heap_new_at _ _ _ rfl) _
  have hG : RowIs W (w.heap.size + 1) (mixRow h) 88 := by rw [← hW]; exact heap_new_at _ _ _ (by simp)
  obtain ⟨⟨x0, x1, x2, x3, x4, x5, xz⟩, _⟩ := mrow hF
  obtain ⟨⟨y0, y1, y2, y3, y4, y5, yz⟩, _⟩ := mrow hG
  obtain ⟨e0, e1, e2, e3, e4, ez⟩ := potrow (RowIs.below hP hB0)
  have k0 : W.cell? ⟨K, 0, none⟩ = some (.int .i64 k) := (RowIs.below hK hB0).cell 0
  have kz : K < W.heap.size := (Array.getElem?_eq_some_iff.1 (RowIs.below hK hB0)).1
  have b1 := share_bd hO hf hh h1 h2 k
  have b2 := share_bd hO hh hf h2 h1 k
  have c1 := fun (x : Later W) => share_c (some ⟨g, 0, none⟩) n n u f k x.w ((hu.below hB0).below x.h) hO.1 (fun i _ => ⟨(hf i).1, Int.le_trans (hf i).2 (by decide)⟩) h1 hk
  have c2 := fun (x : Later W) => share_c (some ⟨g, 0, none⟩) n n u h k x.w ((hu.below hB0).below x.h) hO.1 (fun i _ => ⟨(hh i).1, Int.le_trans (hh i).2 (by decide)⟩) h2 hk
  have c3 := fun (x : Later W) => below_c (ratN (f k) (unitSum u f n (·.q))) (ratD (f k) (unitSum u f n (·.q))) (ratN (h k) (unitSum u h n (·.q))) (ratD (h k) (unitSum u h n (·.q))) x.w b1.1 b1.2 b2.1 b2.2
  unfold shareB
  have C1 := Lib.hid c1
  have C2 := Lib.hid c2
  have C3 := Lib.hid c3
  clear hF hG hP hK hu hO hf hh h1 h2 hk b1 b2 c1 c2 c3
  have hlc := fun (x : Later W) => later_cell x
  go_enter Tryz.func85, Tryz.ntmps85
  go_wp2_with fail
  clear hW
  refine wp_region_later (by kernel_rfl) (by kernel_rfl) ?_
  repeat (go_big_quiet_step ((with_reducible first | (refine calls_later (C1.out _)) | (refine calls_later (C2.out _)) | (refine calls_later (C3.out _)))))
  refine wpQuiet_nil ?_
  clear hlc
  rintro ⟨w2, hb2⟩
  go_wp2_with fail
  go_ret
  exact ⟨rfl, bup hB0 hb2⟩

set_option maxRecDepth 100000 in
set_option maxHeartbeats 4000000 in
theorem share2_c (P K g n k : Nat) (u : Nat → U4) (l c : Int) (f h : Nat → Int) (w : World) (hP : RowIs w P #[.slice (some ⟨g, 0, none⟩) n n, .int .i64 1, .int .i64 0, .int .i64 l, .int .i64 c] 102) (hK : RowIs w K #[.int .i64 k] 3)
    (hu : Units w (some ⟨g, 0, none⟩) n u) (hO : Ones n u) (hf : ∀ i, 0 ≤ f i ∧ f i ≤ 1000000) (hh : ∀ i, 0 ≤ h i ∧ h i ≤ 1000000) (h1 : 0 < unitSum u f n (·.q)) (h2 : 0 < unitSum u h n (·.q)) (hk : k < 6) :
    Calls Tryz.prog 88 #[mixV f, mixV h, .pointer (some ⟨P, 0, none⟩), .pointer (some ⟨K, 0, none⟩)] w fun e w' => e = .returned (.bool (shareB u n k h f)) ∧ Below w.heap.size w w' := by
  obtain ⟨W, hW⟩ : ∃ W, (w.alloc (.cells #[.int .i64 (f 0), .int .i64 (f 1), .int .i64 (f 2), .int .i64 (f 3), .int .i64 (f 4), .int .i64 (f 5)] 88)).alloc (.cells #[.int .i64 (h 0), .int .i64 (h 1), .int .i64 (h 2), .int .i64 (h 3), .int .i64 (h 4), .int .i64 (h 5)] 88) = W := ⟨_, rfl⟩
  have hB0 : Below w.heap.size w W := by rw [← hW]; exact Below.alloc1 (Below.alloc1 (Below.refl _ _) _ (Nat.le_refl _)) _ (Nat.le_refl _)
  have hF : RowIs W w.heap.size (mixRow f) 88 := by rw [← hW]; exact RowIs.alloc (heap_new_at _ _ _ rfl) _
  have hG : RowIs W (w.heap.size + 1) (mixRow h) 88 := by rw [← hW]; exact heap_new_at _ _ _ (by simp)
  obtain ⟨⟨x0, x1, x2, x3, x4, x5, xz⟩, _⟩ := mrow hF
  obtain ⟨⟨y0, y1, y2, y3, y4, y5, yz⟩, _⟩ := mrow hG
  obtain ⟨e0, e1, e2, e3, e4, ez⟩ := potrow (RowIs.below hP hB0)
  have k0 : W.cell? ⟨K, 0, none⟩ = some (.int .i64 k) := (RowIs.below hK hB0).cell 0
  have kz : K < W.heap.size := (Array.getElem?_eq_some_iff.1 (RowIs.below hK hB0)).1
  have b1 := share_bd hO hf hh h1 h2 k
  have b2 := share_bd hO hh hf h2 h1 k
  have c1 := fun (x : Later W) => share_c (some ⟨g, 0, none⟩) n n u f k x.w ((hu.below hB0).below x.h) hO.1 (fun i _ => ⟨(hf i).1, Int.le_trans (hf i).2 (by decide)⟩) h1 hk
  have c2 := fun (x : Later W) => share_c (some ⟨g, 0, none⟩) n n u h k x.w ((hu.below hB0).below x.h) hO.1 (fun i _ => ⟨(hh i).1, Int.le_trans (hh i).2 (by decide)⟩) h2 hk
  have c3 := fun (x : Later W) => below_c (ratN (h k) (unitSum u h n (·.q))) (ratD (h k) (unitSum u h n (·.q))) (ratN (f k) (unitSum u f n (·.q))) (ratD (f k) (unitSum u f n (·.q))) x.w b2.1 b2.2 b1.1 b1.2
  unfold shareB
  have C1 := Lib.hid c1
  have C2 := Lib.hid c2
  have C3 := Lib.hid c3
  clear hF hG hP hK hu hO hf hh h1 h2 hk b1 b2 c1 c2 c3
  have hlc := fun (x : Later W) => later_cell x
  go_enter Tryz.func88, Tryz.ntmps88
  go_wp2_with fail
  clear hW
  refine wp_region_later (by kernel_rfl) (by kernel_rfl) ?_
  repeat (go_big_quiet_step ((with_reducible first | (refine calls_later (C1.out _)) | (refine calls_later (C2.out _)) | (refine calls_later (C3.out _)))))
  refine wpQuiet_nil ?_
  clear hlc
  rintro ⟨w2, hb2⟩
  go_wp2_with fail
  go_ret
  exact ⟨rfl, bup hB0 hb2⟩

/-- The best corner by the first, and by the second closure. -/
theorem bestShare1_c (P K g n k : Nat) (m : Nat → M5) (l c : Int) (s : Bool) (w : World) (hF : Fine n m) (ht : 0 ≤ l ∧ l ≤ 1000 ∧ 0 ≤ c ∧ c ≤ 1000) (hu : Units w (some ⟨g, 0, none⟩) n (potU s m))
    (hP : RowIs w P #[.slice (some ⟨g, 0, none⟩) n n, .int .i64 1, .int .i64 0, .int .i64 l, .int .i64 c] 102) (hK : RowIs w K #[.int .i64 k] 3) (hk : k < 6) :
    Calls Tryz.prog 71 #[.func (.func 72) #[potV g n l c] #[], .func (.func 85) #[] #[.pointer (some ⟨P, 0, none⟩), .pointer (some ⟨K, 0, none⟩)]] w fun e w' =>
      e = .returned (.tuple #[mixV (bestMix (shareB (potU s m) n k) (potL n m l c s)), .bool (bestS (shareB (potU s m) n k) (potL n m l c s)).isSome]) ∧ Below w.heap.size w w' := by
  have hg : g < w.heap.size := by
    obtain ⟨b, off, e, hb, _⟩ := Units.at hu 0 hF.1
    cases e
    exact hb
  have hgood := corn_good (n := n) (u := potU s m) (l := l) (c := c) ⟨ht.1, ht.2.1⟩ ht.2.2 (potU_S hF s)
  refine bestMix_c _ _ _ (· = g) _ _ _ _ (shareB (potU s m) n k) w (corners_gives g n (potU s m) l c w hu hg hF.2.1 (potU_S hF s) ht) (fun k hk => by rw [hk]; exact hg) (enters_of Tryz.func72 (by kernel_rfl) rfl) (enters_of Tryz.func85 (by kernel_rfl) rfl) ?_
  intro W hW f hf h hh
  obtain ⟨f1, f2, f3⟩ := hgood f hf
  obtain ⟨g1, g2, g3⟩ := hgood h hh
  have hO : Ones n (potU s m) := ones_of hF s (!s)
  exact share1_c P K g n k (potU s m) l c f h W (RowIs.below hP hW) (RowIs.below hK hW) (hu.below hW) hO f1 g1 (by rw [ones_sum hO]; exact f3) (by rw [ones_sum hO]; exact g3) hk

theorem bestShare2_c (P K g n k : Nat) (m : Nat → M5) (l c : Int) (s : Bool) (w : World) (hF : Fine n m) (ht : 0 ≤ l ∧ l ≤ 1000 ∧ 0 ≤ c ∧ c ≤ 1000) (hu : Units w (some ⟨g, 0, none⟩) n (potU s m))
    (hP : RowIs w P #[.slice (some ⟨g, 0, none⟩) n n, .int .i64 1, .int .i64 0, .int .i64 l, .int .i64 c] 102) (hK : RowIs w K #[.int .i64 k] 3) (hk : k < 6) :
    Calls Tryz.prog 71 #[.func (.func 72) #[potV g n l c] #[], .func (.func 88) #[] #[.pointer (some ⟨P, 0, none⟩), .pointer (some ⟨K, 0, none⟩)]] w fun e w' =>
      e = .returned (.tuple #[mixV (bestMix (fun f h => shareB (potU s m) n k h f) (potL n m l c s)), .bool (bestS (fun f h => shareB (potU s m) n k h f) (potL n m l c s)).isSome]) ∧ Below w.heap.size w w' := by
  have hg : g < w.heap.size := by
    obtain ⟨b, off, e, hb, _⟩ := Units.at hu 0 hF.1
    cases e
    exact hb
  have hgood := corn_good (n := n) (u := potU s m) (l := l) (c := c) ⟨ht.1, ht.2.1⟩ ht.2.2 (potU_S hF s)
  refine bestMix_c _ _ _ (· = g) _ _ _ _ (fun f h => shareB (potU s m) n k h f) w (corners_gives g n (potU s m) l c w hu hg hF.2.1 (potU_S hF s) ht) (fun k hk => by rw [hk]; exact hg) (enters_of Tryz.func72 (by kernel_rfl) rfl) (enters_of Tryz.func88 (by kernel_rfl) rfl) ?_
  intro W hW f hf h hh
  obtain ⟨f1, f2, f3⟩ := hgood f hf
  obtain ⟨g1, g2, g3⟩ := hgood h hh
  have hO : Ones n (potU s m) := ones_of hF s (!s)
  exact share2_c P K g n k (potU s m) l c f h W (RowIs.below hP hW) (RowIs.below hK hW) (hu.below hW) hO f1 g1 (by rw [ones_sum hO]; exact f3) (by rw [ones_sum hO]; exact g3) hk

/-- Share: two fractions and an error. -/
def shareR (n : Nat) (m : Nat → M5) (l c : Int) (s : Bool) (metal : Int) : (Int × Int) × (Int × Int) × Int :=
  if bothE n m l c ≠ 0 then ((0, 0), (0, 0), bothE n m l c) else if metal < 0 ∨ (n : Int) ≤ metal then ((0, 0), (0, 0), 2) else
  match bestS (shareB (potU s m) n metal.toNat) (potL n m l c s), bestS (fun f h => shareB (potU s m) n metal.toNat h f) (potL n m l c s) with
  | some f, some h => ((ratN (f metal.toNat) (unitSum (potU s m) f n (·.q)), ratD (f metal.toNat) (unitSum (potU s m) f n (·.q))), (ratN (h metal.toNat) (unitSum (potU s m) h n (·.q)), ratD (h metal.toNat) (unitSum (potU s m) h n (·.q))), 0)
  | _, _ => ((0, 0), (0, 0), 17)

theorem foldS_some {α : Type} (lt : α → α → Bool) : ∀ (l : List α) (o : Option α), (l.foldl (bestStep lt) o).isSome = (o.isSome || !l.isEmpty)
  | [], o => by simp
  | x :: r, o => by
    rw [List.foldl_cons, foldS_some lt r]
    cases o with
    | none => simp [bestStep]
    | some y => simp only [bestStep]; split <;> simp

theorem bestS_some {α : Type} (lt : α → α → Bool) (l : List α) : (bestS lt l).isSome = !l.isEmpty := by
  unfold bestS
  rw [foldS_some]
  simp

/-- Two fractions are written. -/
theorem ratrow2 {w : World} {b : Nat} {x y : Int} {T : TypeId} (h : RowIs w b #[.int .i64 x, .int .i64 y] T) :
    w.cell? ⟨b, 0, none⟩ = some (.int .i64 x) ∧ w.cell? ⟨b, 1, none⟩ = some (.int .i64 y) ∧ w.frozen? ⟨b, 0, none⟩ = false ∧ w.frozen? ⟨b, 1, none⟩ = false ∧ b < w.heap.size :=
  ⟨h.cell 0, h.cell 1, h.frozen 0, h.frozen 1, (Array.getElem?_eq_some_iff.1 h).1⟩
def put2 (w : World) (b : Nat) (x y : Int) : World := (w.setCell ⟨b, 0, none⟩ (.int .i64 x)).setCell ⟨b, 1, none⟩ (.int .i64 y)
theorem put2_row {w : World} {b : Nat} {v0 v1 : Value} {T : TypeId} (h : RowIs w b #[v0, v1] T) (x y : Int) : RowIs (put2 w b x y) b #[.int .i64 x, .int .i64 y] T := by
  have := (h.set 0 (.int .i64 x)).set 1 (.int .i64 y)
  simpa [put2] using this
theorem put2_other {w : World} {b k : Nat} (h : k ≠ b) (x y : Int) : (put2 w b x y).heap[k]? = w.heap[k]? := by
  unfold put2
  rw [Below.heap_setCell _ _ _ _ h, Below.heap_setCell _ _ _ _ h]
theorem put2_below {w : World} {b B : Nat} (h : B ≤ b) (x y : Int) : Below B w (put2 w b x y) := ((Below.refl B w).setCell (p := ⟨b, 0, none⟩) h _).setCell (p := ⟨b, 1, none⟩) h _

set_option maxRecDepth 100000 in
set_option maxHeartbeats 4000000 in
theorem Share_c (a : Option Addr) (n cap : Nat) (m : Nat → M5) (l c : Int) (s : Bool) (metal : Int) (w : World) (hm : Metals w a n m) (hn : n ≤ 1048576) (hmt : -9223372036854775808 ≤ metal ∧ metal ≤ 9223372036854775807) :
    Calls Tryz.prog 40 #[.slice a n cap, .agg #[.int .i64 l, .int .i64 c], .bool s, .int .i64 metal] w fun e w' => e = .returned (re3 (shareR n m l c s metal)) ∧ Below w.heap.size w w' := by
  obtain ⟨W, hW⟩ : ∃ W, (((w.alloc (.cells #[.int .i64 l, .int .i64 c] 24)).alloc (.cells #[.int .i64 metal] 3)).alloc (.cells #[.int .i64 0, .int .i64 0] 29)).alloc (.cells #[.int .i64 0, .int .i64 0] 29) = W := ⟨_, rfl⟩
  have hB0 : Below w.heap.size w W := by rw [← hW]; exact Below.alloc1 (Below.alloc1 (Below.alloc1 (Below.alloc1 (Below.refl _ _) _ (Nat.le_refl _)) _ (Nat.le_refl _)) _ (Nat.le_refl _)) _ (Nat.le_refl _)
  have hT : RowIs W w.heap.size #[.int .i64 l, .int .i64 c] 24 := by rw [← hW]; exact RowIs.alloc (RowIs.alloc (RowIs.alloc (heap_new_at _ _ _ rfl) _) _) _
  have hK : RowIs W (w.heap.size + 1) #[.int .i64 metal] 3 := by rw [← hW]; exact RowIs.alloc (RowIs.alloc (heap_new_at _ _ _ (by simp)) _) _
  have hR : RowIs W (w.heap.size + 1 + 1) #[.int .i64 0, .int .i64 0] 29 := by rw [← hW]; exact RowIs.alloc (heap_new_at _ _ _ (by simp)) _
  have hR' : RowIs W (w.heap.size + 1 + 1 + 1) #[.int .i64 0, .int .i64 0] 29 := by rw [← hW]; exact heap_new_at _ _ _ (by simp)
  have hz3 : w.heap.size + 1 + 1 + 1 < W.heap.size := (Array.getElem?_eq_some_iff.1 hR').1
  have hz0 : w.heap.size < W.heap.size := by omega
  have c5 := hT.cell 0
  have c6 := hT.cell 1
  simp at c5 c6
  have hm0 := hm.below hB0
  have HK := Lib.hid hK
  have HR := Lib.hid hR
  have HR' := Lib.hid hR'
  clear hm hT hK hR hR'
  -- what is handed back when both fractions and the error are known
  have Hfin := Lib.hid (fun (V : World) (x y x' y' : Int) (hb : Below W.heap.size W V) =>
    (show RowIs (put2 (put2 V (w.heap.size + 1 + 1) x y) (w.heap.size + 1 + 1 + 1) x' y') (w.heap.size + 1 + 1) #[.int .i64 x, .int .i64 y] 29 ∧ RowIs (put2 (put2 V (w.heap.size + 1 + 1) x y) (w.heap.size + 1 + 1 + 1) x' y') (w.heap.size + 1 + 1 + 1) #[.int .i64 x', .int .i64 y'] 29 ∧ Below w.heap.size w (put2 (put2 V (w.heap.size + 1 + 1) x y) (w.heap.size + 1 + 1 + 1) x' y') from
      ⟨(put2_other (by omega) x' y').trans (put2_row (RowIs.below HR.out hb) x y), put2_row ((put2_other (by omega) x y).trans (RowIs.below HR'.out hb)) x' y',
       ((bup hB0 hb).trans (put2_below (by omega) x y)).trans (put2_below (by omega) x' y')⟩))
  by_cases h0 : bothE n m l c = 0
  · obtain ⟨hM, ht⟩ := both_ok h0
    have HFine := Lib.hid (fine_of hM)
    have H0 := Lib.hid h0
    have hn6 := HFine.out.2.1
    have hn1 := HFine.out.1
    clear hM
    by_cases hmi : metal < 0 ∨ (n : Int) ≤ metal
    · have ev : shareR n m l c s metal = ((0, 0), (0, 0), 2) := by unfold shareR; rw [if_neg (by simp [h0]), if_pos hmi]
      rw [ev]
      have hdec : decide (0 ≤ metal ∧ metal ≤ (n : Int) - 1) = false := by simp; omega
      clear ev h0 hmi
      go_enter Tryz.func40, Tryz.ntmps40
      go_wp2_with fail
      clear hW
      refine (newPot_c a n cap m l c s _ hm0 (by omega) H0.out).mono ?_
      rintro e w1 ⟨g, rfl, hU, hb1⟩
      clear c5 c6
      obtain ⟨W2, hW2⟩ : ∃ W2, w1.alloc (.cells #[.slice (some ⟨g, 0, none⟩) n n, .int .i64 1, .int .i64 0, .int .i64 l, .int .i64 c] 102) = W2 := ⟨_, rfl⟩
      have hb2 : Below w1.heap.size w1 W2 := by rw [← hW2]; exact Below.alloc1 (Below.refl _ _) _ (Nat.le_refl _)
      have hK2 := RowIs.below HK.out (bup hb1 hb2)
      have k0 : W2.cell? ⟨w.heap.size + 1, 0, none⟩ = some (.int .i64 metal) := hK2.cell 0
      have kz : w.heap.size + 1 < W2.heap.size := (Array.getElem?_eq_some_iff.1 hK2).1
      go_wp2_with fail
      clear hW2
      refine (withinI1_c 0 (n - 1) metal W2 _ rfl _).mono ?_
      rintro e w3 ⟨he, hw3⟩
      rw [hdec] at he
      subst he
      have hb3 : Below W2.heap.size W2 w3 := by rw [← hw3]; exact Below.alloc1 (Below.refl _ _) _ (Nat.le_refl _)
      have hb13 := bup (bup hb1 hb2) hb3
      obtain ⟨r0, r1, z0, z1, rz⟩ := ratrow (HR.out.below hb13)
      obtain ⟨s0, s1, y0, y1, sz⟩ := ratrow (HR'.out.below hb13)
      clear hw3 k0 kz
      go_wp2_with fail
      obtain ⟨hf, hf', hbf⟩ := Hfin.out w3 0 0 0 0 hb13
      change bodyPost _ _ _ _ _ (put2 (put2 w3 (w.heap.size + 1 + 1) 0 0) (w.heap.size + 1 + 1 + 1) 0 0)
      generalize put2 (put2 w3 (w.heap.size + 1 + 1) 0 0) (w.heap.size + 1 + 1 + 1) 0 0 = V at hf hf' hbf ⊢
      obtain ⟨q0, q1, _⟩ := ratrow2 hf
      obtain ⟨p0, p1, _⟩ := ratrow2 hf'
      exact bodyPost_ret (v := re3 ((0, 0), (0, 0), 2)) (by simp [results, Tryz.results40, go_sem, q0, q1, p0, p1]) rfl ⟨rfl, hbf⟩
    · have hk : metal.toNat < n := by omega
      have hmk : ((metal.toNat : Nat) : Int) = metal := by omega
      obtain ⟨k, hke⟩ : ∃ k, metal.toNat = k := ⟨_, rfl⟩
      rw [hke] at hk hmk
      have hdec : decide (0 ≤ metal ∧ metal ≤ (n : Int) - 1) = true := by simp; omega
      have hO : Ones n (potU s m) := ones_of HFine.out s (!s)
      have HO := Lib.hid hO
      have hsm1 := bestS_some (shareB (potU s m) n k) (potL n m l c s)
      have hsm2 := bestS_some (fun f h => shareB (potU s m) n k h f) (potL n m l c s)
      have hbest1 := fun (P K g : Nat) (w1 : World) => bestShare1_c P K g n k m l c s w1 HFine.out ht
      have hbest2 := fun (P K g : Nat) (w1 : World) => bestShare2_c P K g n k m l c s w1 HFine.out ht
      clear hO
      cases hb1 : bestS (shareB (potU s m) n k) (potL n m l c s) with
      | none =>
        have ev : shareR n m l c s metal = ((0, 0), (0, 0), 17) := by unfold shareR; rw [if_neg (by simp [h0]), if_neg hmi, hke, hb1]
        rw [hb1] at hbest1
        rw [ev]
        have HB1 := Lib.hid hbest1
        have Hmk := Lib.hid hmk
        clear ev h0 hmi hbest1 hbest2 hsm1 hsm2 hb1 hke hmk
        go_enter Tryz.func40, Tryz.ntmps40
        go_wp2_with fail
        clear hW
        refine (newPot_c a n cap m l c s _ hm0 (by omega) H0.out).mono ?_
        rintro e w1 ⟨g, rfl, hU, hb1⟩
        clear c5 c6
        obtain ⟨W2, hW2⟩ : ∃ W2, w1.alloc (.cells #[.slice (some ⟨g, 0, none⟩) n n, .int .i64 1, .int .i64 0, .int .i64 l, .int .i64 c] 102) = W2 := ⟨_, rfl⟩
        have hb2 : Below w1.heap.size w1 W2 := by rw [← hW2]; exact Below.alloc1 (Below.refl _ _) _ (Nat.le_refl _)
        have hP2 : RowIs W2 w1.heap.size #[.slice (some ⟨g, 0, none⟩) n n, .int .i64 1, .int .i64 0, .int .i64 l, .int .i64 c] 102 := by rw [← hW2]; exact heap_new_at _ _ _ rfl
        have HP2 := Lib.hid hP2
        have hK2 := RowIs.below HK.out (bup hb1 hb2)
        have k0 : W2.cell? ⟨w.heap.size + 1, 0, none⟩ = some (.int .i64 metal) := hK2.cell 0
        have kz : w.heap.size + 1 < W2.heap.size := (Array.getElem?_eq_some_iff.1 hK2).1
        have hU2 := hU.below hb2
        clear hP2 hU
        go_wp2_with fail
        clear hW2
        refine (withinI1_c 0 (n - 1) metal W2 _ rfl _).mono ?_
        rintro e w3 ⟨he, hw3⟩
        rw [hdec] at he
        subst he
        have hb3 : Below W2.heap.size W2 w3 := by rw [← hw3]; exact Below.alloc1 (Below.refl _ _) _ (Nat.le_refl _)
        have hb13 := bup (bup hb1 hb2) hb3
        obtain ⟨e0, e1, e2, e3, e4, ez⟩ := potrow (RowIs.below HP2.out hb3)
        have hK3 : RowIs w3 (w.heap.size + 1) #[.int .i64 k] 3 := by rw [Hmk.out]; exact RowIs.below HK.out hb13
        have hbc := HB1.out w1.heap.size (w.heap.size + 1) g w3 (hU2.below hb3) (RowIs.below HP2.out hb3) hK3 (by omega)
        have Hbc := Lib.hid hbc
        clear hw3 k0 kz hbc hK3
        go_wp2_with fail
        refine Hbc.out.mono ?_
        rintro e w4 ⟨rfl, hb4⟩
        have hb14 := bup hb13 hb4
        obtain ⟨r0, r1, z0, z1, rz⟩ := ratrow (HR.out.below hb14)
        obtain ⟨s0, s1, y0, y1, sz⟩ := ratrow (HR'.out.below hb14)
        clear e0 e1 e2 e3 e4 ez
        go_wp2_with fail
        obtain ⟨hf, hf', hbf⟩ := Hfin.out w4 0 0 0 0 hb14
        change bodyPost _ _ _ _ _ (World.alloc (put2 (put2 w4 (w.heap.size + 1 + 1) 0 0) (w.heap.size + 1 + 1 + 1) 0 0) _)
        generalize put2 (put2 w4 (w.heap.size + 1 + 1) 0 0) (w.heap.size + 1 + 1 + 1) 0 0 = V at hf hf' hbf ⊢
        have q0 := fun o => (ratrow2 (RowIs.alloc hf o)).1
        have q1 := fun o => (ratrow2 (RowIs.alloc hf o)).2.1
        have p0 := fun o => (ratrow2 (RowIs.alloc hf' o)).1
        have p1 := fun o => (ratrow2 (RowIs.alloc hf' o)).2.1
        exact bodyPost_ret (v := re3 ((0, 0), (0, 0), 17)) (by simp [results, Tryz.results40, go_sem, q0, q1, p0, p1]) rfl ⟨rfl, Below.alloc1 hbf _ (Nat.le_refl _)⟩
      | some f =>
        rw [hb1] at hsm1
        cases hb2' : bestS (fun f h => shareB (potU s m) n k h f) (potL n m l c s) with
        | none =>
          rw [hb2', ← hsm1] at hsm2
          cases hsm2
        | some h =>
        have ev : shareR n m l c s metal = ((ratN (f k) (unitSum (potU s m) f n (·.q)), ratD (f k) (unitSum (potU s m) f n (·.q))), (ratN (h k) (unitSum (potU s m) h n (·.q)), ratD (h k) (unitSum (potU s m) h n (·.q))), 0) := by unfold shareR; rw [if_neg (by simp [h0]), if_neg hmi, hke, hb1, hb2']
        have hfm : bestMix (shareB (potU s m) n k) (potL n m l c s) = f := by simp [bestMix, hb1]
        have hhm : bestMix (fun f h => shareB (potU s m) n k h f) (potL n m l c s) = h := by simp [bestMix, hb2']
        rw [hb1, hfm] at hbest1
        rw [hb2', hhm] at hbest2
        have hgood := corn_good (n := n) (u := potU s m) (l := l) (c := c) ⟨ht.1, ht.2.1⟩ ht.2.2 (potU_S HFine.out s)
        have hfL : f ∈ potL n m l c s := by
          rcases bestS_mem _ _ _ _ hb1 with h | h
          · cases h
          · exact h
        have hhL : h ∈ potL n m l c s := by
          rcases bestS_mem _ _ _ _ hb2' with h | h
          · cases h
          · exact h
        obtain ⟨f1, f2, f3⟩ := hgood f hfL
        obtain ⟨g1, g2, g3⟩ := hgood h hhL
        have hsf := fun (g : Nat) (w1 : World) (hu : Units w1 (some ⟨g, 0, none⟩) n (potU s m)) => share_c (some ⟨g, 0, none⟩) n n (potU s m) f k w1 hu HO.out.1 (fun i _ => ⟨(f1 i).1, Int.le_trans (f1 i).2 (by decide)⟩) (by rw [ones_sum HO.out]; exact f3) (by omega)
        have hsh := fun (g : Nat) (w1 : World) (hu : Units w1 (some ⟨g, 0, none⟩) n (potU s m)) => share_c (some ⟨g, 0, none⟩) n n (potU s m) h k w1 hu HO.out.1 (fun i _ => ⟨(g1 i).1, Int.le_trans (g1 i).2 (by decide)⟩) (by rw [ones_sum HO.out]; exact g3) (by omega)
        rw [ev]
        have HSf := Lib.hid hsf
        have HSh := Lib.hid hsh
        have HB2 := Lib.hid hbest2
        have HB1 := Lib.hid hbest1
        have Hmk := Lib.hid hmk
        clear ev h0 hmi hbest1 hbest2 hsm1 hsm2 hb1 hb2' hke hmk hfm hhm hgood hfL hhL f1 f2 f3 g1 g2 g3 hsf hsh
        go_enter Tryz.func40, Tryz.ntmps40
        go_wp2_with fail
        clear hW
        refine (newPot_c a n cap m l c s _ hm0 (by omega) H0.out).mono ?_
        rintro e w1 ⟨g, rfl, hU, hb1⟩
        clear c5 c6
        obtain ⟨W2, hW2⟩ : ∃ W2, w1.alloc (.cells #[.slice (some ⟨g, 0, none⟩) n n, .int .i64 1, .int .i64 0, .int .i64 l, .int .i64 c] 102) = W2 := ⟨_, rfl⟩
        have hb2 : Below w1.heap.size w1 W2 := by rw [← hW2]; exact Below.alloc1 (Below.refl _ _) _ (Nat.le_refl _)
        have hP2 : RowIs W2 w1.heap.size #[.slice (some ⟨g, 0, none⟩) n n, .int .i64 1, .int .i64 0, .int .i64 l, .int .i64 c] 102 := by rw [← hW2]; exact heap_new_at _ _ _ rfl
        have HP2 := Lib.hid hP2
        have hK2 := RowIs.below HK.out (bup hb1 hb2)
        have k0 : W2.cell? ⟨w.heap.size + 1, 0, none⟩ = some (.int .i64 metal) := hK2.cell 0
        have kz : w.heap.size + 1 < W2.heap.size := (Array.getElem?_eq_some_iff.1 hK2).1
        have hU2 := hU.below hb2
        clear hP2 hU
        go_wp2_with fail
        clear hW2
        refine (withinI1_c 0 (n - 1) metal W2 _ rfl _).mono ?_
        rintro e w3 ⟨he, hw3⟩
        rw [hdec] at he
        subst he
        have hb3 : Below W2.heap.size W2 w3 := by rw [← hw3]; exact Below.alloc1 (Below.refl _ _) _ (Nat.le_refl _)
        have hb13 := bup (bup hb1 hb2) hb3
        obtain ⟨e0, e1, e2, e3, e4, ez⟩ := potrow (RowIs.below HP2.out hb3)
        have hK3 : RowIs w3 (w.heap.size + 1) #[.int .i64 k] 3 := by rw [Hmk.out]; exact RowIs.below HK.out hb13
        have hbc := HB1.out w1.heap.size (w.heap.size + 1) g w3 (hU2.below hb3) (RowIs.below HP2.out hb3) hK3 (by omega)
        have Hbc := Lib.hid hbc
        clear hw3 k0 kz hbc hK3
        go_wp2_with fail
        refine Hbc.out.mono ?_
        rintro e w4 ⟨rfl, hb4⟩
        have hb14 := bup hb13 hb4
        clear e0 e1 e2 e3 e4 ez
        obtain ⟨W5, hW5⟩ : ∃ W5, w4.alloc (.cells #[.int .i64 (f 0), .int .i64 (f 1), .int .i64 (f 2), .int .i64 (f 3), .int .i64 (f 4), .int .i64 (f 5)] 88) = W5 := ⟨_, rfl⟩
        have hb5 : Below w4.heap.size w4 W5 := by rw [← hW5]; exact Below.alloc1 (Below.refl _ _) _ (Nat.le_refl _)
        have hF5 : RowIs W5 w4.heap.size (mixRow f) 88 := by rw [← hW5]; exact heap_new_at _ _ _ rfl
        have hb15 := bup hb14 hb5
        have hb35 := bup hb3 (bup hb4 hb5)
        have hP5 := RowIs.below HP2.out hb35
        obtain ⟨e0, e1, e2, e3, e4, ez⟩ := potrow hP5
        have hK5 : RowIs W5 (w.heap.size + 1) #[.int .i64 k] 3 := by rw [Hmk.out]; exact RowIs.below HK.out hb15
        have hbc2 := HB2.out w1.heap.size (w.heap.size + 1) g W5 (hU2.below hb35) hP5 hK5 (by omega)
        have Hbc2 := Lib.hid hbc2
        have HF5 := Lib.hid hF5
        clear hP5 hK5 hbc2 hF5
        go_wp2_with fail
        clear hW5
        refine Hbc2.out.mono ?_
        rintro e w6 ⟨rfl, hb6⟩
        obtain ⟨W7, hW7⟩ : ∃ W7, w6.alloc (.cells #[.int .i64 (h 0), .int .i64 (h 1), .int .i64 (h 2), .int .i64 (h 3), .int .i64 (h 4), .int .i64 (h 5)] 88) = W7 := ⟨_, rfl⟩
        have hb7 : Below w6.heap.size w6 W7 := by rw [← hW7]; exact Below.alloc1 (Below.refl _ _) _ (Nat.le_refl _)
        have hH7 : RowIs W7 w6.heap.size (mixRow h) 88 := by rw [← hW7]; exact heap_new_at _ _ _ rfl
        have hb57 := bup hb6 hb7
        have hb17 := bup hb15 hb57
        have hb37 := bup hb35 hb57
        have hF7 := RowIs.below HF5.out hb57
        have hP7 := RowIs.below HP2.out hb37
        have hK7 : RowIs W7 (w.heap.size + 1) #[.int .i64 k] 3 := by rw [Hmk.out]; exact RowIs.below HK.out hb17
        have hU7 := hU2.below hb37
        clear e0 e1 e2 e3 e4 ez
        obtain ⟨e0, e1, e2, e3, e4, ez⟩ := potrow hP7
        obtain ⟨⟨x0, x1, x2, x3, x4, x5, xz⟩, _⟩ := mrow hF7
        obtain ⟨⟨y0, y1, y2, y3, y4, y5, yz⟩, _⟩ := mrow hH7
        have k0 : W7.cell? ⟨w.heap.size + 1, 0, none⟩ = some (.int .i64 k) := hK7.cell 0
        have kz : w.heap.size + 1 < W7.heap.size := (Array.getElem?_eq_some_iff.1 hK7).1
        have hlc := fun (x : Later W7) => later_cell x
        clear hF7 hH7 hP7 hK7
        go_wp2_with fail
        clear hW7
        refine wp_region_later_tail 10 (by kernel_rfl) (by kernel_rfl) ?_
        simp only [List.take_succ_cons, List.take_zero, List.drop_succ_cons, List.drop_zero]
        repeat (go_big_quiet_step ((with_reducible first | (refine calls_later (HSf.out _ _ (hU7.below (Later.h _)))) | (refine calls_later (HSh.out _ _ (hU7.below (Later.h _)))))))
        refine wpQuiet_nil ?_
        clear hlc
        rintro ⟨w8, hb8⟩
        dsimp only
        have hb18 := bup hb17 hb8
        obtain ⟨r0, r1, z0, z1, rz⟩ := ratrow (HR.out.below hb18)
        obtain ⟨s0, s1, v0, v1, sz⟩ := ratrow (HR'.out.below hb18)
        clear e0 e1 e2 e3 e4 ez x0 x1 x2 x3 x4 x5 xz y0 y1 y2 y3 y4 y5 yz k0 kz
        go_wp2_with fail
        obtain ⟨hf, hf', hbf⟩ := Hfin.out w8 (ratN (f k) (unitSum (potU s m) f n (·.q))) (ratD (f k) (unitSum (potU s m) f n (·.q))) (ratN (h k) (unitSum (potU s m) h n (·.q))) (ratD (h k) (unitSum (potU s m) h n (·.q))) hb18
        change bodyPost _ _ _ _ _ (put2 (put2 w8 (w.heap.size + 1 + 1) (ratN (f k) (unitSum (potU s m) f n (·.q))) (ratD (f k) (unitSum (potU s m) f n (·.q)))) (w.heap.size + 1 + 1 + 1) (ratN (h k) (unitSum (potU s m) h n (·.q))) (ratD (h k) (unitSum (potU s m) h n (·.q))))
        generalize put2 (put2 w8 (w.heap.size + 1 + 1) (ratN (f k) (unitSum (potU s m) f n (·.q))) (ratD (f k) (unitSum (potU s m) f n (·.q)))) (w.heap.size + 1 + 1 + 1) (ratN (h k) (unitSum (potU s m) h n (·.q))) (ratD (h k) (unitSum (potU s m) h n (·.q))) = V at hf hf' hbf ⊢
        obtain ⟨q0, q1, _⟩ := ratrow2 hf
        obtain ⟨p0, p1, _⟩ := ratrow2 hf'
        exact bodyPost_ret (v := re3 (((ratN (f k) (unitSum (potU s m) f n (·.q))), (ratD (f k) (unitSum (potU s m) f n (·.q)))), ((ratN (h k) (unitSum (potU s m) h n (·.q))), (ratD (h k) (unitSum (potU s m) h n (·.q)))), 0)) (by simp [results, Tryz.results40, go_sem, q0, q1, p0, p1]) rfl ⟨rfl, hbf⟩
  · have ev : shareR n m l c s metal = ((0, 0), (0, 0), bothE n m l c) := by unfold shareR; rw [if_pos h0]
    have h0' : (bothE n m l c != 0) = true := by simpa using h0
    have H0 := Lib.hid h0
    rw [ev]
    clear ev h0
    go_enter Tryz.func40, Tryz.ntmps40
    go_wp2_with fail
    clear hW
    refine (newPot_err_c a n cap m l c s _ hm0 (by omega) H0.out).mono ?_
    rintro e w1 ⟨rfl, hb1⟩
    clear c5 c6
    obtain ⟨r0, r1, z0, z1, rz⟩ := ratrow (HR.out.below hb1)
    obtain ⟨s0, s1, v0, v1, sz⟩ := ratrow (HR'.out.below hb1)
    go_wp2_with fail
    obtain ⟨hf, hf', hbf⟩ := Hfin.out w1 0 0 0 0 hb1
    change bodyPost _ _ _ _ _ (World.alloc (put2 (put2 w1 (w.heap.size + 1 + 1) 0 0) (w.heap.size + 1 + 1 + 1) 0 0) _)
    generalize put2 (put2 w1 (w.heap.size + 1 + 1) 0 0) (w.heap.size + 1 + 1 + 1) 0 0 = V at hf hf' hbf ⊢
    have q0 := fun o => (ratrow2 (RowIs.alloc hf o)).1
    have q1 := fun o => (ratrow2 (RowIs.alloc hf o)).2.1
    have p0 := fun o => (ratrow2 (RowIs.alloc hf' o)).1
    have p1 := fun o => (ratrow2 (RowIs.alloc hf' o)).2.1
    exact bodyPost_ret (v := re3 ((0, 0), (0, 0), bothE n m l c)) (by simp [results, Tryz.results40, go_sem, q0, q1, p0, p1]) rfl ⟨rfl, Below.alloc1 hbf _ (Nat.le_refl _)⟩

end Go.Proofs.YtehafggcncbnkaaGreat

namespace Go.Proofs.YtehafggcncbnkaaGreat
open Go Go.RowKit

/-- The metals M and V of the chapter's examples. -/
def fourM : Nat → M5
  | 0 => ⟨90, 0, 0, 0, 0⟩
  | 1 => ⟨20, 1000, 1000, 0, 0⟩
  | 2 => ⟨120, 0, 0, 1000, 1000⟩
  | _ => ⟨50, 180, 220, 10, 20⟩
def twoM : Nat → M5
  | 0 => ⟨20, 1000, 1000, 0, 0⟩
  | _ => ⟨50, 180, 220, 10, 20⟩
def lst (l : List Int) (i : Nat) : Int := l.getD i 0

set_option maxRecDepth 100000
theorem x_cost1 : costR 4 fourM 4 (lst [297, 0, 3, 250]) = (3959, 55, 0) := by kernel_rfl
theorem x_cost2 : costR 4 fourM 4 (lst [0, 0, 0, 0]) = (0, 0, 2) := by kernel_rfl
theorem x_cost3 : costR 4 fourM 2 (lst [1, 1]) = (0, 0, 15) := by kernel_rfl
theorem x_ends : endsR 4 fourM 4 (lst [0, 0, 0, 1]) false = ((180, 1), (220, 1), 0) := by kernel_rfl
theorem x_des1 : deservesE 4 fourM 100 10 true 4 (lst [297, 0, 3, 250]) = 0 := by kernel_rfl
theorem x_des2 : deservesE 4 fourM 100 10 true 4 (lst [4, 0, 0, 5]) = 17 := by kernel_rfl
theorem x_des3 : deservesE 4 fourM 100 10 false 4 (lst [4, 0, 0, 5]) = 0 := by kernel_rfl
theorem x_des4 : deservesE 4 fourM 100 10 false 4 (lst [1, 0, 0, 0]) = 17 := by kernel_rfl
theorem x_least1 : leastR 4 fourM 100 10 true = (3959, 55, 0) := by kernel_rfl
theorem x_least2 : leastR 4 fourM 100 10 false = (610, 9, 0) := by kernel_rfl
theorem x_least3 : leastR 2 twoM 100 10 true = (0, 0, 17) := by kernel_rfl
theorem x_both4 : bothE 4 fourM 100 10 = 0 := by kernel_rfl
theorem x_both2 : bothE 2 twoM 100 10 = 0 := by kernel_rfl
theorem x_best4 : (bestS (cheapB 4 fourM true) (potL 4 fourM 100 10 true)).isSome = true := by kernel_rfl
theorem x_cheap : deservesE 4 fourM 100 10 true 4 (bestMix (cheapB 4 fourM true) (potL 4 fourM 100 10 true)) = 0 := by kernel_rfl
theorem x_prf1 : checkProofR 4 fourM 100 10 true ⟨2200, 198000, 403, 66⟩ = (3959, 55, 0) := by kernel_rfl
theorem x_prf2 : checkProofR 4 fourM 100 10 true ⟨1, 50, 0, 0⟩ = (0, 0, 14) := by kernel_rfl
theorem x_emp4 : (potL 4 fourM 100 10 true).isEmpty = false := by kernel_rfl
theorem x_emp2 : (potL 2 twoM 100 10 true).isEmpty = true := by kernel_rfl
theorem x_nev1 : checkNeverE 2 twoM 100 10 true ⟨0, 220, 1, 0⟩ = 0 := by kernel_rfl
theorem x_nev2 : checkNeverE 2 twoM 100 10 true ⟨0, 1, 0, 0⟩ = 14 := by kernel_rfl
theorem x_nev3 : neverE 4 fourM 100 10 true = 5 := by kernel_rfl
theorem x_share1 : shareR 4 fourM 100 10 true 3 = ((0, 1), (5, 11), 0) := by kernel_rfl
theorem x_share2 : shareR 4 fourM 100 10 true 4 = ((0, 0), (0, 0), 2) := by kernel_rfl

end Go.Proofs.YtehafggcncbnkaaGreat

namespace Go.Proofs.YtehafggcncbnkaaGreat
open Go Go.RowKit

set_option maxHeartbeats 1000000 in
theorem metal_c (p l0 l1 c0 c1 : Int) (w : World) : Calls Tryz.prog 90 #[.int .i64 p, .int .i64 l0, .int .i64 l1, .int .i64 c0, .int .i64 c1] w fun e w' => e = .returned (.agg #[.int .i64 p, .int .i64 l0, .int .i64 l1, .int .i64 c0, .int .i64 c1]) ∧ Below w.heap.size w w' := by
  go_enter Tryz.func90, Tryz.ntmps90
  go_wp2_with fail
  refine bodyPost_ret (v := .agg #[.int .i64 p, .int .i64 l0, .int .i64 l1, .int .i64 c0, .int .i64 c1]) (by simp [results, Tryz.results90, go_sem]) rfl ⟨rfl, Below.alloc1 (Below.refl _ _) _ (Nat.le_refl _)⟩

set_option maxHeartbeats 1000000 in
theorem touchT_c (w : World) : Calls Tryz.prog 52 #[] w fun e w' => e = .returned (.agg #[.int .i64 100, .int .i64 10]) ∧ Below w.heap.size w w' := by
  go_enter Tryz.func52, Tryz.ntmps52
  go_wp2_with fail
  refine bodyPost_ret (v := .agg #[.int .i64 100, .int .i64 10]) (by simp [results, Tryz.results52, go_sem]) rfl ⟨rfl, Below.alloc1 (Below.refl _ _) _ (Nat.le_refl _)⟩

set_option maxHeartbeats 1000000 in
theorem longs_c (v : Value) (w : World) : Calls Tryz.prog 53 #[v] w fun e w' => e = .returned v ∧ w = w' := by
  go_enter Tryz.func53, Tryz.ntmps53
  go_wp2
  go_ret
  exact ⟨rfl, rfl⟩

set_option maxHeartbeats 1000000 in
theorem proofT_c (d b l c : Int) (w : World) : Calls Tryz.prog 54 #[.int .i64 d, .int .i64 b, .int .i64 l, .int .i64 c] w fun e w' => e = .returned (proofV ⟨d, b, l, c⟩) ∧ Below w.heap.size w w' := by
  go_enter Tryz.func54, Tryz.ntmps54
  go_wp2_with fail
  refine bodyPost_ret (v := proofV ⟨d, b, l, c⟩) (by simp [results, Tryz.results54, go_sem]) rfl ⟨rfl, Below.alloc1 (Below.refl _ _) _ (Nat.le_refl _)⟩

set_option maxHeartbeats 1000000 in
theorem byT_c (x y : Int) (w : World) : Calls Tryz.prog 55 #[.int .i64 x, .int .i64 y] w fun e w' => e = .returned (.agg #[.int .i64 x, .int .i64 y]) ∧ Below w.heap.size w w' := by
  go_enter Tryz.func55, Tryz.ntmps55
  go_wp2_with fail
  refine bodyPost_ret (v := .agg #[.int .i64 x, .int .i64 y]) (by simp [results, Tryz.results55, go_sem]) rfl ⟨rfl, Below.alloc1 (Below.refl _ _) _ (Nat.le_refl _)⟩

theorem metals_row {w : World} {g n : Nat} {T : TypeId} {m : Nat → M5} (h : RowIs w g (catF (fun i => [Value.int .i64 (m i).p, .int .i64 (m i).l0, .int .i64 (m i).l1, .int .i64 (m i).c0, .int .i64 (m i).c1]) n).toArray T) : Metals w (some ⟨g, 0, none⟩) n m := by
  refine .inr ⟨g, 0, rfl, (Array.getElem?_eq_some_iff.1 h).1, fun i hi => ?_⟩
  have key : ∀ j, j < 5 → w.cell? ⟨g, 0 + i * 5 + j, none⟩ = [Value.int .i64 (m i).p, .int .i64 (m i).l0, .int .i64 (m i).l1, .int .i64 (m i).c0, .int .i64 (m i).c1][j]? := fun j hj => by
    rw [RowIs.cell h, Nat.zero_add]
    simp only [List.getElem?_toArray]
    exact catF_get (fun i => [Value.int .i64 (m i).p, .int .i64 (m i).l0, .int .i64 (m i).l1, .int .i64 (m i).c0, .int .i64 (m i).c1]) 5 (fun _ => rfl) i j hj n hi
  exact ⟨key 0 (by decide), key 1 (by decide), key 2 (by decide), key 3 (by decide), key 4 (by decide)⟩

set_option maxRecDepth 100000 in
set_option maxHeartbeats 1000000 in
theorem four_c (w : World) : Calls Tryz.prog 50 #[] w fun e w' => ∃ g, e = .returned (.slice (some ⟨g, 0, none⟩) 4 4) ∧ Metals w' (some ⟨g, 0, none⟩) 4 fourM ∧ Below w.heap.size w w' := by
  go_enter Tryz.func50, Tryz.ntmps50
  go_wp2_with fail
  refine (metal_c _ _ _ _ _ _).mono ?_
  rintro e w1 ⟨rfl, hb1⟩
  go_wp2_with fail
  refine (metal_c _ _ _ _ _ _).mono ?_
  rintro e w2 ⟨rfl, hb2⟩
  go_wp2_with fail
  refine (metal_c _ _ _ _ _ _).mono ?_
  rintro e w3 ⟨rfl, hb3⟩
  go_wp2_with fail
  refine (metal_c _ _ _ _ _ _).mono ?_
  rintro e w4 ⟨rfl, hb4⟩
  go_wp2_with fail
  go_ret
  exact ⟨w4.heap.size, rfl, metals_row (T := 68) (heap_new_at _ _ _ rfl), Below.alloc1 (bup (bup (bup hb1 hb2) hb3) hb4) _ (Nat.le_refl _)⟩

set_option maxRecDepth 100000 in
set_option maxHeartbeats 1000000 in
theorem two_c (w : World) : Calls Tryz.prog 51 #[] w fun e w' => ∃ g, e = .returned (.slice (some ⟨g, 0, none⟩) 2 2) ∧ Metals w' (some ⟨g, 0, none⟩) 2 twoM ∧ Below w.heap.size w w' := by
  go_enter Tryz.func51, Tryz.ntmps51
  go_wp2_with fail
  refine (metal_c _ _ _ _ _ _).mono ?_
  rintro e w1 ⟨rfl, hb1⟩
  go_wp2_with fail
  refine (metal_c _ _ _ _ _ _).mono ?_
  rintro e w2 ⟨rfl, hb2⟩
  go_wp2_with fail
  go_ret
  exact ⟨w2.heap.size, rfl, metals_row (T := 68) (heap_new_at _ _ _ rfl), Below.alloc1 (bup hb1 hb2) _ (Nat.le_refl _)⟩

end Go.Proofs.YtehafggcncbnkaaGreat
