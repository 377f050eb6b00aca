/- Contracts of package alloy: Proof, Never. -/
import Derived.Test.YtfjepnpnphoobaaGreatProg
import Derived.Test.YtfjepnpnphoobaaGreatMetaa
import Derived.Test.YtfjepnpnphoobaaGreatMetab
import Derived.Test.YtfjepnpnphoobaaGreatMetae
import Derived.Test.YtfjepnpnphoobaaGreatMetai
import Derived.Test.YtfjepnpnphoobaaGreatMetan
import Derived.Test.YtfjepnpnphoobaaGreatMetam
import Derived.Test.YtfjepnpnphoobaaGreatMetar
namespace Go.Proofs.YtfjepnpnphoobaaGreat
open Go Go.RowKit

/-- Proof's error, and Never's. -/
def proofE (n : Nat) (m : Nat → M5) (l c : Int) (s : Bool) : Int := if bothE n m l c ≠ 0 then bothE n m l c else if (potL n m l c s).isEmpty then 17 else 0
def neverE (n : Nat) (m : Nat → M5) (l c : Int) (s : Bool) : Int := if bothE n m l c ≠ 0 then bothE n m l c else if (potL n m l c s).isEmpty then 0 else 5

set_option maxRecDepth 100000 in
set_option maxHeartbeats 4000000 in
theorem Proof_no_c (a : Option Addr) (n cap : Nat) (m : Nat → M5) (l c : Int) (s : Bool) (w : World) (hm : Metals w a n m) (hn : n ≤ 1048576) (he : proofE n m l c s ≠ 0) :
    Calls Tryz.prog 35 #[.slice a n cap, .agg #[.int .i64 l, .int .i64 c], .bool s] w fun e w' => e = .returned (.tuple #[proofV zeroP, .int .i64 (proofE n m l c s)]) ∧ Below w.heap.size w w' := by
  obtain ⟨W, hW⟩ : ∃ W, (w.alloc (.cells #[.int .i64 l, .int .i64 c] 24)).alloc (.cells #[.int .i64 0, .int .i64 0, .int .i64 0, .int .i64 0] 45) = W := ⟨_, rfl⟩
  have hB0 : Below w.heap.size w W := by rw [← hW]; exact Below.alloc1 (Below.alloc1 (Below.refl _ _) _ (Nat.le_refl _)) _ (Nat.le_refl _)
  have hT : RowIs W w.heap.size #[.int .i64 l, .int .i64 c] 24 := by rw [← hW]; exact RowIs.alloc (heap_new_at _ _ _ rfl) _
  have hR : RowIs W (w.heap.size + 1) (prfRow zeroP) 45 := by rw [← hW]; exact heap_new_at _ _ _ (by simp)
  have hz1 : w.heap.size + 1 < W.heap.size := (Array.getElem?_eq_some_iff.1 hR).1
  have hz0 : w.heap.size < W.heap.size := by omega
  have c5 := hT.cell 0
  have c6 := hT.cell 1
  simp at c5 c6
  have hm0 := hm.below hB0
  have HR := Lib.hid hR
  clear hm hT hR
  by_cases h0 : bothE n m l c = 0
  · obtain ⟨hM, ht⟩ := both_ok h0
    have HFine := Lib.hid (fine_of hM)
    have H0 := Lib.hid h0
    clear hM
    have hemp : (potL n m l c s).isEmpty = true := by
      cases he' : (potL n m l c s).isEmpty with
      | true => rfl
      | false => exact absurd (by unfold proofE; rw [if_neg (by simp [h0]), he']; rfl) he
    have ev : proofE n m l c s = 17 := by unfold proofE; rw [if_neg (by simp [h0]), hemp]; rfl
    have hpos := fun (g : Nat) (w1 : World) (hu : Units w1 (some ⟨g, 0, none⟩) n (potU s m)) => possible_c g n m l c s w1 HFine.out ht hu
    rw [hemp] at hpos
    rw [ev]
    have HPos := Lib.hid hpos
    clear ev hpos h0 he hemp
    go_enter Tryz.func35, Tryz.ntmps35
    go_wp2_with fail
    clear hW
    refine (newPot_c a n cap m l c s _ hm0 (by omega) H0.out).mono ?_
    rintro e w1 ⟨g, rfl, hU, hb1⟩
    clear c5 c6
    obtain ⟨W2, hW2⟩ : ∃ W2, w1.alloc (.cells #[.slice (some ⟨g, 0, none⟩) n n, .int .i64 1, .int .i64 0, .int .i64 l, .int .i64 c] 101) = W2 := ⟨_, rfl⟩
    have hb2 : Below w1.heap.size w1 W2 := by rw [← hW2]; exact Below.alloc1 (Below.refl _ _) _ (Nat.le_refl _)
    have hP2 : RowIs W2 w1.heap.size #[.slice (some ⟨g, 0, none⟩) n n, .int .i64 1, .int .i64 0, .int .i64 l, .int .i64 c] 101 := by rw [← hW2]; exact heap_new_at _ _ _ rfl
    obtain ⟨e0, e1, e2, e3, e4, ez⟩ := potrow hP2
    clear hP2
    go_wp2_with fail
    clear hW2
    refine (HPos.out g W2 (hU.below hb2)).mono ?_
    rintro e w3 ⟨rfl, hb3⟩
    have hb13 := bup hb1 (bup hb2 hb3)
    obtain ⟨⟨r0, r1, r2, r3, rz⟩, z0, z1, z2, z3⟩ := qrow (RowIs.below HR.out hb13)
    clear e0 e1 e2 e3 e4 ez
    go_wp2_with fail
    have hf : RowIs (put4 w3 (w.heap.size + 1) zeroP) (w.heap.size + 1) (prfRow zeroP) 45 := put4_row (RowIs.below HR.out hb13) zeroP
    have hbf : Below w.heap.size w (put4 w3 (w.heap.size + 1) zeroP) := (bup hB0 hb13).trans (put4_below (Nat.le_succ _) zeroP)
    change bodyPost _ _ _ _ _ (put4 w3 (w.heap.size + 1) zeroP)
    generalize put4 w3 (w.heap.size + 1) zeroP = V at hf hbf ⊢
    obtain ⟨⟨q0, q1, q2, q3, qz⟩, _⟩ := qrow hf
    exact bodyPost_ret (v := .tuple #[proofV zeroP, .int .i64 17]) (by simp [results, Tryz.results35, go_sem, q0, q1, q2, q3]) rfl ⟨rfl, hbf⟩
  · have ev : proofE n m l c s = bothE n m l c := by unfold proofE; rw [if_pos h0]
    have h0' : (bothE n m l c != 0) = true := by simpa using h0
    have H0 := Lib.hid h0
    rw [ev]
    clear ev h0 he
    go_enter Tryz.func35, Tryz.ntmps35
    go_wp2_with fail
    clear hW
    refine (newPot_err_c a n cap m l c s _ hm0 (by omega) H0.out).mono ?_
    rintro e w1 ⟨rfl, hb1⟩
    clear c5 c6
    obtain ⟨⟨r0, r1, r2, r3, rz⟩, z0, z1, z2, z3⟩ := qrow (RowIs.below HR.out hb1)
    go_wp2_with fail
    have hf : RowIs (put4 w1 (w.heap.size + 1) zeroP) (w.heap.size + 1) (prfRow zeroP) 45 := put4_row (RowIs.below HR.out hb1) zeroP
    have hbf : Below w.heap.size w (put4 w1 (w.heap.size + 1) zeroP) := (bup hB0 hb1).trans (put4_below (Nat.le_succ _) zeroP)
    have hfa := RowIs.alloc hf (.cells #[.slice none 0 0, .int .i64 0, .int .i64 0, .int .i64 0, .int .i64 0] 101)
    have hba := Below.alloc1 hbf (.cells #[.slice none 0 0, .int .i64 0, .int .i64 0, .int .i64 0, .int .i64 0] 101) (Nat.le_refl _)
    change bodyPost _ _ _ _ _ ((put4 w1 (w.heap.size + 1) zeroP).alloc (.cells #[.slice none 0 0, .int .i64 0, .int .i64 0, .int .i64 0, .int .i64 0] 101))
    generalize (put4 w1 (w.heap.size + 1) zeroP).alloc (.cells #[.slice none 0 0, .int .i64 0, .int .i64 0, .int .i64 0, .int .i64 0] 101) = V at hfa hba ⊢
    obtain ⟨⟨q0, q1, q2, q3, qz⟩, _⟩ := qrow hfa
    exact bodyPost_ret (v := .tuple #[proofV zeroP, .int .i64 (bothE n m l c)]) (by simp [results, Tryz.results35, go_sem, q0, q1, q2, q3]) rfl ⟨rfl, hba⟩

set_option maxRecDepth 100000 in
set_option maxHeartbeats 4000000 in
theorem Proof_yes_c (a : Option Addr) (n cap : Nat) (m : Nat → M5) (l c : Int) (s : Bool) (w : World) (hm : Metals w a n m) (hn : n ≤ 1048576) (h0 : bothE n m l c = 0) (hemp : (potL n m l c s).isEmpty = false) (hne : ∃ p, costS n (potU s m) p) :
    Calls Tryz.prog 35 #[.slice a n cap, .agg #[.int .i64 l, .int .i64 c], .bool s] w fun e w' => ∃ L, (∀ p, p ∈ L ↔ costS n (potU s m) p) ∧ e = .returned (.tuple #[proofV (bestP (costLt l c) L), .int .i64 0]) ∧ Below w.heap.size w w' := by
  obtain ⟨W, hW⟩ : ∃ W, (w.alloc (.cells #[.int .i64 l, .int .i64 c] 24)).alloc (.cells #[.int .i64 0, .int .i64 0, .int .i64 0, .int .i64 0] 45) = W := ⟨_, rfl⟩
  have hB0 : Below w.heap.size w W := by rw [← hW]; exact Below.alloc1 (Below.alloc1 (Below.refl _ _) _ (Nat.le_refl _)) _ (Nat.le_refl _)
  have hT : RowIs W w.heap.size #[.int .i64 l, .int .i64 c] 24 := by rw [← hW]; exact RowIs.alloc (heap_new_at _ _ _ rfl) _
  have hR : RowIs W (w.heap.size + 1) (prfRow zeroP) 45 := by rw [← hW]; exact heap_new_at _ _ _ (by simp)
  have hz1 : w.heap.size + 1 < W.heap.size := (Array.getElem?_eq_some_iff.1 hR).1
  have hz0 : w.heap.size < W.heap.size := by omega
  have c5 := hT.cell 0
  have c6 := hT.cell 1
  simp at c5 c6
  have hm0 := hm.below hB0
  have HR := Lib.hid hR
  obtain ⟨hM, ht⟩ := both_ok h0
  have HFine := Lib.hid (fine_of hM)
  have H0 := Lib.hid h0
  have hpos := fun (g : Nat) (w1 : World) (hu : Units w1 (some ⟨g, 0, none⟩) n (potU s m)) => possible_c g n m l c s w1 HFine.out ht hu
  rw [hemp] at hpos
  have HPos := Lib.hid hpos
  have Hne := Lib.hid hne
  clear hm hT hR hM hpos h0 hemp hne
  go_enter Tryz.func35, Tryz.ntmps35
  go_wp2_with fail
  clear hW
  refine (newPot_c a n cap m l c s _ hm0 (by omega) H0.out).mono ?_
  rintro e w1 ⟨g, rfl, hU, hb1⟩
  clear c5 c6
  obtain ⟨W2, hW2⟩ : ∃ W2, w1.alloc (.cells #[.slice (some ⟨g, 0, none⟩) n n, .int .i64 1, .int .i64 0, .int .i64 l, .int .i64 c] 101) = W2 := ⟨_, rfl⟩
  have hb2 : Below w1.heap.size w1 W2 := by rw [← hW2]; exact Below.alloc1 (Below.refl _ _) _ (Nat.le_refl _)
  have hP2 : RowIs W2 w1.heap.size #[.slice (some ⟨g, 0, none⟩) n n, .int .i64 1, .int .i64 0, .int .i64 l, .int .i64 c] 101 := by rw [← hW2]; exact heap_new_at _ _ _ rfl
  obtain ⟨e0, e1, e2, e3, e4, ez⟩ := potrow hP2
  have HP2 := Lib.hid hP2
  have hU2 := hU.below hb2
  clear hP2 hU
  go_wp2_with fail
  clear hW2
  refine (HPos.out g W2 hU2).mono ?_
  rintro e w3 ⟨rfl, hb3⟩
  have hb13 := bup hb1 (bup hb2 hb3)
  clear e0 e1 e2 e3 e4 ez
  obtain ⟨e0, e1, e2, e3, e4, ez⟩ := potrow (HP2.out.below hb3)
  go_wp2_with fail
  refine (costProof_c g n m l c s w3 HFine.out ht (hU2.below hb3) (ones_of HFine.out s (!s)) Hne.out).mono ?_
  rintro e w4 ⟨L, hL, rfl, hb4⟩
  have hb14 := bup hb13 hb4
  obtain ⟨⟨r0, r1, r2, r3, rz⟩, z0, z1, z2, z3⟩ := qrow (RowIs.below HR.out hb14)
  obtain ⟨q, hq⟩ : ∃ q, bestP (costLt l c) L = q := ⟨_, rfl⟩
  rw [hq]
  have Hq := Lib.hid hq
  have HL := Lib.hid hL
  clear hq hL e0 e1 e2 e3 e4 ez
  go_wp2_with fail
  have hf : RowIs (put4 w4 (w.heap.size + 1) q) (w.heap.size + 1) (prfRow q) 45 := put4_row (RowIs.below HR.out hb14) q
  have hbf : Below w.heap.size w (put4 w4 (w.heap.size + 1) q) := (bup hB0 hb14).trans (put4_below (Nat.le_succ _) q)
  change bodyPost _ _ _ _ _ (put4 w4 (w.heap.size + 1) q)
  generalize put4 w4 (w.heap.size + 1) q = V at hf hbf ⊢
  obtain ⟨⟨q0, q1, q2, q3, qz⟩, _⟩ := qrow hf
  exact bodyPost_ret (v := .tuple #[proofV q, .int .i64 0]) (by simp [results, Tryz.results35, go_sem, q0, q1, q2, q3]) rfl ⟨L, HL.out, by rw [Hq.out], hbf⟩

set_option maxRecDepth 100000 in
set_option maxHeartbeats 4000000 in
theorem Never_no_c (a : Option Addr) (n cap : Nat) (m : Nat → M5) (l c : Int) (s : Bool) (w : World) (hm : Metals w a n m) (hn : n ≤ 1048576) (he : neverE n m l c s ≠ 0) :
    Calls Tryz.prog 36 #[.slice a n cap, .agg #[.int .i64 l, .int .i64 c], .bool s] w fun e w' => e = .returned (.tuple #[proofV zeroP, .int .i64 (neverE n m l c s)]) ∧ Below w.heap.size w w' := by
  obtain ⟨W, hW⟩ : ∃ W, (w.alloc (.cells #[.int .i64 l, .int .i64 c] 24)).alloc (.cells #[.int .i64 0, .int .i64 0, .int .i64 0, .int .i64 0] 45) = W := ⟨_, rfl⟩
  have hB0 : Below w.heap.size w W := by rw [← hW]; exact Below.alloc1 (Below.alloc1 (Below.refl _ _) _ (Nat.le_refl _)) _ (Nat.le_refl _)
  have hT : RowIs W w.heap.size #[.int .i64 l, .int .i64 c] 24 := by rw [← hW]; exact RowIs.alloc (heap_new_at _ _ _ rfl) _
  have hR : RowIs W (w.heap.size + 1) (prfRow zeroP) 45 := by rw [← hW]; exact heap_new_at _ _ _ (by simp)
  have hz1 : w.heap.size + 1 < W.heap.size := (Array.getElem?_eq_some_iff.1 hR).1
  have hz0 : w.heap.size < W.heap.size := by omega
  have c5 := hT.cell 0
  have c6 := hT.cell 1
  simp at c5 c6
  have hm0 := hm.below hB0
  have HR := Lib.hid hR
  clear hm hT hR
  by_cases h0 : bothE n m l c = 0
  · obtain ⟨hM, ht⟩ := both_ok h0
    have HFine := Lib.hid (fine_of hM)
    have H0 := Lib.hid h0
    clear hM
    have hemp : (potL n m l c s).isEmpty = false := by
      cases he' : (potL n m l c s).isEmpty with
      | false => rfl
      | true => exact absurd (by unfold neverE; rw [if_neg (by simp [h0]), he']; rfl) he
    have ev : neverE n m l c s = 5 := by unfold neverE; rw [if_neg (by simp [h0]), hemp]; rfl
    have hpos := fun (g : Nat) (w1 : World) (hu : Units w1 (some ⟨g, 0, none⟩) n (potU s m)) => possible_c g n m l c s w1 HFine.out ht hu
    rw [hemp] at hpos
    rw [ev]
    have HPos := Lib.hid hpos
    clear ev hpos h0 he hemp
    go_enter Tryz.func36, Tryz.ntmps36
    go_wp2_with fail
    clear hW
    refine (newPot_c a n cap m l c s _ hm0 (by omega) H0.out).mono ?_
    rintro e w1 ⟨g, rfl, hU, hb1⟩
    clear c5 c6
    obtain ⟨W2, hW2⟩ : ∃ W2, w1.alloc (.cells #[.slice (some ⟨g, 0, none⟩) n n, .int .i64 1, .int .i64 0, .int .i64 l, .int .i64 c] 101) = W2 := ⟨_, rfl⟩
    have hb2 : Below w1.heap.size w1 W2 := by rw [← hW2]; exact Below.alloc1 (Below.refl _ _) _ (Nat.le_refl _)
    have hP2 : RowIs W2 w1.heap.size #[.slice (some ⟨g, 0, none⟩) n n, .int .i64 1, .int .i64 0, .int .i64 l, .int .i64 c] 101 := by rw [← hW2]; exact heap_new_at _ _ _ rfl
    obtain ⟨e0, e1, e2, e3, e4, ez⟩ := potrow hP2
    clear hP2
    go_wp2_with fail
    clear hW2
    refine (HPos.out g W2 (hU.below hb2)).mono ?_
    rintro e w3 ⟨rfl, hb3⟩
    have hb13 := bup hb1 (bup hb2 hb3)
    obtain ⟨⟨r0, r1, r2, r3, rz⟩, z0, z1, z2, z3⟩ := qrow (RowIs.below HR.out hb13)
    clear e0 e1 e2 e3 e4 ez
    go_wp2_with fail
    have hf : RowIs (put4 w3 (w.heap.size + 1) zeroP) (w.heap.size + 1) (prfRow zeroP) 45 := put4_row (RowIs.below HR.out hb13) zeroP
    have hbf : Below w.heap.size w (put4 w3 (w.heap.size + 1) zeroP) := (bup hB0 hb13).trans (put4_below (Nat.le_succ _) zeroP)
    change bodyPost _ _ _ _ _ (put4 w3 (w.heap.size + 1) zeroP)
    generalize put4 w3 (w.heap.size + 1) zeroP = V at hf hbf ⊢
    obtain ⟨⟨q0, q1, q2, q3, qz⟩, _⟩ := qrow hf
    exact bodyPost_ret (v := .tuple #[proofV zeroP, .int .i64 5]) (by simp [results, Tryz.results36, go_sem, q0, q1, q2, q3]) rfl ⟨rfl, hbf⟩
  · have ev : neverE n m l c s = bothE n m l c := by unfold neverE; rw [if_pos h0]
    have h0' : (bothE n m l c != 0) = true := by simpa using h0
    have H0 := Lib.hid h0
    rw [ev]
    clear ev h0 he
    go_enter Tryz.func36, Tryz.ntmps36
    go_wp2_with fail
    clear hW
    refine (newPot_err_c a n cap m l c s _ hm0 (by omega) H0.out).mono ?_
    rintro e w1 ⟨rfl, hb1⟩
    clear c5 c6
    obtain ⟨⟨r0, r1, r2, r3, rz⟩, z0, z1, z2, z3⟩ := qrow (RowIs.below HR.out hb1)
    go_wp2_with fail
    have hf : RowIs (put4 w1 (w.heap.size + 1) zeroP) (w.heap.size + 1) (prfRow zeroP) 45 := put4_row (RowIs.below HR.out hb1) zeroP
    have hbf : Below w.heap.size w (put4 w1 (w.heap.size + 1) zeroP) := (bup hB0 hb1).trans (put4_below (Nat.le_succ _) zeroP)
    have hfa := RowIs.alloc hf (.cells #[.slice none 0 0, .int .i64 0, .int .i64 0, .int .i64 0, .int .i64 0] 101)
    have hba := Below.alloc1 hbf (.cells #[.slice none 0 0, .int .i64 0, .int .i64 0, .int .i64 0, .int .i64 0] 101) (Nat.le_refl _)
    change bodyPost _ _ _ _ _ ((put4 w1 (w.heap.size + 1) zeroP).alloc (.cells #[.slice none 0 0, .int .i64 0, .int .i64 0, .int .i64 0, .int .i64 0] 101))
    generalize (put4 w1 (w.heap.size + 1) zeroP).alloc (.cells #[.slice none 0 0, .int .i64 0, .int .i64 0, .int .i64 0, .int .i64 0] 101) = V at hfa hba ⊢
    obtain ⟨⟨q0, q1, q2, q3, qz⟩, _⟩ := qrow hfa
    exact bodyPost_ret (v := .tuple #[proofV zeroP, .int .i64 (bothE n m l c)]) (by simp [results, Tryz.results36, go_sem, q0, q1, q2, q3]) rfl ⟨rfl, hba⟩

set_option maxRecDepth 100000 in
set_option maxHeartbeats 4000000 in
theorem Never_yes_c (a : Option Addr) (n cap : Nat) (m : Nat → M5) (l c : Int) (s : Bool) (w : World) (hm : Metals w a n m) (hn : n ≤ 1048576) (h0 : bothE n m l c = 0) (hemp : (potL n m l c s).isEmpty = true) (hne : ∃ p, neverS n (potU s m) p) :
    Calls Tryz.prog 36 #[.slice a n cap, .agg #[.int .i64 l, .int .i64 c], .bool s] w fun e w' => ∃ L, (∀ p, p ∈ L ↔ neverS n (potU s m) p) ∧ e = .returned (.tuple #[proofV (bestP (neverLt l c) L), .int .i64 0]) ∧ Below w.heap.size w w' := by
  obtain ⟨W, hW⟩ : ∃ W, (w.alloc (.cells #[.int .i64 l, .int .i64 c] 24)).alloc (.cells #[.int .i64 0, .int .i64 0, .int .i64 0, .int .i64 0] 45) = W := ⟨_, rfl⟩
  have hB0 : Below w.heap.size w W := by rw [← hW]; exact Below.alloc1 (Below.alloc1 (Below.refl _ _) _ (Nat.le_refl _)) _ (Nat.le_refl _)
  have hT : RowIs W w.heap.size #[.int .i64 l, .int .i64 c] 24 := by rw [← hW]; exact RowIs.alloc (heap_new_at _ _ _ rfl) _
  have hR : RowIs W (w.heap.size + 1) (prfRow zeroP) 45 := by rw [← hW]; exact heap_new_at _ _ _ (by simp)
  have hz1 : w.heap.size + 1 < W.heap.size := (Array.getElem?_eq_some_iff.1 hR).1
  have hz0 : w.heap.size < W.heap.size := by omega
  have c5 := hT.cell 0
  have c6 := hT.cell 1
  simp at c5 c6
  have hm0 := hm.below hB0
  have HR := Lib.hid hR
  obtain ⟨hM, ht⟩ := both_ok h0
  have HFine := Lib.hid (fine_of hM)
  have H0 := Lib.hid h0
  have hpos := fun (g : Nat) (w1 : World) (hu : Units w1 (some ⟨g, 0, none⟩) n (potU s m)) => possible_c g n m l c s w1 HFine.out ht hu
  rw [hemp] at hpos
  have HPos := Lib.hid hpos
  have Hne := Lib.hid hne
  clear hm hT hR hM hpos h0 hemp hne
  go_enter Tryz.func36, Tryz.ntmps36
  go_wp2_with fail
  clear hW
  refine (newPot_c a n cap m l c s _ hm0 (by omega) H0.out).mono ?_
  rintro e w1 ⟨g, rfl, hU, hb1⟩
  clear c5 c6
  obtain ⟨W2, hW2⟩ : ∃ W2, w1.alloc (.cells #[.slice (some ⟨g, 0, none⟩) n n, .int .i64 1, .int .i64 0, .int .i64 l, .int .i64 c] 101) = W2 := ⟨_, rfl⟩
  have hb2 : Below w1.heap.size w1 W2 := by rw [← hW2]; exact Below.alloc1 (Below.refl _ _) _ (Nat.le_refl _)
  have hP2 : RowIs W2 w1.heap.size #[.slice (some ⟨g, 0, none⟩) n n, .int .i64 1, .int .i64 0, .int .i64 l, .int .i64 c] 101 := by rw [← hW2]; exact heap_new_at _ _ _ rfl
  obtain ⟨e0, e1, e2, e3, e4, ez⟩ := potrow hP2
  have HP2 := Lib.hid hP2
  have hU2 := hU.below hb2
  clear hP2 hU
  go_wp2_with fail
  clear hW2
  refine (HPos.out g W2 hU2).mono ?_
  rintro e w3 ⟨rfl, hb3⟩
  have hb13 := bup hb1 (bup hb2 hb3)
  clear e0 e1 e2 e3 e4 ez
  obtain ⟨e0, e1, e2, e3, e4, ez⟩ := potrow (HP2.out.below hb3)
  go_wp2_with fail
  refine (neverProof_c g n m l c s w3 HFine.out ht (hU2.below hb3) (ones_of HFine.out s (!s)) Hne.out).mono ?_
  rintro e w4 ⟨L, hL, rfl, hb4⟩
  have hb14 := bup hb13 hb4
  obtain ⟨⟨r0, r1, r2, r3, rz⟩, z0, z1, z2, z3⟩ := qrow (RowIs.below HR.out hb14)
  obtain ⟨q, hq⟩ : ∃ q, bestP (neverLt l c) L = q := ⟨_, rfl⟩
  rw [hq]
  have Hq := Lib.hid hq
  have HL := Lib.hid hL
  clear hq hL e0 e1 e2 e3 e4 ez
  go_wp2_with fail
  have hf : RowIs (put4 w4 (w.heap.size + 1) q) (w.heap.size + 1) (prfRow q) 45 := put4_row (RowIs.below HR.out hb14) q
  have hbf : Below w.heap.size w (put4 w4 (w.heap.size + 1) q) := (bup hB0 hb14).trans (put4_below (Nat.le_succ _) q)
  change bodyPost _ _ _ _ _ (put4 w4 (w.heap.size + 1) q)
  generalize put4 w4 (w.heap.size + 1) q = V at hf hbf ⊢
  obtain ⟨⟨q0, q1, q2, q3, qz⟩, _⟩ := qrow hf
  exact bodyPost_ret (v := .tuple #[proofV q, .int .i64 0]) (by simp [results, Tryz.results36, go_sem, q0, q1, q2, q3]) rfl ⟨L, HL.out, by rw [Hq.out], hbf⟩

end Go.Proofs.YtfjepnpnphoobaaGreat
