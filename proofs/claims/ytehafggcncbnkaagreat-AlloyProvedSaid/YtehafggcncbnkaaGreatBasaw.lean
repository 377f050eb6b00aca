/- The law AlloyProved answers true. Written by tools/lawproved.py. -/
import Derived.Test.YtehafggcncbnkaaGreatProg
import Derived.Test.YtehafggcncbnkaaGreatBasaa
import Derived.Test.YtehafggcncbnkaaGreatBasad
import Derived.Test.YtehafggcncbnkaaGreatBasag
import Derived.Test.YtehafggcncbnkaaGreatBasah
import Derived.Test.YtehafggcncbnkaaGreatBasao
import Derived.Test.YtehafggcncbnkaaGreatBasak
import Derived.Test.YtehafggcncbnkaaGreatBasas
import Derived.Test.YtehafggcncbnkaaGreatBasau
import Derived.Test.YtehafggcncbnkaaGreatBasaq
import Derived.Test.YtehafggcncbnkaaGreatBasar
import Derived.Test.YtehafggcncbnkaaGreatBasat
import Derived.Test.YtehafggcncbnkaaGreatBasav
import Derived.Test.YtehafggcncbnkaaGreatBasaj
namespace Go.Proofs.YtehafggcncbnkaaGreat
open Go Go.RowKit

/-- What a proof says is small enough, and no more than the least cost. -/
theorem proof_says {n : Nat} {m : Nat → M5} {l c : Int} {s : Bool} (hb : bothE n m l c = 0) {f : Nat → Int} (hf : Low n m l c s f) {p : P4} {k1 k2 : Int} (hK : checkProofR n m l c s p = (k1, k2, 0)) :
    (1 ≤ k2 ∧ k2 ≤ 1073741824) ∧ (-200000000000000 ≤ k1 ∧ k1 ≤ 1000 * k2) ∧ k1 * (costOf n m f).2 ≤ (costOf n m f).1 * k2 := by
  obtain ⟨hM, ht⟩ := both_ok hb
  have hF := fine_of hM
  unfold checkProofR at hK
  rw [if_neg (by omega)] at hK
  split at hK
  · simp at hK
  · rename_i h1
    split at hK
    · simp at hK
    · rename_i h2
      have hd : 1 ≤ p.d ∧ p.d ≤ 1073741824 := by
        refine ⟨?_, ?_⟩
        · rcases Int.lt_or_le p.d 1 with h | h
          · exact absurd (.inl (.inl h)) h1
          · exact h
        · rcases Int.lt_or_le 1073741824 p.d with h | h
          · exact absurd (.inl (.inr h)) h1
          · exact h
      have hp : isProofB p = true := by
        cases e : isProofB p with
        | true => rfl
        | false => exact absurd (.inr e) h1
      have hh : holdsB s m p n = true := by
        cases e : holdsB s m p n with
        | true => rfl
        | false => exact absurd e h2
      simp only [Prod.mk.injEq, and_true] at hK
      obtain ⟨e1, e2⟩ := hK
      obtain ⟨b1, b2, b3, b4, b5, b6⟩ := isProof_bd hp
      have hw := weak b3 b5 hh (fun i _ => (hf.mix.1 i).1) hf.good
      have hS := hf.mix.2.2
      have hP := price_bd hF (f := f) fun i _ => (hf.mix.1 i).1
      have m1 := mul_bd b3 b4 ht.1 ht.2.1
      have m2 := mul_bd b5 b6 ht.2.2.1 ht.2.2.2
      have hv0 : -200000000000000 ≤ valueR l c p ∧ valueR l c p ≤ 200000000000000 := by unfold valueR; omega
      have hv1 : valueR l c p ≤ 1000 * p.d := by
        have h3 : p.d * priceF m f n ≤ p.d * (1000 * sumF f n) := Int.mul_le_mul_of_nonneg_left hP.2 (by omega)
        have h4 : valueR l c p * sumF f n ≤ (1000 * p.d) * sumF f n := by grind
        exact Int.le_of_mul_le_mul_right h4 hS
      obtain ⟨g, hg, f1, f2, _⟩ := rat_parts (valueR l c p) (show 0 < p.d by omega)
      obtain ⟨g', hg', f1', f2', _⟩ := rat_parts (priceF m f n) hS
      have hk2 := ratD_pos (valueR l c p) (show 0 < p.d by omega)
      have hn1 := tdiv_abs (valueR l c p) (Int.gcd (valueR l c p) p.d) 200000000000000 hv0
      have hk1 : -200000000000000 ≤ ratN (valueR l c p) p.d := hn1.1
      show _ ∧ _ ∧ k1 * ratD (priceF m f n) (sumF f n) ≤ ratN (priceF m f n) (sumF f n) * k2
      rw [e1] at f1 hk1
      rw [e2] at f2 hk2
      generalize ratD (priceF m f n) (sumF f n) = x2 at *
      generalize ratN (priceF m f n) (sumF f n) = x1 at *
      have hk2' : k2 ≤ p.d := by
        have := Int.mul_le_mul_of_nonneg_left (show (1 : Int) ≤ g by omega) (Int.le_of_lt hk2)
        omega
      refine ⟨⟨by omega, by omega⟩, ⟨hk1, ?_⟩, ?_⟩
      · have h3 : k1 * g ≤ (1000 * k2) * g := by rw [← f1, Int.mul_assoc, ← f2]; exact hv1
        exact Int.le_of_mul_le_mul_right h3 hg
      · have h3 : (k1 * x2) * (g * g') ≤ (x1 * k2) * (g * g') := by
          rw [f1, f2, f1', f2'] at hw
          grind
        exact Int.le_of_mul_le_mul_right h3 (Int.mul_pos hg hg')

theorem proof_zero {n : Nat} {m : Nat → M5} {l c : Int} {s : Bool} {p : P4} {k1 k2 k3 : Int} (h : checkProofR n m l c s p = (k1, k2, k3)) (h3 : k3 ≠ 0) : k1 = 0 ∧ k2 = 0 := by
  unfold checkProofR at h
  split at h
  · simp only [Prod.mk.injEq] at h
    omega
  · split at h
    · simp only [Prod.mk.injEq] at h
      omega
    · split at h
      · simp only [Prod.mk.injEq] at h
        omega
      · simp only [Prod.mk.injEq] at h
        omega

theorem quo_le {k1 k2 : Int} (h : 1 ≤ k2) (h1 : k1 ≤ 1000 * k2) : k1.tdiv k2 ≤ 1000 := by
  rcases Int.lt_or_le k1 0 with h0 | h0
  · obtain ⟨a, ha⟩ : ∃ a, -k1 = a := ⟨_, rfl⟩
    obtain rfl : k1 = -a := by omega
    rw [Int.neg_tdiv]
    have : 0 ≤ a.tdiv k2 := Int.tdiv_nonneg (by omega) (by omega)
    omega
  · rw [Int.tdiv_eq_ediv_of_nonneg h0]
    exact Int.ediv_le_of_le_mul (by omega) h1

set_option maxRecDepth 100000 in
set_option maxHeartbeats 16000000 in
theorem law_proved_c (a b : Option Addr) (n cap len cap2 : Nat) (m : Nat → M5) (g : Nat → Int) (l c : Int) (sure : Bool) (p : P4) (w : World) (hm : Metals w a n m) (hg : Shorts w b len g) (hgb : ∀ i, i < len → 0 ≤ g i ∧ g i ≤ 65535) :
    Calls Tryz.prog 7 #[.slice a n cap, .agg #[.int .i64 l, .int .i64 c], .bool sure, .slice b len cap2, proofV p] w fun e w' => e = .returned (.bool true) ∧ Below w.heap.size w w' := by
  obtain ⟨W, hW⟩ : ∃ W, (w.alloc (.cells #[.int .i64 l, .int .i64 c] 24)).alloc (.cells #[.int .i64 p.d, .int .i64 p.b, .int .i64 p.l, .int .i64 p.c] 45) = W := ⟨_, rfl⟩
  have hB : Below w.heap.size w W := by rw [← hW]; exact (Below.alloc1 (Below.alloc1 (Below.refl _ _) _ (Nat.le_refl _)) _ (Nat.le_refl _))
  have HT := Lib.hid (show RowIs W (w.heap.size) #[.int .i64 l, .int .i64 c] 24 by rw [← hW]; exact RowIs.alloc (heap_new_at _ _ _ rfl) _)
  have HP := Lib.hid (show RowIs W (w.heap.size + 1) (prfRow p) 45 by rw [← hW]; exact heap_new_at _ _ _ (by simp))
  have HM := Lib.hid (hm.below hB)
  obtain ⟨bt, hbt⟩ : ∃ bt, w.heap.size = bt := ⟨_, rfl⟩
  rw [hbt] at HT HP
  have HG := Lib.hid (hg.below hB)
  clear hm hg
  have HFi := Lib.hid (fine_c a n cap m l c W HM.out)
  by_cases hfine : n ≤ 12 ∧ bothE n m l c = 0
  case neg =>
    have hd : decide (n ≤ 12 ∧ bothE n m l c = 0) = false := decide_eq_false hfine
    rw [hd] at HFi
    obtain ⟨tc0, tc1, _, _, tz⟩ := ratrow2 HT.out
    obtain ⟨⟨pc0, pc1, pc2, pc3, pz⟩, _⟩ := qrow HP.out
    go_enter Tryz.func7, Tryz.ntmps7
    go_wp2_with fail
    refine HFi.out.mono ?_
    rintro e w1 ⟨rfl, hb1⟩
    go_wp2_with fail
    refine (works_c _).mono ?_
    rintro e wz ⟨rfl, hbz⟩
    go_wp2
    go_ret
    exact ⟨rfl, bup hB (bup hb1 hbz)⟩
  case pos =>
  have hd : decide (n ≤ 12 ∧ bothE n m l c = 0) = true := decide_eq_true hfine
  rw [hd] at HFi
  by_cases hl : len ≤ 20
  case neg =>
    have hlt0 : decide ((20 : Int) < (len : Int)) = true := by simp; omega
    obtain ⟨tc0, tc1, _, _, tz⟩ := ratrow2 HT.out
    obtain ⟨⟨pc0, pc1, pc2, pc3, pz⟩, _⟩ := qrow HP.out
    go_enter Tryz.func7, Tryz.ntmps7
    go_wp2_with fail
    refine HFi.out.mono ?_
    rintro e w1 ⟨rfl, hb1⟩
    go_wp2_with fail
    refine (works_c _).mono ?_
    rintro e wz ⟨rfl, hbz⟩
    go_wp2
    go_ret
    exact ⟨rfl, bup hB (bup hb1 hbz)⟩
  case pos =>
  have hlt0 : decide ((20 : Int) < (len : Int)) = false := by simp; omega
  have hbo := hfine.2
  have hmet := (both_ok hbo).1
  have hF := fine_of hmet
  have hn16 : 1 ≤ n ∧ n ≤ 6 := ⟨hF.1, hF.2.1⟩
  have hn12 : n ≤ 12 := by omega
  have hn : n ≤ 1048576 := by omega
  obtain ⟨A, hA⟩ : ∃ A, mixedF n len g = A := ⟨_, rfl⟩
  have hAb : ∀ i, 0 ≤ A i ∧ A i ≤ 65535 := by rw [← hA]; exact mixed_bd (by omega) hgb
  have hAp : 0 < sumF A n := by rw [← hA]; exact mixed_pos hn16.1 (by omega) hgb
  have hA6 : ∀ i, i < n → 0 ≤ A i ∧ A i ≤ 1000000 := fun i _ => by have := hAb i; omega
  have hAn : ∀ i, i < n → 0 ≤ A i := fun i _ => (hAb i).1
  have hDA := deserves_of (s := sure) hbo hA6 hAp
  have hCA := cost_of (m := m) hmet hA6 hAp
  have hPA := price_bd hF hAn
  have hSA : sumF A n ≤ 6000000 := by have := (sumF_nn A 1000000 n hA6).2; have := hn16.2; omega
  have hsA := small_rat hAp hSA hPA.1 hPA.2
  obtain ⟨a1, ha1⟩ : ∃ x, ratN (priceF m A n) (sumF A n) = x := ⟨_, rfl⟩
  obtain ⟨a2, ha2⟩ : ∃ x, ratD (priceF m A n) (sumF A n) = x := ⟨_, rfl⟩
  have HA12 := Lib.hid (show ratN (priceF m A n) (sumF A n) = a1 ∧ ratD (priceF m A n) (sumF A n) = a2 from ⟨ha1, ha2⟩)
  rw [ha1, ha2] at hCA hsA
  have HDA := Lib.hid hDA
  have HCA := Lib.hid hCA
  have HsA := Lib.hid hsA
  have Hgb := Lib.hid hgb
  have HAp := Lib.hid hAp
  have HAn := Lib.hid hAn
  clear hgb hAb hA6 hAp hAn hDA hCA hPA hSA hsA ha1 ha2
  rcases hK : checkProofR n m l c sure p with ⟨k1, k2, k3⟩
  have HK := Lib.hid hK
  clear hK
  have hcases := least_cases hbo sure
  rcases hcases with ⟨hL1, hbn, hnil⟩ | ⟨f, hbs, hL2, hlow⟩
  · have hL1 : leastR n m l c sure = ((0 : Int), (0 : Int), if (false : Bool) then (0 : Int) else 17) ∧ True := ⟨hL1, trivial⟩
    have hgA : deservesE n m l c sure n A = 17 := by rw [HDA.out, hnil A HAn.out HAp.out]; rfl
    by_cases h3 : k3 = 0
    · subst h3
      obtain ⟨tc0, tc1, _, _, tz⟩ := ratrow2 HT.out
      obtain ⟨⟨pc0, pc1, pc2, pc3, pz⟩, _⟩ := qrow HP.out
      go_enter Tryz.func7, Tryz.ntmps7
      go_wp2_with fail
      refine HFi.out.mono ?_
      rintro e w1 ⟨rfl, hb1⟩
      clear tc0 tc1 tz pc0 pc1 pc2 pc3 pz hW hbt
      replace HM := Lib.hid (HM.out.below hb1)
      replace HT := Lib.hid (RowIs.below HT.out hb1)
      replace HP := Lib.hid (RowIs.below HP.out hb1)
      replace HG := Lib.hid (HG.out.below hb1)
      replace hB := bup hB hb1
      obtain ⟨tc0, tc1, _, _, tz⟩ := ratrow2 HT.out
      go_wp2_with fail
      clear hb1 tc0 tc1 tz
      refine (mixed_c b n len cap2 g w1 HG.out hn16 hl Hgb.out).mono ?_
      rintro e w1 ⟨gHA, cHA, gHAl, gHAz, rfl, hHA0, hw2⟩
      replace HM := Lib.hid (HM.out.below hw2)
      replace HT := Lib.hid (RowIs.below HT.out hw2)
      replace HP := Lib.hid (RowIs.below HP.out hw2)
      replace HG := Lib.hid (HG.out.below hw2)
      replace hB := bup hB hw2
      rw [hA] at hHA0
      have HA := Lib.hid hHA0
      clear hHA0 gHAl gHAz
      have hC3 := Cost_c a (some ⟨gHA, 0, none⟩) n cap n cHA m A w1 HM.out HA.out hn hn
      rw [HCA.out] at hC3
      try dsimp only [re2, re3, proofV, zeroP] at hC3
      have C3 := Lib.hid hC3
      clear hC3
      go_wp2_with fail
      clear hw2
      refine C3.out.mono ?_
      rintro e w4 ⟨rfl, hw5⟩
      clear C3
      replace HM := Lib.hid (HM.out.below hw5)
      replace HT := Lib.hid (RowIs.below HT.out hw5)
      replace HP := Lib.hid (RowIs.below HP.out hw5)
      replace HG := Lib.hid (HG.out.below hw5)
      replace HA := Lib.hid (HA.out.below hw5)
      replace hB := bup hB hw5
      obtain ⟨Y6, hY6⟩ : ∃ Y6, w4.alloc (.cells #[.int .i64 a1, .int .i64 a2] 29) = Y6 := ⟨_, rfl⟩
      have hy7 : Below w4.heap.size w4 Y6 := by rw [← hY6]; exact Below.alloc1 (Below.refl _ _) _ (Nat.le_refl _)
      replace HM := Lib.hid (HM.out.below hy7)
      replace HT := Lib.hid (RowIs.below HT.out hy7)
      replace HP := Lib.hid (RowIs.below HP.out hy7)
      replace HG := Lib.hid (HG.out.below hy7)
      replace HA := Lib.hid (HA.out.below hy7)
      replace hB := bup hB hy7
      have RC := Lib.hid (show RowIs Y6 w4.heap.size #[.int .i64 a1, .int .i64 a2] 29 by rw [← hY6]; exact heap_new_at _ _ _ rfl)
      obtain ⟨bRC, hbRC⟩ : ∃ bRC, w4.heap.size = bRC := ⟨_, rfl⟩
      rw [hbRC] at RC
      have hC8 := Deserves_c a (some ⟨gHA, 0, none⟩) n cap n cHA m A l c sure Y6 HM.out HA.out hn hn
      rw [hgA] at hC8
      try dsimp only [re2, re3, proofV, zeroP] at hC8
      have C8 := Lib.hid hC8
      clear hC8
      obtain ⟨tc0, tc1, _, _, tz⟩ := ratrow2 HT.out
      go_wp2_with fail
      clear hw5 hbRC hY6 hy7 tc0 tc1 tz
      refine C8.out.mono ?_
      rintro e w9 ⟨rfl, hw10⟩
      clear C8
      replace HM := Lib.hid (HM.out.below hw10)
      replace HT := Lib.hid (RowIs.below HT.out hw10)
      replace HP := Lib.hid (RowIs.below HP.out hw10)
      replace HG := Lib.hid (HG.out.below hw10)
      replace HA := Lib.hid (HA.out.below hw10)
      replace RC := Lib.hid (RowIs.below RC.out hw10)
      replace hB := bup hB hw10
      have hC11 := lawLeast_c a n cap m l c sure false (0, 0) w9 HM.out hn12 hL1.1 rfl
      try dsimp only [re2, re3, proofV, zeroP] at hC11
      have C11 := Lib.hid hC11
      clear hC11
      obtain ⟨tc0, tc1, _, _, tz⟩ := ratrow2 HT.out
      go_wp2_with fail
      clear hw10 tc0 tc1 tz
      refine C11.out.mono ?_
      rintro e w12 ⟨rfl, hw13⟩
      clear C11
      replace HM := Lib.hid (HM.out.below hw13)
      replace HT := Lib.hid (RowIs.below HT.out hw13)
      replace HP := Lib.hid (RowIs.below HP.out hw13)
      replace HG := Lib.hid (HG.out.below hw13)
      replace HA := Lib.hid (HA.out.below hw13)
      replace RC := Lib.hid (RowIs.below RC.out hw13)
      replace hB := bup hB hw13
      obtain ⟨Y14, hY14⟩ : ∃ Y14, w12.alloc (.cells #[.int .i64 0, .int .i64 0] 29) = Y14 := ⟨_, rfl⟩
      have hy15 : Below w12.heap.size w12 Y14 := by rw [← hY14]; exact Below.alloc1 (Below.refl _ _) _ (Nat.le_refl _)
      have zY14 : RowIs Y14 w12.heap.size #[.int .i64 0, .int .i64 0] 29 := by rw [← hY14]; exact heap_new_at _ _ _ rfl
      obtain ⟨yY140, yY141, yY142, yY143, yY144⟩ := ratrow2 zY14
      obtain ⟨Z16, hZ16⟩ : ∃ Z16, ((Y14.setCell ⟨w12.heap.size, 0, none⟩ (.int .i64 0)).setCell ⟨w12.heap.size, 1, none⟩ (.int .i64 0)) = Z16 := ⟨_, rfl⟩
      have hz17 : Below w12.heap.size w12 Z16 := hy15.trans (by rw [← hZ16]; exact (((Below.refl _ Y14).setCell (p := ⟨w12.heap.size, 0, none⟩) (Nat.le_refl _) _).setCell (p := ⟨w12.heap.size, 1, none⟩) (Nat.le_refl _) _))
      replace HM := Lib.hid (HM.out.below hz17)
      replace HT := Lib.hid (RowIs.below HT.out hz17)
      replace HP := Lib.hid (RowIs.below HP.out hz17)
      replace HG := Lib.hid (HG.out.below hz17)
      replace HA := Lib.hid (HA.out.below hz17)
      replace RC := Lib.hid (RowIs.below RC.out hz17)
      replace hB := bup hB hz17
      have RL := Lib.hid (show RowIs Z16 w12.heap.size #[.int .i64 0, .int .i64 0] 29 by rw [← hZ16]; exact put2_row zY14 0 0)
      have hC18 := small_c a1 a2 Z16 HsA.out
      try dsimp only [re2, re3, proofV, zeroP] at hC18
      have C18 := Lib.hid hC18
      clear hC18
      obtain ⟨v190, v191, _, _, v19z⟩ := ratrow2 RC.out
      obtain ⟨v200, v201, _, _, v20z⟩ := ratrow2 RL.out
      go_wp2_with fail
      clear hw13 hY14 hy15 zY14 yY140 yY141 yY142 yY143 yY144 hZ16 hz17 v190 v191 v19z v200 v201 v20z
      refine C18.out.mono ?_
      rintro e w21 ⟨rfl, hw22⟩
      clear C18
      replace HM := Lib.hid (HM.out.below hw22)
      replace HT := Lib.hid (RowIs.below HT.out hw22)
      replace HP := Lib.hid (RowIs.below HP.out hw22)
      replace HG := Lib.hid (HG.out.below hw22)
      replace HA := Lib.hid (HA.out.below hw22)
      replace RC := Lib.hid (RowIs.below RC.out hw22)
      replace RL := Lib.hid (RowIs.below RL.out hw22)
      replace hB := bup hB hw22
      have hC23 := CheckProof_c a n cap m l c sure p w21 HM.out hn
      rw [HK.out] at hC23
      try dsimp only [re2, re3, proofV, zeroP] at hC23
      have C23 := Lib.hid hC23
      clear hC23
      obtain ⟨tc0, tc1, _, _, tz⟩ := ratrow2 HT.out
      obtain ⟨⟨pc0, pc1, pc2, pc3, pz⟩, _⟩ := qrow HP.out
      go_wp2_with fail
      clear hw22 tc0 tc1 tz pc0 pc1 pc2 pc3 pz
      refine C23.out.mono ?_
      rintro e w24 ⟨rfl, hw25⟩
      clear C23
      replace HM := Lib.hid (HM.out.below hw25)
      replace HT := Lib.hid (RowIs.below HT.out hw25)
      replace HP := Lib.hid (RowIs.below HP.out hw25)
      replace HG := Lib.hid (HG.out.below hw25)
      replace HA := Lib.hid (HA.out.below hw25)
      replace RC := Lib.hid (RowIs.below RC.out hw25)
      replace RL := Lib.hid (RowIs.below RL.out hw25)
      replace hB := bup hB hw25
      obtain ⟨Y26, hY26⟩ : ∃ Y26, w24.alloc (.cells #[.int .i64 k1, .int .i64 k2] 29) = Y26 := ⟨_, rfl⟩
      have hy27 : Below w24.heap.size w24 Y26 := by rw [← hY26]; exact Below.alloc1 (Below.refl _ _) _ (Nat.le_refl _)
      replace HM := Lib.hid (HM.out.below hy27)
      replace HT := Lib.hid (RowIs.below HT.out hy27)
      replace HP := Lib.hid (RowIs.below HP.out hy27)
      replace HG := Lib.hid (HG.out.below hy27)
      replace HA := Lib.hid (HA.out.below hy27)
      replace RC := Lib.hid (RowIs.below RC.out hy27)
      replace RL := Lib.hid (RowIs.below RL.out hy27)
      replace hB := bup hB hy27
      have RN := Lib.hid (show RowIs Y26 w24.heap.size #[.int .i64 k1, .int .i64 k2] 29 by rw [← hY26]; exact heap_new_at _ _ _ rfl)
      obtain ⟨bRN, hbRN⟩ : ∃ bRN, w24.heap.size = bRN := ⟨_, rfl⟩
      rw [hbRN] at RN
      have hC28 := rcheckProof_c a n cap m l c sure p Y26 HM.out hn
      rw [HK.out] at hC28
      try dsimp only [re2, re3, proofV, zeroP] at hC28
      have C28 := Lib.hid hC28
      clear hC28
      obtain ⟨tc0, tc1, _, _, tz⟩ := ratrow2 HT.out
      obtain ⟨⟨pc0, pc1, pc2, pc3, pz⟩, _⟩ := qrow HP.out
      go_wp2_with fail
      clear hw25 hbRN hY26 hy27 tc0 tc1 tz pc0 pc1 pc2 pc3 pz
      refine C28.out.mono ?_
      rintro e w29 ⟨rfl, hw30⟩
      clear C28
      replace HM := Lib.hid (HM.out.below hw30)
      replace HT := Lib.hid (RowIs.below HT.out hw30)
      replace HP := Lib.hid (RowIs.below HP.out hw30)
      replace HG := Lib.hid (HG.out.below hw30)
      replace HA := Lib.hid (HA.out.below hw30)
      replace RC := Lib.hid (RowIs.below RC.out hw30)
      replace RL := Lib.hid (RowIs.below RL.out hw30)
      replace RN := Lib.hid (RowIs.below RN.out hw30)
      replace hB := bup hB hw30
      obtain ⟨Y31, hY31⟩ : ∃ Y31, w29.alloc (.cells #[.int .i64 k1, .int .i64 k2] 29) = Y31 := ⟨_, rfl⟩
      have hy32 : Below w29.heap.size w29 Y31 := by rw [← hY31]; exact Below.alloc1 (Below.refl _ _) _ (Nat.le_refl _)
      replace HM := Lib.hid (HM.out.below hy32)
      replace HT := Lib.hid (RowIs.below HT.out hy32)
      replace HP := Lib.hid (RowIs.below HP.out hy32)
      replace HG := Lib.hid (HG.out.below hy32)
      replace HA := Lib.hid (HA.out.below hy32)
      replace RC := Lib.hid (RowIs.below RC.out hy32)
      replace RL := Lib.hid (RowIs.below RL.out hy32)
      replace RN := Lib.hid (RowIs.below RN.out hy32)
      replace hB := bup hB hy32
      have RM := Lib.hid (show RowIs Y31 w29.heap.size #[.int .i64 k1, .int .i64 k2] 29 by rw [← hY31]; exact heap_new_at _ _ _ rfl)
      obtain ⟨bRM, hbRM⟩ : ∃ bRM, w29.heap.size = bRM := ⟨_, rfl⟩
      rw [hbRM] at RM
      go_wp2_with fail
      refine (works_c _).mono ?_
      rintro e wz ⟨rfl, hbz⟩
      go_wp2
      go_ret
      exact ⟨rfl, bup hB hbz⟩
    · have h3' : (k3 != 0) = true := by simpa using h3
      obtain ⟨rfl, rfl⟩ : k1 = 0 ∧ k2 = 0 := proof_zero HK.out h3
      obtain ⟨tc0, tc1, _, _, tz⟩ := ratrow2 HT.out
      obtain ⟨⟨pc0, pc1, pc2, pc3, pz⟩, _⟩ := qrow HP.out
      go_enter Tryz.func7, Tryz.ntmps7
      go_wp2_with fail
      refine HFi.out.mono ?_
      rintro e w1 ⟨rfl, hb1⟩
      clear tc0 tc1 tz pc0 pc1 pc2 pc3 pz hW hbt
      replace HM := Lib.hid (HM.out.below hb1)
      replace HT := Lib.hid (RowIs.below HT.out hb1)
      replace HP := Lib.hid (RowIs.below HP.out hb1)
      replace HG := Lib.hid (HG.out.below hb1)
      replace hB := bup hB hb1
      obtain ⟨tc0, tc1, _, _, tz⟩ := ratrow2 HT.out
      go_wp2_with fail
      clear hb1 tc0 tc1 tz
      refine (mixed_c b n len cap2 g w1 HG.out hn16 hl Hgb.out).mono ?_
      rintro e w33 ⟨gHA, cHA, gHAl, gHAz, rfl, hHA0, hw34⟩
      replace HM := Lib.hid (HM.out.below hw34)
      replace HT := Lib.hid (RowIs.below HT.out hw34)
      replace HP := Lib.hid (RowIs.below HP.out hw34)
      replace HG := Lib.hid (HG.out.below hw34)
      replace hB := bup hB hw34
      rw [hA] at hHA0
      have HA := Lib.hid hHA0
      clear hHA0 gHAl gHAz
      have hC35 := Cost_c a (some ⟨gHA, 0, none⟩) n cap n cHA m A w33 HM.out HA.out hn hn
      rw [HCA.out] at hC35
      try dsimp only [re2, re3, proofV, zeroP] at hC35
      have C35 := Lib.hid hC35
      clear hC35
      go_wp2_with fail
      clear hw34
      refine C35.out.mono ?_
      rintro e w36 ⟨rfl, hw37⟩
      clear C35
      replace HM := Lib.hid (HM.out.below hw37)
      replace HT := Lib.hid (RowIs.below HT.out hw37)
      replace HP := Lib.hid (RowIs.below HP.out hw37)
      replace HG := Lib.hid (HG.out.below hw37)
      replace HA := Lib.hid (HA.out.below hw37)
      replace hB := bup hB hw37
      obtain ⟨Y38, hY38⟩ : ∃ Y38, w36.alloc (.cells #[.int .i64 a1, .int .i64 a2] 29) = Y38 := ⟨_, rfl⟩
      have hy39 : Below w36.heap.size w36 Y38 := by rw [← hY38]; exact Below.alloc1 (Below.refl _ _) _ (Nat.le_refl _)
      replace HM := Lib.hid (HM.out.below hy39)
      replace HT := Lib.hid (RowIs.below HT.out hy39)
      replace HP := Lib.hid (RowIs.below HP.out hy39)
      replace HG := Lib.hid (HG.out.below hy39)
      replace HA := Lib.hid (HA.out.below hy39)
      replace hB := bup hB hy39
      have RC := Lib.hid (show RowIs Y38 w36.heap.size #[.int .i64 a1, .int .i64 a2] 29 by rw [← hY38]; exact heap_new_at _ _ _ rfl)
      obtain ⟨bRC, hbRC⟩ : ∃ bRC, w36.heap.size = bRC := ⟨_, rfl⟩
      rw [hbRC] at RC
      have hC40 := Deserves_c a (some ⟨gHA, 0, none⟩) n cap n cHA m A l c sure Y38 HM.out HA.out hn hn
      rw [hgA] at hC40
      try dsimp only [re2, re3, proofV, zeroP] at hC40
      have C40 := Lib.hid hC40
      clear hC40
      obtain ⟨tc0, tc1, _, _, tz⟩ := ratrow2 HT.out
      go_wp2_with fail
      clear hw37 hbRC hY38 hy39 tc0 tc1 tz
      refine C40.out.mono ?_
      rintro e w41 ⟨rfl, hw42⟩
      clear C40
      replace HM := Lib.hid (HM.out.below hw42)
      replace HT := Lib.hid (RowIs.below HT.out hw42)
      replace HP := Lib.hid (RowIs.below HP.out hw42)
      replace HG := Lib.hid (HG.out.below hw42)
      replace HA := Lib.hid (HA.out.below hw42)
      replace RC := Lib.hid (RowIs.below RC.out hw42)
      replace hB := bup hB hw42
      have hC43 := lawLeast_c a n cap m l c sure false (0, 0) w41 HM.out hn12 hL1.1 rfl
      try dsimp only [re2, re3, proofV, zeroP] at hC43
      have C43 := Lib.hid hC43
      clear hC43
      obtain ⟨tc0, tc1, _, _, tz⟩ := ratrow2 HT.out
      go_wp2_with fail
      clear hw42 tc0 tc1 tz
      refine C43.out.mono ?_
      rintro e w44 ⟨rfl, hw45⟩
      clear C43
      replace HM := Lib.hid (HM.out.below hw45)
      replace HT := Lib.hid (RowIs.below HT.out hw45)
      replace HP := Lib.hid (RowIs.below HP.out hw45)
      replace HG := Lib.hid (HG.out.below hw45)
      replace HA := Lib.hid (HA.out.below hw45)
      replace RC := Lib.hid (RowIs.below RC.out hw45)
      replace hB := bup hB hw45
      obtain ⟨Y46, hY46⟩ : ∃ Y46, w44.alloc (.cells #[.int .i64 0, .int .i64 0] 29) = Y46 := ⟨_, rfl⟩
      have hy47 : Below w44.heap.size w44 Y46 := by rw [← hY46]; exact Below.alloc1 (Below.refl _ _) _ (Nat.le_refl _)
      have zY46 : RowIs Y46 w44.heap.size #[.int .i64 0, .int .i64 0] 29 := by rw [← hY46]; exact heap_new_at _ _ _ rfl
      obtain ⟨yY460, yY461, yY462, yY463, yY464⟩ := ratrow2 zY46
      obtain ⟨Z48, hZ48⟩ : ∃ Z48, ((Y46.setCell ⟨w44.heap.size, 0, none⟩ (.int .i64 0)).setCell ⟨w44.heap.size, 1, none⟩ (.int .i64 0)) = Z48 := ⟨_, rfl⟩
      have hz49 : Below w44.heap.size w44 Z48 := hy47.trans (by rw [← hZ48]; exact (((Below.refl _ Y46).setCell (p := ⟨w44.heap.size, 0, none⟩) (Nat.le_refl _) _).setCell (p := ⟨w44.heap.size, 1, none⟩) (Nat.le_refl _) _))
      replace HM := Lib.hid (HM.out.below hz49)
      replace HT := Lib.hid (RowIs.below HT.out hz49)
      replace HP := Lib.hid (RowIs.below HP.out hz49)
      replace HG := Lib.hid (HG.out.below hz49)
      replace HA := Lib.hid (HA.out.below hz49)
      replace RC := Lib.hid (RowIs.below RC.out hz49)
      replace hB := bup hB hz49
      have RL := Lib.hid (show RowIs Z48 w44.heap.size #[.int .i64 0, .int .i64 0] 29 by rw [← hZ48]; exact put2_row zY46 0 0)
      have hC50 := small_c a1 a2 Z48 HsA.out
      try dsimp only [re2, re3, proofV, zeroP] at hC50
      have C50 := Lib.hid hC50
      clear hC50
      obtain ⟨v510, v511, _, _, v51z⟩ := ratrow2 RC.out
      obtain ⟨v520, v521, _, _, v52z⟩ := ratrow2 RL.out
      go_wp2_with fail
      clear hw45 hY46 hy47 zY46 yY460 yY461 yY462 yY463 yY464 hZ48 hz49 v510 v511 v51z v520 v521 v52z
      refine C50.out.mono ?_
      rintro e w53 ⟨rfl, hw54⟩
      clear C50
      replace HM := Lib.hid (HM.out.below hw54)
      replace HT := Lib.hid (RowIs.below HT.out hw54)
      replace HP := Lib.hid (RowIs.below HP.out hw54)
      replace HG := Lib.hid (HG.out.below hw54)
      replace HA := Lib.hid (HA.out.below hw54)
      replace RC := Lib.hid (RowIs.below RC.out hw54)
      replace RL := Lib.hid (RowIs.below RL.out hw54)
      replace hB := bup hB hw54
      have hC55 := CheckProof_c a n cap m l c sure p w53 HM.out hn
      rw [HK.out] at hC55
      try dsimp only [re2, re3, proofV, zeroP] at hC55
      have C55 := Lib.hid hC55
      clear hC55
      obtain ⟨tc0, tc1, _, _, tz⟩ := ratrow2 HT.out
      obtain ⟨⟨pc0, pc1, pc2, pc3, pz⟩, _⟩ := qrow HP.out
      go_wp2_with fail
      clear hw54 tc0 tc1 tz pc0 pc1 pc2 pc3 pz
      refine C55.out.mono ?_
      rintro e w56 ⟨rfl, hw57⟩
      clear C55
      replace HM := Lib.hid (HM.out.below hw57)
      replace HT := Lib.hid (RowIs.below HT.out hw57)
      replace HP := Lib.hid (RowIs.below HP.out hw57)
      replace HG := Lib.hid (HG.out.below hw57)
      replace HA := Lib.hid (HA.out.below hw57)
      replace RC := Lib.hid (RowIs.below RC.out hw57)
      replace RL := Lib.hid (RowIs.below RL.out hw57)
      replace hB := bup hB hw57
      obtain ⟨Y58, hY58⟩ : ∃ Y58, w56.alloc (.cells #[.int .i64 0, .int .i64 0] 29) = Y58 := ⟨_, rfl⟩
      have hy59 : Below w56.heap.size w56 Y58 := by rw [← hY58]; exact Below.alloc1 (Below.refl _ _) _ (Nat.le_refl _)
      have zY58 : RowIs Y58 w56.heap.size #[.int .i64 0, .int .i64 0] 29 := by rw [← hY58]; exact heap_new_at _ _ _ rfl
      obtain ⟨yY580, yY581, yY582, yY583, yY584⟩ := ratrow2 zY58
      obtain ⟨Z60, hZ60⟩ : ∃ Z60, ((Y58.setCell ⟨w56.heap.size, 0, none⟩ (.int .i64 0)).setCell ⟨w56.heap.size, 1, none⟩ (.int .i64 0)) = Z60 := ⟨_, rfl⟩
      have hz61 : Below w56.heap.size w56 Z60 := hy59.trans (by rw [← hZ60]; exact (((Below.refl _ Y58).setCell (p := ⟨w56.heap.size, 0, none⟩) (Nat.le_refl _) _).setCell (p := ⟨w56.heap.size, 1, none⟩) (Nat.le_refl _) _))
      replace HM := Lib.hid (HM.out.below hz61)
      replace HT := Lib.hid (RowIs.below HT.out hz61)
      replace HP := Lib.hid (RowIs.below HP.out hz61)
      replace HG := Lib.hid (HG.out.below hz61)
      replace HA := Lib.hid (HA.out.below hz61)
      replace RC := Lib.hid (RowIs.below RC.out hz61)
      replace RL := Lib.hid (RowIs.below RL.out hz61)
      replace hB := bup hB hz61
      have RN := Lib.hid (show RowIs Z60 w56.heap.size #[.int .i64 0, .int .i64 0] 29 by rw [← hZ60]; exact put2_row zY58 0 0)
      have hC62 := rcheckProof_c a n cap m l c sure p Z60 HM.out hn
      rw [HK.out] at hC62
      try dsimp only [re2, re3, proofV, zeroP] at hC62
      have C62 := Lib.hid hC62
      clear hC62
      obtain ⟨tc0, tc1, _, _, tz⟩ := ratrow2 HT.out
      obtain ⟨⟨pc0, pc1, pc2, pc3, pz⟩, _⟩ := qrow HP.out
      go_wp2_with fail
      clear hw57 hY58 hy59 zY58 yY580 yY581 yY582 yY583 yY584 hZ60 hz61 tc0 tc1 tz pc0 pc1 pc2 pc3 pz
      refine C62.out.mono ?_
      rintro e w63 ⟨rfl, hw64⟩
      clear C62
      replace HM := Lib.hid (HM.out.below hw64)
      replace HT := Lib.hid (RowIs.below HT.out hw64)
      replace HP := Lib.hid (RowIs.below HP.out hw64)
      replace HG := Lib.hid (HG.out.below hw64)
      replace HA := Lib.hid (HA.out.below hw64)
      replace RC := Lib.hid (RowIs.below RC.out hw64)
      replace RL := Lib.hid (RowIs.below RL.out hw64)
      replace RN := Lib.hid (RowIs.below RN.out hw64)
      replace hB := bup hB hw64
      obtain ⟨Y65, hY65⟩ : ∃ Y65, w63.alloc (.cells #[.int .i64 0, .int .i64 0] 29) = Y65 := ⟨_, rfl⟩
      have hy66 : Below w63.heap.size w63 Y65 := by rw [← hY65]; exact Below.alloc1 (Below.refl _ _) _ (Nat.le_refl _)
      have zY65 : RowIs Y65 w63.heap.size #[.int .i64 0, .int .i64 0] 29 := by rw [← hY65]; exact heap_new_at _ _ _ rfl
      obtain ⟨yY650, yY651, yY652, yY653, yY654⟩ := ratrow2 zY65
      obtain ⟨Z67, hZ67⟩ : ∃ Z67, ((Y65.setCell ⟨w63.heap.size, 0, none⟩ (.int .i64 0)).setCell ⟨w63.heap.size, 1, none⟩ (.int .i64 0)) = Z67 := ⟨_, rfl⟩
      have hz68 : Below w63.heap.size w63 Z67 := hy66.trans (by rw [← hZ67]; exact (((Below.refl _ Y65).setCell (p := ⟨w63.heap.size, 0, none⟩) (Nat.le_refl _) _).setCell (p := ⟨w63.heap.size, 1, none⟩) (Nat.le_refl _) _))
      replace HM := Lib.hid (HM.out.below hz68)
      replace HT := Lib.hid (RowIs.below HT.out hz68)
      replace HP := Lib.hid (RowIs.below HP.out hz68)
      replace HG := Lib.hid (HG.out.below hz68)
      replace HA := Lib.hid (HA.out.below hz68)
      replace RC := Lib.hid (RowIs.below RC.out hz68)
      replace RL := Lib.hid (RowIs.below RL.out hz68)
      replace RN := Lib.hid (RowIs.below RN.out hz68)
      replace hB := bup hB hz68
      have RM := Lib.hid (show RowIs Z67 w63.heap.size #[.int .i64 0, .int .i64 0] 29 by rw [← hZ67]; exact put2_row zY65 0 0)
      go_wp2_with fail
      refine (works_c _).mono ?_
      rintro e wz ⟨rfl, hbz⟩
      go_wp2
      go_ret
      exact ⟨rfl, bup hB hbz⟩
  · have hx : ∃ x1 x2, costOf n m f = (x1, x2) := ⟨_, _, rfl⟩
    obtain ⟨x1, x2, hx⟩ := hx
    have hsx := low_small hF hlow
    rw [hx] at hL2 hsx
    have hsx : smallB x1 x2 = true := hsx
    have hL2 : leastR n m l c sure = (x1, x2, if (true : Bool) then (0 : Int) else 17) ∧ Low n m l c sure f := ⟨hL2, hlow⟩
    have hemp := pot_some hbs
    have hCP := cost_proved hbo hlow
    rw [hx] at hCP
    have hfr : ∀ i, i < n → 0 ≤ f i ∧ f i ≤ 1000000 := fun i _ => hlow.mix.1 i
    have HDf := Lib.hid (show deservesE n m l c sure n f = 0 by rw [deserves_of hbo hfr hlow.mix.2.2, hlow.good]; rfl)
    have HCf := Lib.hid (show costR n m n f = (x1, x2, 0) by rw [cost_of hmet hfr hlow.mix.2.2]; simp only [costOf, Prod.mk.injEq] at hx; rw [hx.1, hx.2])
    have hlt0 : goodB sure n m l c A = true → ltB a1 a2 x1 x2 = false := fun hgd => by
      simp only [costOf, Prod.mk.injEq] at hx
      rw [← HA12.out.1, ← HA12.out.2, ← hx.1, ← hx.2, ltB_rat HAp.out hlow.mix.2.2]
      have := hlow.low A HAn.out hgd
      exact decide_eq_false (by omega)
    have hsay : k3 = 0 → (1 ≤ k2 ∧ k2 ≤ 1073741824) ∧ (-200000000000000 ≤ k1 ∧ k1 ≤ 1000 * k2) ∧ k1 * x2 ≤ x1 * k2 := fun h0 => by
      have hK0 := HK.out
      rw [h0] at hK0
      have := proof_says hbo hlow hK0
      rw [hx] at this
      exact this
    clear hfr
    cases hgd : goodB sure n m l c A
    case true =>
      have hgA : deservesE n m l c sure n A = 0 := by rw [HDA.out, hgd]; rfl
      replace hlt0 := hlt0 hgd
      by_cases h3 : k3 = 0
      · obtain ⟨s1, s2, s3⟩ := hsay h3
        subst h3
        clear hsay
        obtain ⟨sx1, sx2, sx3, sx4⟩ := small_bd hsx
        have hq := quo_le s1.1 s2.2
        have hqa := tdiv_abs k1 k2 200000000000000 (by omega)
        have wq1 : IntKind.i64.wrap (k1.tdiv k2) = k1.tdiv k2 := IntWalk.i64_in _ (by omega)
        have wq2 : wrap64 (k1.tdiv k2) = k1.tdiv k2 := IntWalk.wrap64_in _ ⟨by omega, by omega⟩
        have dq1 : decide (k2 < 1) = false := by simp; omega
        have dq2 : decide (1073741824 < k2) = false := by simp; omega
        have dq3 : decide (1000 < k1.tdiv k2) = false := by simp; omega
        have hk20 : k2 ≠ 0 := by omega
        by_cases hk1 : k1 < 0
        · have hk1d : decide (k1 < 0) = true := by simpa using hk1
          clear s3
          obtain ⟨tc0, tc1, _, _, tz⟩ := ratrow2 HT.out
          obtain ⟨⟨pc0, pc1, pc2, pc3, pz⟩, _⟩ := qrow HP.out
          go_enter Tryz.func7, Tryz.ntmps7
          go_wp2_with fail
          refine HFi.out.mono ?_
          rintro e w1 ⟨rfl, hb1⟩
          clear tc0 tc1 tz pc0 pc1 pc2 pc3 pz hW hbt
          replace HM := Lib.hid (HM.out.below hb1)
          replace HT := Lib.hid (RowIs.below HT.out hb1)
          replace HP := Lib.hid (RowIs.below HP.out hb1)
          replace HG := Lib.hid (HG.out.below hb1)
          replace hB := bup hB hb1
          obtain ⟨tc0, tc1, _, _, tz⟩ := ratrow2 HT.out
          go_wp2_with fail
          clear hb1 tc0 tc1 tz
          refine (mixed_c b n len cap2 g w1 HG.out hn16 hl Hgb.out).mono ?_
          rintro e w69 ⟨gHA, cHA, gHAl, gHAz, rfl, hHA0, hw70⟩
          replace HM := Lib.hid (HM.out.below hw70)
          replace HT := Lib.hid (RowIs.below HT.out hw70)
          replace HP := Lib.hid (RowIs.below HP.out hw70)
          replace HG := Lib.hid (HG.out.below hw70)
          replace hB := bup hB hw70
          rw [hA] at hHA0
          have HA := Lib.hid hHA0
          clear hHA0 gHAl gHAz
          have hC71 := Cost_c a (some ⟨gHA, 0, none⟩) n cap n cHA m A w69 HM.out HA.out hn hn
          rw [HCA.out] at hC71
          try dsimp only [re2, re3, proofV, zeroP] at hC71
          have C71 := Lib.hid hC71
          clear hC71
          go_wp2_with fail
          clear hw70
          refine C71.out.mono ?_
          rintro e w72 ⟨rfl, hw73⟩
          clear C71
          replace HM := Lib.hid (HM.out.below hw73)
          replace HT := Lib.hid (RowIs.below HT.out hw73)
          replace HP := Lib.hid (RowIs.below HP.out hw73)
          replace HG := Lib.hid (HG.out.below hw73)
          replace HA := Lib.hid (HA.out.below hw73)
          replace hB := bup hB hw73
          obtain ⟨Y74, hY74⟩ : ∃ Y74, w72.alloc (.cells #[.int .i64 a1, .int .i64 a2] 29) = Y74 := ⟨_, rfl⟩
          have hy75 : Below w72.heap.size w72 Y74 := by rw [← hY74]; exact Below.alloc1 (Below.refl _ _) _ (Nat.le_refl _)
          replace HM := Lib.hid (HM.out.below hy75)
          replace HT := Lib.hid (RowIs.below HT.out hy75)
          replace HP := Lib.hid (RowIs.below HP.out hy75)
          replace HG := Lib.hid (HG.out.below hy75)
          replace HA := Lib.hid (HA.out.below hy75)
          replace hB := bup hB hy75
          have RC := Lib.hid (show RowIs Y74 w72.heap.size #[.int .i64 a1, .int .i64 a2] 29 by rw [← hY74]; exact heap_new_at _ _ _ rfl)
          obtain ⟨bRC, hbRC⟩ : ∃ bRC, w72.heap.size = bRC := ⟨_, rfl⟩
          rw [hbRC] at RC
          have hC76 := Deserves_c a (some ⟨gHA, 0, none⟩) n cap n cHA m A l c sure Y74 HM.out HA.out hn hn
          rw [hgA] at hC76
          try dsimp only [re2, re3, proofV, zeroP] at hC76
          have C76 := Lib.hid hC76
          clear hC76
          obtain ⟨tc0, tc1, _, _, tz⟩ := ratrow2 HT.out
          go_wp2_with fail
          clear hw73 hbRC hY74 hy75 tc0 tc1 tz
          refine C76.out.mono ?_
          rintro e w77 ⟨rfl, hw78⟩
          clear C76
          replace HM := Lib.hid (HM.out.below hw78)
          replace HT := Lib.hid (RowIs.below HT.out hw78)
          replace HP := Lib.hid (RowIs.below HP.out hw78)
          replace HG := Lib.hid (HG.out.below hw78)
          replace HA := Lib.hid (HA.out.below hw78)
          replace RC := Lib.hid (RowIs.below RC.out hw78)
          replace hB := bup hB hw78
          have hC79 := lawLeast_c a n cap m l c sure true (x1, x2) w77 HM.out hn12 hL2.1 hsx
          try dsimp only [re2, re3, proofV, zeroP] at hC79
          have C79 := Lib.hid hC79
          clear hC79
          obtain ⟨tc0, tc1, _, _, tz⟩ := ratrow2 HT.out
          go_wp2_with fail
          clear hw78 tc0 tc1 tz
          refine C79.out.mono ?_
          rintro e w80 ⟨rfl, hw81⟩
          clear C79
          replace HM := Lib.hid (HM.out.below hw81)
          replace HT := Lib.hid (RowIs.below HT.out hw81)
          replace HP := Lib.hid (RowIs.below HP.out hw81)
          replace HG := Lib.hid (HG.out.below hw81)
          replace HA := Lib.hid (HA.out.below hw81)
          replace RC := Lib.hid (RowIs.below RC.out hw81)
          replace hB := bup hB hw81
          simp only [leastV]
          obtain ⟨Y82, hY82⟩ : ∃ Y82, w80.alloc (.cells #[.int .i64 x1, .int .i64 x2] 29) = Y82 := ⟨_, rfl⟩
          have hy83 : Below w80.heap.size w80 Y82 := by rw [← hY82]; exact Below.alloc1 (Below.refl _ _) _ (Nat.le_refl _)
          replace HM := Lib.hid (HM.out.below hy83)
          replace HT := Lib.hid (RowIs.below HT.out hy83)
          replace HP := Lib.hid (RowIs.below HP.out hy83)
          replace HG := Lib.hid (HG.out.below hy83)
          replace HA := Lib.hid (HA.out.below hy83)
          replace RC := Lib.hid (RowIs.below RC.out hy83)
          replace hB := bup hB hy83
          have RL := Lib.hid (show RowIs Y82 w80.heap.size #[.int .i64 x1, .int .i64 x2] 29 by rw [← hY82]; exact heap_new_at _ _ _ rfl)
          obtain ⟨bRL, hbRL⟩ : ∃ bRL, w80.heap.size = bRL := ⟨_, rfl⟩
          rw [hbRL] at RL
          have hC84 := small_c a1 a2 Y82 HsA.out
          try dsimp only [re2, re3, proofV, zeroP] at hC84
          have C84 := Lib.hid hC84
          clear hC84
          obtain ⟨v850, v851, _, _, v85z⟩ := ratrow2 RC.out
          obtain ⟨v860, v861, _, _, v86z⟩ := ratrow2 RL.out
          go_wp2_with fail
          clear hw81 hbRL hY82 hy83 v850 v851 v85z v860 v861 v86z
          refine C84.out.mono ?_
          rintro e w87 ⟨rfl, hw88⟩
          clear C84
          replace HM := Lib.hid (HM.out.below hw88)
          replace HT := Lib.hid (RowIs.below HT.out hw88)
          replace HP := Lib.hid (RowIs.below HP.out hw88)
          replace HG := Lib.hid (HG.out.below hw88)
          replace HA := Lib.hid (HA.out.below hw88)
          replace RC := Lib.hid (RowIs.below RC.out hw88)
          replace RL := Lib.hid (RowIs.below RL.out hw88)
          replace hB := bup hB hw88
          have hC89 := less_small HsA.out hsx w87
          rw [hlt0] at hC89
          try dsimp only [re2, re3, proofV, zeroP] at hC89
          have C89 := Lib.hid hC89
          clear hC89
          obtain ⟨v900, v901, _, _, v90z⟩ := ratrow2 RC.out
          obtain ⟨v910, v911, _, _, v91z⟩ := ratrow2 RL.out
          go_wp2_with fail
          clear hw88 v900 v901 v90z v910 v911 v91z
          refine C89.out.mono ?_
          rintro e w92 ⟨rfl, hw93⟩
          clear C89
          replace HM := Lib.hid (HM.out.below hw93)
          replace HT := Lib.hid (RowIs.below HT.out hw93)
          replace HP := Lib.hid (RowIs.below HP.out hw93)
          replace HG := Lib.hid (HG.out.below hw93)
          replace HA := Lib.hid (HA.out.below hw93)
          replace RC := Lib.hid (RowIs.below RC.out hw93)
          replace RL := Lib.hid (RowIs.below RL.out hw93)
          replace hB := bup hB hw93
          have hC94 := Cheapest_yes_c a n cap m l c sure f w92 HM.out hn hbo hbs
          try dsimp only [re2, re3, proofV, zeroP] at hC94
          have C94 := Lib.hid hC94
          clear hC94
          obtain ⟨tc0, tc1, _, _, tz⟩ := ratrow2 HT.out
          go_wp2_with fail
          clear hw93 tc0 tc1 tz
          refine C94.out.mono ?_
          rintro e w95 ⟨gq, hgq, hgz, rfl, HQ0, hw96⟩
          clear C94
          replace HM := Lib.hid (HM.out.below hw96)
          replace HT := Lib.hid (RowIs.below HT.out hw96)
          replace HP := Lib.hid (RowIs.below HP.out hw96)
          replace HG := Lib.hid (HG.out.below hw96)
          replace HA := Lib.hid (HA.out.below hw96)
          replace RC := Lib.hid (RowIs.below RC.out hw96)
          replace RL := Lib.hid (RowIs.below RL.out hw96)
          replace hB := bup hB hw96
          have HQ := Lib.hid HQ0
          clear HQ0 hgq hgz
          have hC97 := Proof_yes_c a n cap m l c sure w95 HM.out hn hbo hemp hCP.1
          try dsimp only [re2, re3, proofV, zeroP] at hC97
          have C97 := Lib.hid hC97
          clear hC97
          obtain ⟨tc0, tc1, _, _, tz⟩ := ratrow2 HT.out
          go_wp2_with fail
          clear hw96 tc0 tc1 tz
          refine C97.out.mono ?_
          rintro e w98 ⟨L, hLL, rfl, hw99⟩
          clear C97
          replace HM := Lib.hid (HM.out.below hw99)
          replace HT := Lib.hid (RowIs.below HT.out hw99)
          replace HP := Lib.hid (RowIs.below HP.out hw99)
          replace HG := Lib.hid (HG.out.below hw99)
          replace HA := Lib.hid (HA.out.below hw99)
          replace RC := Lib.hid (RowIs.below RC.out hw99)
          replace RL := Lib.hid (RowIs.below RL.out hw99)
          replace HQ := Lib.hid (HQ.out.below hw99)
          replace hB := bup hB hw99
          obtain ⟨q, hq⟩ : ∃ q, bestP (costLt l c) L = q := ⟨_, rfl⟩
          have HN0 := Lib.hid (show checkProofR n m l c sure q = (x1, x2, 0) by rw [← hq]; exact hCP.2 L hLL)
          rw [hq]
          clear hq hLL
          obtain ⟨Y100, hY100⟩ : ∃ Y100, w98.alloc (.cells #[.int .i64 q.d, .int .i64 q.b, .int .i64 q.l, .int .i64 q.c] 45) = Y100 := ⟨_, rfl⟩
          have hy101 : Below w98.heap.size w98 Y100 := by rw [← hY100]; exact Below.alloc1 (Below.refl _ _) _ (Nat.le_refl _)
          replace HM := Lib.hid (HM.out.below hy101)
          replace HT := Lib.hid (RowIs.below HT.out hy101)
          replace HP := Lib.hid (RowIs.below HP.out hy101)
          replace HG := Lib.hid (HG.out.below hy101)
          replace HA := Lib.hid (HA.out.below hy101)
          replace RC := Lib.hid (RowIs.below RC.out hy101)
          replace RL := Lib.hid (RowIs.below RL.out hy101)
          replace HQ := Lib.hid (HQ.out.below hy101)
          replace hB := bup hB hy101
          have RQ := Lib.hid (show RowIs Y100 w98.heap.size #[.int .i64 q.d, .int .i64 q.b, .int .i64 q.l, .int .i64 q.c] 45 by rw [← hY100]; exact heap_new_at _ _ _ rfl)
          obtain ⟨bRQ, hbRQ⟩ : ∃ bRQ, w98.heap.size = bRQ := ⟨_, rfl⟩
          rw [hbRQ] at RQ
          replace RQ := Lib.hid (show RowIs Y100 bRQ (prfRow q) 45 from RQ.out)
          have hC102 := Deserves_c a (some ⟨gq, 0, none⟩) n cap n n m f l c sure Y100 HM.out HQ.out hn hn
          rw [HDf.out] at hC102
          try dsimp only [re2, re3, proofV, zeroP] at hC102
          have C102 := Lib.hid hC102
          clear hC102
          obtain ⟨tc0, tc1, _, _, tz⟩ := ratrow2 HT.out
          go_wp2_with fail
          clear hw99 hbRQ hY100 hy101 tc0 tc1 tz
          refine C102.out.mono ?_
          rintro e w103 ⟨rfl, hw104⟩
          clear C102
          replace HM := Lib.hid (HM.out.below hw104)
          replace HT := Lib.hid (RowIs.below HT.out hw104)
          replace HP := Lib.hid (RowIs.below HP.out hw104)
          replace HG := Lib.hid (HG.out.below hw104)
          replace HA := Lib.hid (HA.out.below hw104)
          replace RC := Lib.hid (RowIs.below RC.out hw104)
          replace RL := Lib.hid (RowIs.below RL.out hw104)
          replace HQ := Lib.hid (HQ.out.below hw104)
          replace RQ := Lib.hid (RowIs.below RQ.out hw104)
          replace hB := bup hB hw104
          have hC105 := Cost_c a (some ⟨gq, 0, none⟩) n cap n n m f w103 HM.out HQ.out hn hn
          rw [HCf.out] at hC105
          try dsimp only [re2, re3, proofV, zeroP] at hC105
          have C105 := Lib.hid hC105
          clear hC105
          go_wp2_with fail
          clear hw104
          refine C105.out.mono ?_
          rintro e w106 ⟨rfl, hw107⟩
          clear C105
          replace HM := Lib.hid (HM.out.below hw107)
          replace HT := Lib.hid (RowIs.below HT.out hw107)
          replace HP := Lib.hid (RowIs.below HP.out hw107)
          replace HG := Lib.hid (HG.out.below hw107)
          replace HA := Lib.hid (HA.out.below hw107)
          replace RC := Lib.hid (RowIs.below RC.out hw107)
          replace RL := Lib.hid (RowIs.below RL.out hw107)
          replace HQ := Lib.hid (HQ.out.below hw107)
          replace RQ := Lib.hid (RowIs.below RQ.out hw107)
          replace hB := bup hB hw107
          obtain ⟨Y108, hY108⟩ : ∃ Y108, w106.alloc (.cells #[.int .i64 x1, .int .i64 x2] 29) = Y108 := ⟨_, rfl⟩
          have hy109 : Below w106.heap.size w106 Y108 := by rw [← hY108]; exact Below.alloc1 (Below.refl _ _) _ (Nat.le_refl _)
          replace HM := Lib.hid (HM.out.below hy109)
          replace HT := Lib.hid (RowIs.below HT.out hy109)
          replace HP := Lib.hid (RowIs.below HP.out hy109)
          replace HG := Lib.hid (HG.out.below hy109)
          replace HA := Lib.hid (HA.out.below hy109)
          replace RC := Lib.hid (RowIs.below RC.out hy109)
          replace RL := Lib.hid (RowIs.below RL.out hy109)
          replace HQ := Lib.hid (HQ.out.below hy109)
          replace RQ := Lib.hid (RowIs.below RQ.out hy109)
          replace hB := bup hB hy109
          have R1 := Lib.hid (show RowIs Y108 w106.heap.size #[.int .i64 x1, .int .i64 x2] 29 by rw [← hY108]; exact heap_new_at _ _ _ rfl)
          obtain ⟨bR1, hbR1⟩ : ∃ bR1, w106.heap.size = bR1 := ⟨_, rfl⟩
          rw [hbR1] at R1
          have hC110 := CheckProof_c a n cap m l c sure q Y108 HM.out hn
          rw [HN0.out] at hC110
          try dsimp only [re2, re3, proofV, zeroP] at hC110
          have C110 := Lib.hid hC110
          clear hC110
          obtain ⟨tc0, tc1, _, _, tz⟩ := ratrow2 HT.out
          obtain ⟨⟨qc0, qc1, qc2, qc3, qz⟩, _⟩ := qrow RQ.out
          go_wp2_with fail
          clear hw107 hbR1 hY108 hy109 tc0 tc1 tz qc0 qc1 qc2 qc3 qz
          refine C110.out.mono ?_
          rintro e w111 ⟨rfl, hw112⟩
          clear C110
          replace HM := Lib.hid (HM.out.below hw112)
          replace HT := Lib.hid (RowIs.below HT.out hw112)
          replace HP := Lib.hid (RowIs.below HP.out hw112)
          replace HG := Lib.hid (HG.out.below hw112)
          replace HA := Lib.hid (HA.out.below hw112)
          replace RC := Lib.hid (RowIs.below RC.out hw112)
          replace RL := Lib.hid (RowIs.below RL.out hw112)
          replace HQ := Lib.hid (HQ.out.below hw112)
          replace RQ := Lib.hid (RowIs.below RQ.out hw112)
          replace R1 := Lib.hid (RowIs.below R1.out hw112)
          replace hB := bup hB hw112
          obtain ⟨Y113, hY113⟩ : ∃ Y113, w111.alloc (.cells #[.int .i64 x1, .int .i64 x2] 29) = Y113 := ⟨_, rfl⟩
          have hy114 : Below w111.heap.size w111 Y113 := by rw [← hY113]; exact Below.alloc1 (Below.refl _ _) _ (Nat.le_refl _)
          replace HM := Lib.hid (HM.out.below hy114)
          replace HT := Lib.hid (RowIs.below HT.out hy114)
          replace HP := Lib.hid (RowIs.below HP.out hy114)
          replace HG := Lib.hid (HG.out.below hy114)
          replace HA := Lib.hid (HA.out.below hy114)
          replace RC := Lib.hid (RowIs.below RC.out hy114)
          replace RL := Lib.hid (RowIs.below RL.out hy114)
          replace HQ := Lib.hid (HQ.out.below hy114)
          replace RQ := Lib.hid (RowIs.below RQ.out hy114)
          replace R1 := Lib.hid (RowIs.below R1.out hy114)
          replace hB := bup hB hy114
          have R2 := Lib.hid (show RowIs Y113 w111.heap.size #[.int .i64 x1, .int .i64 x2] 29 by rw [← hY113]; exact heap_new_at _ _ _ rfl)
          obtain ⟨bR2, hbR2⟩ : ∃ bR2, w111.heap.size = bR2 := ⟨_, rfl⟩
          rw [hbR2] at R2
          have hC115 := rcheckProof_c a n cap m l c sure q Y113 HM.out hn
          rw [HN0.out] at hC115
          try dsimp only [re2, re3, proofV, zeroP] at hC115
          have C115 := Lib.hid hC115
          clear hC115
          obtain ⟨tc0, tc1, _, _, tz⟩ := ratrow2 HT.out
          obtain ⟨⟨qc0, qc1, qc2, qc3, qz⟩, _⟩ := qrow RQ.out
          go_wp2_with fail
          clear hw112 hbR2 hY113 hy114 tc0 tc1 tz qc0 qc1 qc2 qc3 qz
          refine C115.out.mono ?_
          rintro e w116 ⟨rfl, hw117⟩
          clear C115
          replace HM := Lib.hid (HM.out.below hw117)
          replace HT := Lib.hid (RowIs.below HT.out hw117)
          replace HP := Lib.hid (RowIs.below HP.out hw117)
          replace HG := Lib.hid (HG.out.below hw117)
          replace HA := Lib.hid (HA.out.below hw117)
          replace RC := Lib.hid (RowIs.below RC.out hw117)
          replace RL := Lib.hid (RowIs.below RL.out hw117)
          replace HQ := Lib.hid (HQ.out.below hw117)
          replace RQ := Lib.hid (RowIs.below RQ.out hw117)
          replace R1 := Lib.hid (RowIs.below R1.out hw117)
          replace R2 := Lib.hid (RowIs.below R2.out hw117)
          replace hB := bup hB hw117
          obtain ⟨Y118, hY118⟩ : ∃ Y118, w116.alloc (.cells #[.int .i64 x1, .int .i64 x2] 29) = Y118 := ⟨_, rfl⟩
          have hy119 : Below w116.heap.size w116 Y118 := by rw [← hY118]; exact Below.alloc1 (Below.refl _ _) _ (Nat.le_refl _)
          replace HM := Lib.hid (HM.out.below hy119)
          replace HT := Lib.hid (RowIs.below HT.out hy119)
          replace HP := Lib.hid (RowIs.below HP.out hy119)
          replace HG := Lib.hid (HG.out.below hy119)
          replace HA := Lib.hid (HA.out.below hy119)
          replace RC := Lib.hid (RowIs.below RC.out hy119)
          replace RL := Lib.hid (RowIs.below RL.out hy119)
          replace HQ := Lib.hid (HQ.out.below hy119)
          replace RQ := Lib.hid (RowIs.below RQ.out hy119)
          replace R1 := Lib.hid (RowIs.below R1.out hy119)
          replace R2 := Lib.hid (RowIs.below R2.out hy119)
          replace hB := bup hB hy119
          have R3 := Lib.hid (show RowIs Y118 w116.heap.size #[.int .i64 x1, .int .i64 x2] 29 by rw [← hY118]; exact heap_new_at _ _ _ rfl)
          obtain ⟨bR3, hbR3⟩ : ∃ bR3, w116.heap.size = bR3 := ⟨_, rfl⟩
          rw [hbR3] at R3
          have heq := fun (w : World) => eqRat x1 x2 w
          obtain ⟨v1200, v1201, _, _, v120z⟩ := ratrow2 RL.out
          obtain ⟨v1210, v1211, _, _, v121z⟩ := ratrow2 R1.out
          obtain ⟨v1220, v1221, _, _, v122z⟩ := ratrow2 R2.out
          obtain ⟨v1230, v1231, _, _, v123z⟩ := ratrow2 R3.out
          have hC124 := CheckProof_c a n cap m l c sure p Y118 HM.out hn
          rw [HK.out] at hC124
          try dsimp only [re2, re3, proofV, zeroP] at hC124
          have C124 := Lib.hid hC124
          clear hC124
          obtain ⟨tc0, tc1, _, _, tz⟩ := ratrow2 HT.out
          obtain ⟨⟨pc0, pc1, pc2, pc3, pz⟩, _⟩ := qrow HP.out
          go_wp2_with fail
          clear hw117 hbR3 hY118 hy119 v1200 v1201 v120z v1210 v1211 v121z v1220 v1221 v122z v1230 v1231 v123z tc0 tc1 tz pc0 pc1 pc2 pc3 pz
          refine C124.out.mono ?_
          rintro e w125 ⟨rfl, hw126⟩
          clear C124
          replace HM := Lib.hid (HM.out.below hw126)
          replace HT := Lib.hid (RowIs.below HT.out hw126)
          replace HP := Lib.hid (RowIs.below HP.out hw126)
          replace HG := Lib.hid (HG.out.below hw126)
          replace HA := Lib.hid (HA.out.below hw126)
          replace RC := Lib.hid (RowIs.below RC.out hw126)
          replace RL := Lib.hid (RowIs.below RL.out hw126)
          replace HQ := Lib.hid (HQ.out.below hw126)
          replace RQ := Lib.hid (RowIs.below RQ.out hw126)
          replace R1 := Lib.hid (RowIs.below R1.out hw126)
          replace R2 := Lib.hid (RowIs.below R2.out hw126)
          replace R3 := Lib.hid (RowIs.below R3.out hw126)
          replace hB := bup hB hw126
          obtain ⟨Y127, hY127⟩ : ∃ Y127, w125.alloc (.cells #[.int .i64 k1, .int .i64 k2] 29) = Y127 := ⟨_, rfl⟩
          have hy128 : Below w125.heap.size w125 Y127 := by rw [← hY127]; exact Below.alloc1 (Below.refl _ _) _ (Nat.le_refl _)
          replace HM := Lib.hid (HM.out.below hy128)
          replace HT := Lib.hid (RowIs.below HT.out hy128)
          replace HP := Lib.hid (RowIs.below HP.out hy128)
          replace HG := Lib.hid (HG.out.below hy128)
          replace HA := Lib.hid (HA.out.below hy128)
          replace RC := Lib.hid (RowIs.below RC.out hy128)
          replace RL := Lib.hid (RowIs.below RL.out hy128)
          replace HQ := Lib.hid (HQ.out.below hy128)
          replace RQ := Lib.hid (RowIs.below RQ.out hy128)
          replace R1 := Lib.hid (RowIs.below R1.out hy128)
          replace R2 := Lib.hid (RowIs.below R2.out hy128)
          replace R3 := Lib.hid (RowIs.below R3.out hy128)
          replace hB := bup hB hy128
          have RN := Lib.hid (show RowIs Y127 w125.heap.size #[.int .i64 k1, .int .i64 k2] 29 by rw [← hY127]; exact heap_new_at _ _ _ rfl)
          obtain ⟨bRN, hbRN⟩ : ∃ bRN, w125.heap.size = bRN := ⟨_, rfl⟩
          rw [hbRN] at RN
          have hC129 := rcheckProof_c a n cap m l c sure p Y127 HM.out hn
          rw [HK.out] at hC129
          try dsimp only [re2, re3, proofV, zeroP] at hC129
          have C129 := Lib.hid hC129
          clear hC129
          obtain ⟨tc0, tc1, _, _, tz⟩ := ratrow2 HT.out
          obtain ⟨⟨pc0, pc1, pc2, pc3, pz⟩, _⟩ := qrow HP.out
          go_wp2_with fail
          clear hw126 hbRN hY127 hy128 tc0 tc1 tz pc0 pc1 pc2 pc3 pz
          refine C129.out.mono ?_
          rintro e w130 ⟨rfl, hw131⟩
          clear C129
          replace HM := Lib.hid (HM.out.below hw131)
          replace HT := Lib.hid (RowIs.below HT.out hw131)
          replace HP := Lib.hid (RowIs.below HP.out hw131)
          replace HG := Lib.hid (HG.out.below hw131)
          replace HA := Lib.hid (HA.out.below hw131)
          replace RC := Lib.hid (RowIs.below RC.out hw131)
          replace RL := Lib.hid (RowIs.below RL.out hw131)
          replace HQ := Lib.hid (HQ.out.below hw131)
          replace RQ := Lib.hid (RowIs.below RQ.out hw131)
          replace R1 := Lib.hid (RowIs.below R1.out hw131)
          replace R2 := Lib.hid (RowIs.below R2.out hw131)
          replace R3 := Lib.hid (RowIs.below R3.out hw131)
          replace RN := Lib.hid (RowIs.below RN.out hw131)
          replace hB := bup hB hw131
          obtain ⟨Y132, hY132⟩ : ∃ Y132, w130.alloc (.cells #[.int .i64 k1, .int .i64 k2] 29) = Y132 := ⟨_, rfl⟩
          have hy133 : Below w130.heap.size w130 Y132 := by rw [← hY132]; exact Below.alloc1 (Below.refl _ _) _ (Nat.le_refl _)
          replace HM := Lib.hid (HM.out.below hy133)
          replace HT := Lib.hid (RowIs.below HT.out hy133)
          replace HP := Lib.hid (RowIs.below HP.out hy133)
          replace HG := Lib.hid (HG.out.below hy133)
          replace HA := Lib.hid (HA.out.below hy133)
          replace RC := Lib.hid (RowIs.below RC.out hy133)
          replace RL := Lib.hid (RowIs.below RL.out hy133)
          replace HQ := Lib.hid (HQ.out.below hy133)
          replace RQ := Lib.hid (RowIs.below RQ.out hy133)
          replace R1 := Lib.hid (RowIs.below R1.out hy133)
          replace R2 := Lib.hid (RowIs.below R2.out hy133)
          replace R3 := Lib.hid (RowIs.below R3.out hy133)
          replace RN := Lib.hid (RowIs.below RN.out hy133)
          replace hB := bup hB hy133
          have RM := Lib.hid (show RowIs Y132 w130.heap.size #[.int .i64 k1, .int .i64 k2] 29 by rw [← hY132]; exact heap_new_at _ _ _ rfl)
          obtain ⟨bRM, hbRM⟩ : ∃ bRM, w130.heap.size = bRM := ⟨_, rfl⟩
          rw [hbRM] at RM
          obtain ⟨v1340, v1341, _, _, v134z⟩ := ratrow2 RN.out
          obtain ⟨v1350, v1351, _, _, v135z⟩ := ratrow2 RL.out
          go_wp2_with fail
          refine (works_c _).mono ?_
          rintro e wz ⟨rfl, hbz⟩
          go_wp2
          go_ret
          exact ⟨rfl, bup hB hbz⟩
        · have hk1d : decide (k1 < 0) = false := by simpa using hk1
          have m1 := mul_bd (x := k1) (y := x2) (A := 1073741824000) (B := 6000000) (by omega) (by omega) (by omega) (by omega)
          have m2 := mul_bd (x := x1) (y := k2) (A := 6000000000) (B := 1073741824) (by omega) (by omega) (by omega) (by omega)
          have ww1 : IntKind.i64.wrap (k1 * x2) = k1 * x2 := IntWalk.i64_in _ (by omega)
          have ww2 : IntKind.i64.wrap (x1 * k2) = x1 * k2 := IntWalk.i64_in _ (by omega)
          have ww3 : wrap64 (k1 * x2) = k1 * x2 := IntWalk.wrap64_in _ ⟨by omega, by omega⟩
          have ww4 : wrap64 (x1 * k2) = x1 * k2 := IntWalk.wrap64_in _ ⟨by omega, by omega⟩
          have dd : decide (k1 * x2 ≤ x1 * k2) = true := decide_eq_true s3
          obtain ⟨tc0, tc1, _, _, tz⟩ := ratrow2 HT.out
          obtain ⟨⟨pc0, pc1, pc2, pc3, pz⟩, _⟩ := qrow HP.out
          go_enter Tryz.func7, Tryz.ntmps7
          go_wp2_with fail
          refine HFi.out.mono ?_
          rintro e w1 ⟨rfl, hb1⟩
          clear tc0 tc1 tz pc0 pc1 pc2 pc3 pz hW hbt
          replace HM := Lib.hid (HM.out.below hb1)
          replace HT := Lib.hid (RowIs.below HT.out hb1)
          replace HP := Lib.hid (RowIs.below HP.out hb1)
          replace HG := Lib.hid (HG.out.below hb1)
          replace hB := bup hB hb1
          obtain ⟨tc0, tc1, _, _, tz⟩ := ratrow2 HT.out
          go_wp2_with fail
          clear hb1 tc0 tc1 tz
          refine (mixed_c b n len cap2 g w1 HG.out hn16 hl Hgb.out).mono ?_
          rintro e w136 ⟨gHA, cHA, gHAl, gHAz, rfl, hHA0, hw137⟩
          replace HM := Lib.hid (HM.out.below hw137)
          replace HT := Lib.hid (RowIs.below HT.out hw137)
          replace HP := Lib.hid (RowIs.below HP.out hw137)
          replace HG := Lib.hid (HG.out.below hw137)
          replace hB := bup hB hw137
          rw [hA] at hHA0
          have HA := Lib.hid hHA0
          clear hHA0 gHAl gHAz
          have hC138 := Cost_c a (some ⟨gHA, 0, none⟩) n cap n cHA m A w136 HM.out HA.out hn hn
          rw [HCA.out] at hC138
          try dsimp only [re2, re3, proofV, zeroP] at hC138
          have C138 := Lib.hid hC138
          clear hC138
          go_wp2_with fail
          clear hw137
          refine C138.out.mono ?_
          rintro e w139 ⟨rfl, hw140⟩
          clear C138
          replace HM := Lib.hid (HM.out.below hw140)
          replace HT := Lib.hid (RowIs.below HT.out hw140)
          replace HP := Lib.hid (RowIs.below HP.out hw140)
          replace HG := Lib.hid (HG.out.below hw140)
          replace HA := Lib.hid (HA.out.below hw140)
          replace hB := bup hB hw140
          obtain ⟨Y141, hY141⟩ : ∃ Y141, w139.alloc (.cells #[.int .i64 a1, .int .i64 a2] 29) = Y141 := ⟨_, rfl⟩
          have hy142 : Below w139.heap.size w139 Y141 := by rw [← hY141]; exact Below.alloc1 (Below.refl _ _) _ (Nat.le_refl _)
          replace HM := Lib.hid (HM.out.below hy142)
          replace HT := Lib.hid (RowIs.below HT.out hy142)
          replace HP := Lib.hid (RowIs.below HP.out hy142)
          replace HG := Lib.hid (HG.out.below hy142)
          replace HA := Lib.hid (HA.out.below hy142)
          replace hB := bup hB hy142
          have RC := Lib.hid (show RowIs Y141 w139.heap.size #[.int .i64 a1, .int .i64 a2] 29 by rw [← hY141]; exact heap_new_at _ _ _ rfl)
          obtain ⟨bRC, hbRC⟩ : ∃ bRC, w139.heap.size = bRC := ⟨_, rfl⟩
          rw [hbRC] at RC
          have hC143 := Deserves_c a (some ⟨gHA, 0, none⟩) n cap n cHA m A l c sure Y141 HM.out HA.out hn hn
          rw [hgA] at hC143
          try dsimp only [re2, re3, proofV, zeroP] at hC143
          have C143 := Lib.hid hC143
          clear hC143
          obtain ⟨tc0, tc1, _, _, tz⟩ := ratrow2 HT.out
          go_wp2_with fail
          clear hw140 hbRC hY141 hy142 tc0 tc1 tz
          refine C143.out.mono ?_
          rintro e w144 ⟨rfl, hw145⟩
          clear C143
          replace HM := Lib.hid (HM.out.below hw145)
          replace HT := Lib.hid (RowIs.below HT.out hw145)
          replace HP := Lib.hid (RowIs.below HP.out hw145)
          replace HG := Lib.hid (HG.out.below hw145)
          replace HA := Lib.hid (HA.out.below hw145)
          replace RC := Lib.hid (RowIs.below RC.out hw145)
          replace hB := bup hB hw145
          have hC146 := lawLeast_c a n cap m l c sure true (x1, x2) w144 HM.out hn12 hL2.1 hsx
          try dsimp only [re2, re3, proofV, zeroP] at hC146
          have C146 := Lib.hid hC146
          clear hC146
          obtain ⟨tc0, tc1, _, _, tz⟩ := ratrow2 HT.out
          go_wp2_with fail
          clear hw145 tc0 tc1 tz
          refine C146.out.mono ?_
          rintro e w147 ⟨rfl, hw148⟩
          clear C146
          replace HM := Lib.hid (HM.out.below hw148)
          replace HT := Lib.hid (RowIs.below HT.out hw148)
          replace HP := Lib.hid (RowIs.below HP.out hw148)
          replace HG := Lib.hid (HG.out.below hw148)
          replace HA := Lib.hid (HA.out.below hw148)
          replace RC := Lib.hid (RowIs.below RC.out hw148)
          replace hB := bup hB hw148
          simp only [leastV]
          obtain ⟨Y149, hY149⟩ : ∃ Y149, w147.alloc (.cells #[.int .i64 x1, .int .i64 x2] 29) = Y149 := ⟨_, rfl⟩
          have hy150 : Below w147.heap.size w147 Y149 := by rw [← hY149]; exact Below.alloc1 (Below.refl _ _) _ (Nat.le_refl _)
          replace HM := Lib.hid (HM.out.below hy150)
          replace HT := Lib.hid (RowIs.below HT.out hy150)
          replace HP := Lib.hid (RowIs.below HP.out hy150)
          replace HG := Lib.hid (HG.out.below hy150)
          replace HA := Lib.hid (HA.out.below hy150)
          replace RC := Lib.hid (RowIs.below RC.out hy150)
          replace hB := bup hB hy150
          have RL := Lib.hid (show RowIs Y149 w147.heap.size #[.int .i64 x1, .int .i64 x2] 29 by rw [← hY149]; exact heap_new_at _ _ _ rfl)
          obtain ⟨bRL, hbRL⟩ : ∃ bRL, w147.heap.size = bRL := ⟨_, rfl⟩
          rw [hbRL] at RL
          have hC151 := small_c a1 a2 Y149 HsA.out
          try dsimp only [re2, re3, proofV, zeroP] at hC151
          have C151 := Lib.hid hC151
          clear hC151
          obtain ⟨v1520, v1521, _, _, v152z⟩ := ratrow2 RC.out
          obtain ⟨v1530, v1531, _, _, v153z⟩ := ratrow2 RL.out
          go_wp2_with fail
          clear hw148 hbRL hY149 hy150 v1520 v1521 v152z v1530 v1531 v153z
          refine C151.out.mono ?_
          rintro e w154 ⟨rfl, hw155⟩
          clear C151
          replace HM := Lib.hid (HM.out.below hw155)
          replace HT := Lib.hid (RowIs.below HT.out hw155)
          replace HP := Lib.hid (RowIs.below HP.out hw155)
          replace HG := Lib.hid (HG.out.below hw155)
          replace HA := Lib.hid (HA.out.below hw155)
          replace RC := Lib.hid (RowIs.below RC.out hw155)
          replace RL := Lib.hid (RowIs.below RL.out hw155)
          replace hB := bup hB hw155
          have hC156 := less_small HsA.out hsx w154
          rw [hlt0] at hC156
          try dsimp only [re2, re3, proofV, zeroP] at hC156
          have C156 := Lib.hid hC156
          clear hC156
          obtain ⟨v1570, v1571, _, _, v157z⟩ := ratrow2 RC.out
          obtain ⟨v1580, v1581, _, _, v158z⟩ := ratrow2 RL.out
          go_wp2_with fail
          clear hw155 v1570 v1571 v157z v1580 v1581 v158z
          refine C156.out.mono ?_
          rintro e w159 ⟨rfl, hw160⟩
          clear C156
          replace HM := Lib.hid (HM.out.below hw160)
          replace HT := Lib.hid (RowIs.below HT.out hw160)
          replace HP := Lib.hid (RowIs.below HP.out hw160)
          replace HG := Lib.hid (HG.out.below hw160)
          replace HA := Lib.hid (HA.out.below hw160)
          replace RC := Lib.hid (RowIs.below RC.out hw160)
          replace RL := Lib.hid (RowIs.below RL.out hw160)
          replace hB := bup hB hw160
          have hC161 := Cheapest_yes_c a n cap m l c sure f w159 HM.out hn hbo hbs
          try dsimp only [re2, re3, proofV, zeroP] at hC161
          have C161 := Lib.hid hC161
          clear hC161
          obtain ⟨tc0, tc1, _, _, tz⟩ := ratrow2 HT.out
          go_wp2_with fail
          clear hw160 tc0 tc1 tz
          refine C161.out.mono ?_
          rintro e w162 ⟨gq, hgq, hgz, rfl, HQ0, hw163⟩
          clear C161
          replace HM := Lib.hid (HM.out.below hw163)
          replace HT := Lib.hid (RowIs.below HT.out hw163)
          replace HP := Lib.hid (RowIs.below HP.out hw163)
          replace HG := Lib.hid (HG.out.below hw163)
          replace HA := Lib.hid (HA.out.below hw163)
          replace RC := Lib.hid (RowIs.below RC.out hw163)
          replace RL := Lib.hid (RowIs.below RL.out hw163)
          replace hB := bup hB hw163
          have HQ := Lib.hid HQ0
          clear HQ0 hgq hgz
          have hC164 := Proof_yes_c a n cap m l c sure w162 HM.out hn hbo hemp hCP.1
          try dsimp only [re2, re3, proofV, zeroP] at hC164
          have C164 := Lib.hid hC164
          clear hC164
          obtain ⟨tc0, tc1, _, _, tz⟩ := ratrow2 HT.out
          go_wp2_with fail
          clear hw163 tc0 tc1 tz
          refine C164.out.mono ?_
          rintro e w165 ⟨L, hLL, rfl, hw166⟩
          clear C164
          replace HM := Lib.hid (HM.out.below hw166)
          replace HT := Lib.hid (RowIs.below HT.out hw166)
          replace HP := Lib.hid (RowIs.below HP.out hw166)
          replace HG := Lib.hid (HG.out.below hw166)
          replace HA := Lib.hid (HA.out.below hw166)
          replace RC := Lib.hid (RowIs.below RC.out hw166)
          replace RL := Lib.hid (RowIs.below RL.out hw166)
          replace HQ := Lib.hid (HQ.out.below hw166)
          replace hB := bup hB hw166
          obtain ⟨q, hq⟩ : ∃ q, bestP (costLt l c) L = q := ⟨_, rfl⟩
          have HN0 := Lib.hid (show checkProofR n m l c sure q = (x1, x2, 0) by rw [← hq]; exact hCP.2 L hLL)
          rw [hq]
          clear hq hLL
          obtain ⟨Y167, hY167⟩ : ∃ Y167, w165.alloc (.cells #[.int .i64 q.d, .int .i64 q.b, .int .i64 q.l, .int .i64 q.c] 45) = Y167 := ⟨_, rfl⟩
          have hy168 : Below w165.heap.size w165 Y167 := by rw [← hY167]; exact Below.alloc1 (Below.refl _ _) _ (Nat.le_refl _)
          replace HM := Lib.hid (HM.out.below hy168)
          replace HT := Lib.hid (RowIs.below HT.out hy168)
          replace HP := Lib.hid (RowIs.below HP.out hy168)
          replace HG := Lib.hid (HG.out.below hy168)
          replace HA := Lib.hid (HA.out.below hy168)
          replace RC := Lib.hid (RowIs.below RC.out hy168)
          replace RL := Lib.hid (RowIs.below RL.out hy168)
          replace HQ := Lib.hid (HQ.out.below hy168)
          replace hB := bup hB hy168
          have RQ := Lib.hid (show RowIs Y167 w165.heap.size #[.int .i64 q.d, .int .i64 q.b, .int .i64 q.l, .int .i64 q.c] 45 by rw [← hY167]; exact heap_new_at _ _ _ rfl)
          obtain ⟨bRQ, hbRQ⟩ : ∃ bRQ, w165.heap.size = bRQ := ⟨_, rfl⟩
          rw [hbRQ] at RQ
          replace RQ := Lib.hid (show RowIs Y167 bRQ (prfRow q) 45 from RQ.out)
          have hC169 := Deserves_c a (some ⟨gq, 0, none⟩) n cap n n m f l c sure Y167 HM.out HQ.out hn hn
          rw [HDf.out] at hC169
          try dsimp only [re2, re3, proofV, zeroP] at hC169
          have C169 := Lib.hid hC169
          clear hC169
          obtain ⟨tc0, tc1, _, _, tz⟩ := ratrow2 HT.out
          go_wp2_with fail
          clear hw166 hbRQ hY167 hy168 tc0 tc1 tz
          refine C169.out.mono ?_
          rintro e w170 ⟨rfl, hw171⟩
          clear C169
          replace HM := Lib.hid (HM.out.below hw171)
          replace HT := Lib.hid (RowIs.below HT.out hw171)
          replace HP := Lib.hid (RowIs.below HP.out hw171)
          replace HG := Lib.hid (HG.out.below hw171)
          replace HA := Lib.hid (HA.out.below hw171)
          replace RC := Lib.hid (RowIs.below RC.out hw171)
          replace RL := Lib.hid (RowIs.below RL.out hw171)
          replace HQ := Lib.hid (HQ.out.below hw171)
          replace RQ := Lib.hid (RowIs.below RQ.out hw171)
          replace hB := bup hB hw171
          have hC172 := Cost_c a (some ⟨gq, 0, none⟩) n cap n n m f w170 HM.out HQ.out hn hn
          rw [HCf.out] at hC172
          try dsimp only [re2, re3, proofV, zeroP] at hC172
          have C172 := Lib.hid hC172
          clear hC172
          go_wp2_with fail
          clear hw171
          refine C172.out.mono ?_
          rintro e w173 ⟨rfl, hw174⟩
          clear C172
          replace HM := Lib.hid (HM.out.below hw174)
          replace HT := Lib.hid (RowIs.below HT.out hw174)
          replace HP := Lib.hid (RowIs.below HP.out hw174)
          replace HG := Lib.hid (HG.out.below hw174)
          replace HA := Lib.hid (HA.out.below hw174)
          replace RC := Lib.hid (RowIs.below RC.out hw174)
          replace RL := Lib.hid (RowIs.below RL.out hw174)
          replace HQ := Lib.hid (HQ.out.below hw174)
          replace RQ := Lib.hid (RowIs.below RQ.out hw174)
          replace hB := bup hB hw174
          obtain ⟨Y175, hY175⟩ : ∃ Y175, w173.alloc (.cells #[.int .i64 x1, .int .i64 x2] 29) = Y175 := ⟨_, rfl⟩
          have hy176 : Below w173.heap.size w173 Y175 := by rw [← hY175]; exact Below.alloc1 (Below.refl _ _) _ (Nat.le_refl _)
          replace HM := Lib.hid (HM.out.below hy176)
          replace HT := Lib.hid (RowIs.below HT.out hy176)
          replace HP := Lib.hid (RowIs.below HP.out hy176)
          replace HG := Lib.hid (HG.out.below hy176)
          replace HA := Lib.hid (HA.out.below hy176)
          replace RC := Lib.hid (RowIs.below RC.out hy176)
          replace RL := Lib.hid (RowIs.below RL.out hy176)
          replace HQ := Lib.hid (HQ.out.below hy176)
          replace RQ := Lib.hid (RowIs.below RQ.out hy176)
          replace hB := bup hB hy176
          have R1 := Lib.hid (show RowIs Y175 w173.heap.size #[.int .i64 x1, .int .i64 x2] 29 by rw [← hY175]; exact heap_new_at _ _ _ rfl)
          obtain ⟨bR1, hbR1⟩ : ∃ bR1, w173.heap.size = bR1 := ⟨_, rfl⟩
          rw [hbR1] at R1
          have hC177 := CheckProof_c a n cap m l c sure q Y175 HM.out hn
          rw [HN0.out] at hC177
          try dsimp only [re2, re3, proofV, zeroP] at hC177
          have C177 := Lib.hid hC177
          clear hC177
          obtain ⟨tc0, tc1, _, _, tz⟩ := ratrow2 HT.out
          obtain ⟨⟨qc0, qc1, qc2, qc3, qz⟩, _⟩ := qrow RQ.out
          go_wp2_with fail
          clear hw174 hbR1 hY175 hy176 tc0 tc1 tz qc0 qc1 qc2 qc3 qz
          refine C177.out.mono ?_
          rintro e w178 ⟨rfl, hw179⟩
          clear C177
          replace HM := Lib.hid (HM.out.below hw179)
          replace HT := Lib.hid (RowIs.below HT.out hw179)
          replace HP := Lib.hid (RowIs.below HP.out hw179)
          replace HG := Lib.hid (HG.out.below hw179)
          replace HA := Lib.hid (HA.out.below hw179)
          replace RC := Lib.hid (RowIs.below RC.out hw179)
          replace RL := Lib.hid (RowIs.below RL.out hw179)
          replace HQ := Lib.hid (HQ.out.below hw179)
          replace RQ := Lib.hid (RowIs.below RQ.out hw179)
          replace R1 := Lib.hid (RowIs.below R1.out hw179)
          replace hB := bup hB hw179
          obtain ⟨Y180, hY180⟩ : ∃ Y180, w178.alloc (.cells #[.int .i64 x1, .int .i64 x2] 29) = Y180 := ⟨_, rfl⟩
          have hy181 : Below w178.heap.size w178 Y180 := by rw [← hY180]; exact Below.alloc1 (Below.refl _ _) _ (Nat.le_refl _)
          replace HM := Lib.hid (HM.out.below hy181)
          replace HT := Lib.hid (RowIs.below HT.out hy181)
          replace HP := Lib.hid (RowIs.below HP.out hy181)
          replace HG := Lib.hid (HG.out.below hy181)
          replace HA := Lib.hid (HA.out.below hy181)
          replace RC := Lib.hid (RowIs.below RC.out hy181)
          replace RL := Lib.hid (RowIs.below RL.out hy181)
          replace HQ := Lib.hid (HQ.out.below hy181)
          replace RQ := Lib.hid (RowIs.below RQ.out hy181)
          replace R1 := Lib.hid (RowIs.below R1.out hy181)
          replace hB := bup hB hy181
          have R2 := Lib.hid (show RowIs Y180 w178.heap.size #[.int .i64 x1, .int .i64 x2] 29 by rw [← hY180]; exact heap_new_at _ _ _ rfl)
          obtain ⟨bR2, hbR2⟩ : ∃ bR2, w178.heap.size = bR2 := ⟨_, rfl⟩
          rw [hbR2] at R2
          have hC182 := rcheckProof_c a n cap m l c sure q Y180 HM.out hn
          rw [HN0.out] at hC182
          try dsimp only [re2, re3, proofV, zeroP] at hC182
          have C182 := Lib.hid hC182
          clear hC182
          obtain ⟨tc0, tc1, _, _, tz⟩ := ratrow2 HT.out
          obtain ⟨⟨qc0, qc1, qc2, qc3, qz⟩, _⟩ := qrow RQ.out
          go_wp2_with fail
          clear hw179 hbR2 hY180 hy181 tc0 tc1 tz qc0 qc1 qc2 qc3 qz
          refine C182.out.mono ?_
          rintro e w183 ⟨rfl, hw184⟩
          clear C182
          replace HM := Lib.hid (HM.out.below hw184)
          replace HT := Lib.hid (RowIs.below HT.out hw184)
          replace HP := Lib.hid (RowIs.below HP.out hw184)
          replace HG := Lib.hid (HG.out.below hw184)
          replace HA := Lib.hid (HA.out.below hw184)
          replace RC := Lib.hid (RowIs.below RC.out hw184)
          replace RL := Lib.hid (RowIs.below RL.out hw184)
          replace HQ := Lib.hid (HQ.out.below hw184)
          replace RQ := Lib.hid (RowIs.below RQ.out hw184)
          replace R1 := Lib.hid (RowIs.below R1.out hw184)
          replace R2 := Lib.hid (RowIs.below R2.out hw184)
          replace hB := bup hB hw184
          obtain ⟨Y185, hY185⟩ : ∃ Y185, w183.alloc (.cells #[.int .i64 x1, .int .i64 x2] 29) = Y185 := ⟨_, rfl⟩
          have hy186 : Below w183.heap.size w183 Y185 := by rw [← hY185]; exact Below.alloc1 (Below.refl _ _) _ (Nat.le_refl _)
          replace HM := Lib.hid (HM.out.below hy186)
          replace HT := Lib.hid (RowIs.below HT.out hy186)
          replace HP := Lib.hid (RowIs.below HP.out hy186)
          replace HG := Lib.hid (HG.out.below hy186)
          replace HA := Lib.hid (HA.out.below hy186)
          replace RC := Lib.hid (RowIs.below RC.out hy186)
          replace RL := Lib.hid (RowIs.below RL.out hy186)
          replace HQ := Lib.hid (HQ.out.below hy186)
          replace RQ := Lib.hid (RowIs.below RQ.out hy186)
          replace R1 := Lib.hid (RowIs.below R1.out hy186)
          replace R2 := Lib.hid (RowIs.below R2.out hy186)
          replace hB := bup hB hy186
          have R3 := Lib.hid (show RowIs Y185 w183.heap.size #[.int .i64 x1, .int .i64 x2] 29 by rw [← hY185]; exact heap_new_at _ _ _ rfl)
          obtain ⟨bR3, hbR3⟩ : ∃ bR3, w183.heap.size = bR3 := ⟨_, rfl⟩
          rw [hbR3] at R3
          have heq := fun (w : World) => eqRat x1 x2 w
          obtain ⟨v1870, v1871, _, _, v187z⟩ := ratrow2 RL.out
          obtain ⟨v1880, v1881, _, _, v188z⟩ := ratrow2 R1.out
          obtain ⟨v1890, v1891, _, _, v189z⟩ := ratrow2 R2.out
          obtain ⟨v1900, v1901, _, _, v190z⟩ := ratrow2 R3.out
          have hC191 := CheckProof_c a n cap m l c sure p Y185 HM.out hn
          rw [HK.out] at hC191
          try dsimp only [re2, re3, proofV, zeroP] at hC191
          have C191 := Lib.hid hC191
          clear hC191
          obtain ⟨tc0, tc1, _, _, tz⟩ := ratrow2 HT.out
          obtain ⟨⟨pc0, pc1, pc2, pc3, pz⟩, _⟩ := qrow HP.out
          go_wp2_with fail
          clear hw184 hbR3 hY185 hy186 v1870 v1871 v187z v1880 v1881 v188z v1890 v1891 v189z v1900 v1901 v190z tc0 tc1 tz pc0 pc1 pc2 pc3 pz
          refine C191.out.mono ?_
          rintro e w192 ⟨rfl, hw193⟩
          clear C191
          replace HM := Lib.hid (HM.out.below hw193)
          replace HT := Lib.hid (RowIs.below HT.out hw193)
          replace HP := Lib.hid (RowIs.below HP.out hw193)
          replace HG := Lib.hid (HG.out.below hw193)
          replace HA := Lib.hid (HA.out.below hw193)
          replace RC := Lib.hid (RowIs.below RC.out hw193)
          replace RL := Lib.hid (RowIs.below RL.out hw193)
          replace HQ := Lib.hid (HQ.out.below hw193)
          replace RQ := Lib.hid (RowIs.below RQ.out hw193)
          replace R1 := Lib.hid (RowIs.below R1.out hw193)
          replace R2 := Lib.hid (RowIs.below R2.out hw193)
          replace R3 := Lib.hid (RowIs.below R3.out hw193)
          replace hB := bup hB hw193
          obtain ⟨Y194, hY194⟩ : ∃ Y194, w192.alloc (.cells #[.int .i64 k1, .int .i64 k2] 29) = Y194 := ⟨_, rfl⟩
          have hy195 : Below w192.heap.size w192 Y194 := by rw [← hY194]; exact Below.alloc1 (Below.refl _ _) _ (Nat.le_refl _)
          replace HM := Lib.hid (HM.out.below hy195)
          replace HT := Lib.hid (RowIs.below HT.out hy195)
          replace HP := Lib.hid (RowIs.below HP.out hy195)
          replace HG := Lib.hid (HG.out.below hy195)
          replace HA := Lib.hid (HA.out.below hy195)
          replace RC := Lib.hid (RowIs.below RC.out hy195)
          replace RL := Lib.hid (RowIs.below RL.out hy195)
          replace HQ := Lib.hid (HQ.out.below hy195)
          replace RQ := Lib.hid (RowIs.below RQ.out hy195)
          replace R1 := Lib.hid (RowIs.below R1.out hy195)
          replace R2 := Lib.hid (RowIs.below R2.out hy195)
          replace R3 := Lib.hid (RowIs.below R3.out hy195)
          replace hB := bup hB hy195
          have RN := Lib.hid (show RowIs Y194 w192.heap.size #[.int .i64 k1, .int .i64 k2] 29 by rw [← hY194]; exact heap_new_at _ _ _ rfl)
          obtain ⟨bRN, hbRN⟩ : ∃ bRN, w192.heap.size = bRN := ⟨_, rfl⟩
          rw [hbRN] at RN
          have hC196 := rcheckProof_c a n cap m l c sure p Y194 HM.out hn
          rw [HK.out] at hC196
          try dsimp only [re2, re3, proofV, zeroP] at hC196
          have C196 := Lib.hid hC196
          clear hC196
          obtain ⟨tc0, tc1, _, _, tz⟩ := ratrow2 HT.out
          obtain ⟨⟨pc0, pc1, pc2, pc3, pz⟩, _⟩ := qrow HP.out
          go_wp2_with fail
          clear hw193 hbRN hY194 hy195 tc0 tc1 tz pc0 pc1 pc2 pc3 pz
          refine C196.out.mono ?_
          rintro e w197 ⟨rfl, hw198⟩
          clear C196
          replace HM := Lib.hid (HM.out.below hw198)
          replace HT := Lib.hid (RowIs.below HT.out hw198)
          replace HP := Lib.hid (RowIs.below HP.out hw198)
          replace HG := Lib.hid (HG.out.below hw198)
          replace HA := Lib.hid (HA.out.below hw198)
          replace RC := Lib.hid (RowIs.below RC.out hw198)
          replace RL := Lib.hid (RowIs.below RL.out hw198)
          replace HQ := Lib.hid (HQ.out.below hw198)
          replace RQ := Lib.hid (RowIs.below RQ.out hw198)
          replace R1 := Lib.hid (RowIs.below R1.out hw198)
          replace R2 := Lib.hid (RowIs.below R2.out hw198)
          replace R3 := Lib.hid (RowIs.below R3.out hw198)
          replace RN := Lib.hid (RowIs.below RN.out hw198)
          replace hB := bup hB hw198
          obtain ⟨Y199, hY199⟩ : ∃ Y199, w197.alloc (.cells #[.int .i64 k1, .int .i64 k2] 29) = Y199 := ⟨_, rfl⟩
          have hy200 : Below w197.heap.size w197 Y199 := by rw [← hY199]; exact Below.alloc1 (Below.refl _ _) _ (Nat.le_refl _)
          replace HM := Lib.hid (HM.out.below hy200)
          replace HT := Lib.hid (RowIs.below HT.out hy200)
          replace HP := Lib.hid (RowIs.below HP.out hy200)
          replace HG := Lib.hid (HG.out.below hy200)
          replace HA := Lib.hid (HA.out.below hy200)
          replace RC := Lib.hid (RowIs.below RC.out hy200)
          replace RL := Lib.hid (RowIs.below RL.out hy200)
          replace HQ := Lib.hid (HQ.out.below hy200)
          replace RQ := Lib.hid (RowIs.below RQ.out hy200)
          replace R1 := Lib.hid (RowIs.below R1.out hy200)
          replace R2 := Lib.hid (RowIs.below R2.out hy200)
          replace R3 := Lib.hid (RowIs.below R3.out hy200)
          replace RN := Lib.hid (RowIs.below RN.out hy200)
          replace hB := bup hB hy200
          have RM := Lib.hid (show RowIs Y199 w197.heap.size #[.int .i64 k1, .int .i64 k2] 29 by rw [← hY199]; exact heap_new_at _ _ _ rfl)
          obtain ⟨bRM, hbRM⟩ : ∃ bRM, w197.heap.size = bRM := ⟨_, rfl⟩
          rw [hbRM] at RM
          obtain ⟨v2010, v2011, _, _, v201z⟩ := ratrow2 RN.out
          obtain ⟨v2020, v2021, _, _, v202z⟩ := ratrow2 RL.out
          go_wp2_with fail
          refine (works_c _).mono ?_
          rintro e wz ⟨rfl, hbz⟩
          go_wp2
          go_ret
          exact ⟨rfl, bup hB hbz⟩
      · have h3' : (k3 != 0) = true := by simpa using h3
        obtain ⟨rfl, rfl⟩ : k1 = 0 ∧ k2 = 0 := proof_zero HK.out h3
        clear hsay
        obtain ⟨tc0, tc1, _, _, tz⟩ := ratrow2 HT.out
        obtain ⟨⟨pc0, pc1, pc2, pc3, pz⟩, _⟩ := qrow HP.out
        go_enter Tryz.func7, Tryz.ntmps7
        go_wp2_with fail
        refine HFi.out.mono ?_
        rintro e w1 ⟨rfl, hb1⟩
        clear tc0 tc1 tz pc0 pc1 pc2 pc3 pz hW hbt
        replace HM := Lib.hid (HM.out.below hb1)
        replace HT := Lib.hid (RowIs.below HT.out hb1)
        replace HP := Lib.hid (RowIs.below HP.out hb1)
        replace HG := Lib.hid (HG.out.below hb1)
        replace hB := bup hB hb1
        obtain ⟨tc0, tc1, _, _, tz⟩ := ratrow2 HT.out
        go_wp2_with fail
        clear hb1 tc0 tc1 tz
        refine (mixed_c b n len cap2 g w1 HG.out hn16 hl Hgb.out).mono ?_
        rintro e w203 ⟨gHA, cHA, gHAl, gHAz, rfl, hHA0, hw204⟩
        replace HM := Lib.hid (HM.out.below hw204)
        replace HT := Lib.hid (RowIs.below HT.out hw204)
        replace HP := Lib.hid (RowIs.below HP.out hw204)
        replace HG := Lib.hid (HG.out.below hw204)
        replace hB := bup hB hw204
        rw [hA] at hHA0
        have HA := Lib.hid hHA0
        clear hHA0 gHAl gHAz
        have hC205 := Cost_c a (some ⟨gHA, 0, none⟩) n cap n cHA m A w203 HM.out HA.out hn hn
        rw [HCA.out] at hC205
        try dsimp only [re2, re3, proofV, zeroP] at hC205
        have C205 := Lib.hid hC205
        clear hC205
        go_wp2_with fail
        clear hw204
        refine C205.out.mono ?_
        rintro e w206 ⟨rfl, hw207⟩
        clear C205
        replace HM := Lib.hid (HM.out.below hw207)
        replace HT := Lib.hid (RowIs.below HT.out hw207)
        replace HP := Lib.hid (RowIs.below HP.out hw207)
        replace HG := Lib.hid (HG.out.below hw207)
        replace HA := Lib.hid (HA.out.below hw207)
        replace hB := bup hB hw207
        obtain ⟨Y208, hY208⟩ : ∃ Y208, w206.alloc (.cells #[.int .i64 a1, .int .i64 a2] 29) = Y208 := ⟨_, rfl⟩
        have hy209 : Below w206.heap.size w206 Y208 := by rw [← hY208]; exact Below.alloc1 (Below.refl _ _) _ (Nat.le_refl _)
        replace HM := Lib.hid (HM.out.below hy209)
        replace HT := Lib.hid (RowIs.below HT.out hy209)
        replace HP := Lib.hid (RowIs.below HP.out hy209)
        replace HG := Lib.hid (HG.out.below hy209)
        replace HA := Lib.hid (HA.out.below hy209)
        replace hB := bup hB hy209
        have RC := Lib.hid (show RowIs Y208 w206.heap.size #[.int .i64 a1, .int .i64 a2] 29 by rw [← hY208]; exact heap_new_at _ _ _ rfl)
        obtain ⟨bRC, hbRC⟩ : ∃ bRC, w206.heap.size = bRC := ⟨_, rfl⟩
        rw [hbRC] at RC
        have hC210 := Deserves_c a (some ⟨gHA, 0, none⟩) n cap n cHA m A l c sure Y208 HM.out HA.out hn hn
        rw [hgA] at hC210
        try dsimp only [re2, re3, proofV, zeroP] at hC210
        have C210 := Lib.hid hC210
        clear hC210
        obtain ⟨tc0, tc1, _, _, tz⟩ := ratrow2 HT.out
        go_wp2_with fail
        clear hw207 hbRC hY208 hy209 tc0 tc1 tz
        refine C210.out.mono ?_
        rintro e w211 ⟨rfl, hw212⟩
        clear C210
        replace HM := Lib.hid (HM.out.below hw212)
        replace HT := Lib.hid (RowIs.below HT.out hw212)
        replace HP := Lib.hid (RowIs.below HP.out hw212)
        replace HG := Lib.hid (HG.out.below hw212)
        replace HA := Lib.hid (HA.out.below hw212)
        replace RC := Lib.hid (RowIs.below RC.out hw212)
        replace hB := bup hB hw212
        have hC213 := lawLeast_c a n cap m l c sure true (x1, x2) w211 HM.out hn12 hL2.1 hsx
        try dsimp only [re2, re3, proofV, zeroP] at hC213
        have C213 := Lib.hid hC213
        clear hC213
        obtain ⟨tc0, tc1, _, _, tz⟩ := ratrow2 HT.out
        go_wp2_with fail
        clear hw212 tc0 tc1 tz
        refine C213.out.mono ?_
        rintro e w214 ⟨rfl, hw215⟩
        clear C213
        replace HM := Lib.hid (HM.out.below hw215)
        replace HT := Lib.hid (RowIs.below HT.out hw215)
        replace HP := Lib.hid (RowIs.below HP.out hw215)
        replace HG := Lib.hid (HG.out.below hw215)
        replace HA := Lib.hid (HA.out.below hw215)
        replace RC := Lib.hid (RowIs.below RC.out hw215)
        replace hB := bup hB hw215
        simp only [leastV]
        obtain ⟨Y216, hY216⟩ : ∃ Y216, w214.alloc (.cells #[.int .i64 x1, .int .i64 x2] 29) = Y216 := ⟨_, rfl⟩
        have hy217 : Below w214.heap.size w214 Y216 := by rw [← hY216]; exact Below.alloc1 (Below.refl _ _) _ (Nat.le_refl _)
        replace HM := Lib.hid (HM.out.below hy217)
        replace HT := Lib.hid (RowIs.below HT.out hy217)
        replace HP := Lib.hid (RowIs.below HP.out hy217)
        replace HG := Lib.hid (HG.out.below hy217)
        replace HA := Lib.hid (HA.out.below hy217)
        replace RC := Lib.hid (RowIs.below RC.out hy217)
        replace hB := bup hB hy217
        have RL := Lib.hid (show RowIs Y216 w214.heap.size #[.int .i64 x1, .int .i64 x2] 29 by rw [← hY216]; exact heap_new_at _ _ _ rfl)
        obtain ⟨bRL, hbRL⟩ : ∃ bRL, w214.heap.size = bRL := ⟨_, rfl⟩
        rw [hbRL] at RL
        have hC218 := small_c a1 a2 Y216 HsA.out
        try dsimp only [re2, re3, proofV, zeroP] at hC218
        have C218 := Lib.hid hC218
        clear hC218
        obtain ⟨v2190, v2191, _, _, v219z⟩ := ratrow2 RC.out
        obtain ⟨v2200, v2201, _, _, v220z⟩ := ratrow2 RL.out
        go_wp2_with fail
        clear hw215 hbRL hY216 hy217 v2190 v2191 v219z v2200 v2201 v220z
        refine C218.out.mono ?_
        rintro e w221 ⟨rfl, hw222⟩
        clear C218
        replace HM := Lib.hid (HM.out.below hw222)
        replace HT := Lib.hid (RowIs.below HT.out hw222)
        replace HP := Lib.hid (RowIs.below HP.out hw222)
        replace HG := Lib.hid (HG.out.below hw222)
        replace HA := Lib.hid (HA.out.below hw222)
        replace RC := Lib.hid (RowIs.below RC.out hw222)
        replace RL := Lib.hid (RowIs.below RL.out hw222)
        replace hB := bup hB hw222
        have hC223 := less_small HsA.out hsx w221
        rw [hlt0] at hC223
        try dsimp only [re2, re3, proofV, zeroP] at hC223
        have C223 := Lib.hid hC223
        clear hC223
        obtain ⟨v2240, v2241, _, _, v224z⟩ := ratrow2 RC.out
        obtain ⟨v2250, v2251, _, _, v225z⟩ := ratrow2 RL.out
        go_wp2_with fail
        clear hw222 v2240 v2241 v224z v2250 v2251 v225z
        refine C223.out.mono ?_
        rintro e w226 ⟨rfl, hw227⟩
        clear C223
        replace HM := Lib.hid (HM.out.below hw227)
        replace HT := Lib.hid (RowIs.below HT.out hw227)
        replace HP := Lib.hid (RowIs.below HP.out hw227)
        replace HG := Lib.hid (HG.out.below hw227)
        replace HA := Lib.hid (HA.out.below hw227)
        replace RC := Lib.hid (RowIs.below RC.out hw227)
        replace RL := Lib.hid (RowIs.below RL.out hw227)
        replace hB := bup hB hw227
        have hC228 := Cheapest_yes_c a n cap m l c sure f w226 HM.out hn hbo hbs
        try dsimp only [re2, re3, proofV, zeroP] at hC228
        have C228 := Lib.hid hC228
        clear hC228
        obtain ⟨tc0, tc1, _, _, tz⟩ := ratrow2 HT.out
        go_wp2_with fail
        clear hw227 tc0 tc1 tz
        refine C228.out.mono ?_
        rintro e w229 ⟨gq, hgq, hgz, rfl, HQ0, hw230⟩
        clear C228
        replace HM := Lib.hid (HM.out.below hw230)
        replace HT := Lib.hid (RowIs.below HT.out hw230)
        replace HP := Lib.hid (RowIs.below HP.out hw230)
        replace HG := Lib.hid (HG.out.below hw230)
        replace HA := Lib.hid (HA.out.below hw230)
        replace RC := Lib.hid (RowIs.below RC.out hw230)
        replace RL := Lib.hid (RowIs.below RL.out hw230)
        replace hB := bup hB hw230
        have HQ := Lib.hid HQ0
        clear HQ0 hgq hgz
        have hC231 := Proof_yes_c a n cap m l c sure w229 HM.out hn hbo hemp hCP.1
        try dsimp only [re2, re3, proofV, zeroP] at hC231
        have C231 := Lib.hid hC231
        clear hC231
        obtain ⟨tc0, tc1, _, _, tz⟩ := ratrow2 HT.out
        go_wp2_with fail
        clear hw230 tc0 tc1 tz
        refine C231.out.mono ?_
        rintro e w232 ⟨L, hLL, rfl, hw233⟩
        clear C231
        replace HM := Lib.hid (HM.out.below hw233)
        replace HT := Lib.hid (RowIs.below HT.out hw233)
        replace HP := Lib.hid (RowIs.below HP.out hw233)
        replace HG := Lib.hid (HG.out.below hw233)
        replace HA := Lib.hid (HA.out.below hw233)
        replace RC := Lib.hid (RowIs.below RC.out hw233)
        replace RL := Lib.hid (RowIs.below RL.out hw233)
        replace HQ := Lib.hid (HQ.out.below hw233)
        replace hB := bup hB hw233
        obtain ⟨q, hq⟩ : ∃ q, bestP (costLt l c) L = q := ⟨_, rfl⟩
        have HN0 := Lib.hid (show checkProofR n m l c sure q = (x1, x2, 0) by rw [← hq]; exact hCP.2 L hLL)
        rw [hq]
        clear hq hLL
        obtain ⟨Y234, hY234⟩ : ∃ Y234, w232.alloc (.cells #[.int .i64 q.d, .int .i64 q.b, .int .i64 q.l, .int .i64 q.c] 45) = Y234 := ⟨_, rfl⟩
        have hy235 : Below w232.heap.size w232 Y234 := by rw [← hY234]; exact Below.alloc1 (Below.refl _ _) _ (Nat.le_refl _)
        replace HM := Lib.hid (HM.out.below hy235)
        replace HT := Lib.hid (RowIs.below HT.out hy235)
        replace HP := Lib.hid (RowIs.below HP.out hy235)
        replace HG := Lib.hid (HG.out.below hy235)
        replace HA := Lib.hid (HA.out.below hy235)
        replace RC := Lib.hid (RowIs.below RC.out hy235)
        replace RL := Lib.hid (RowIs.below RL.out hy235)
        replace HQ := Lib.hid (HQ.out.below hy235)
        replace hB := bup hB hy235
        have RQ := Lib.hid (show RowIs Y234 w232.heap.size #[.int .i64 q.d, .int .i64 q.b, .int .i64 q.l, .int .i64 q.c] 45 by rw [← hY234]; exact heap_new_at _ _ _ rfl)
        obtain ⟨bRQ, hbRQ⟩ : ∃ bRQ, w232.heap.size = bRQ := ⟨_, rfl⟩
        rw [hbRQ] at RQ
        replace RQ := Lib.hid (show RowIs Y234 bRQ (prfRow q) 45 from RQ.out)
        have hC236 := Deserves_c a (some ⟨gq, 0, none⟩) n cap n n m f l c sure Y234 HM.out HQ.out hn hn
        rw [HDf.out] at hC236
        try dsimp only [re2, re3, proofV, zeroP] at hC236
        have C236 := Lib.hid hC236
        clear hC236
        obtain ⟨tc0, tc1, _, _, tz⟩ := ratrow2 HT.out
        go_wp2_with fail
        clear hw233 hbRQ hY234 hy235 tc0 tc1 tz
        refine C236.out.mono ?_
        rintro e w237 ⟨rfl, hw238⟩
        clear C236
        replace HM := Lib.hid (HM.out.below hw238)
        replace HT := Lib.hid (RowIs.below HT.out hw238)
        replace HP := Lib.hid (RowIs.below HP.out hw238)
        replace HG := Lib.hid (HG.out.below hw238)
        replace HA := Lib.hid (HA.out.below hw238)
        replace RC := Lib.hid (RowIs.below RC.out hw238)
        replace RL := Lib.hid (RowIs.below RL.out hw238)
        replace HQ := Lib.hid (HQ.out.below hw238)
        replace RQ := Lib.hid (RowIs.below RQ.out hw238)
        replace hB := bup hB hw238
        have hC239 := Cost_c a (some ⟨gq, 0, none⟩) n cap n n m f w237 HM.out HQ.out hn hn
        rw [HCf.out] at hC239
        try dsimp only [re2, re3, proofV, zeroP] at hC239
        have C239 := Lib.hid hC239
        clear hC239
        go_wp2_with fail
        clear hw238
        refine C239.out.mono ?_
        rintro e w240 ⟨rfl, hw241⟩
        clear C239
        replace HM := Lib.hid (HM.out.below hw241)
        replace HT := Lib.hid (RowIs.below HT.out hw241)
        replace HP := Lib.hid (RowIs.below HP.out hw241)
        replace HG := Lib.hid (HG.out.below hw241)
        replace HA := Lib.hid (HA.out.below hw241)
        replace RC := Lib.hid (RowIs.below RC.out hw241)
        replace RL := Lib.hid (RowIs.below RL.out hw241)
        replace HQ := Lib.hid (HQ.out.below hw241)
        replace RQ := Lib.hid (RowIs.below RQ.out hw241)
        replace hB := bup hB hw241
        obtain ⟨Y242, hY242⟩ : ∃ Y242, w240.alloc (.cells #[.int .i64 x1, .int .i64 x2] 29) = Y242 := ⟨_, rfl⟩
        have hy243 : Below w240.heap.size w240 Y242 := by rw [← hY242]; exact Below.alloc1 (Below.refl _ _) _ (Nat.le_refl _)
        replace HM := Lib.hid (HM.out.below hy243)
        replace HT := Lib.hid (RowIs.below HT.out hy243)
        replace HP := Lib.hid (RowIs.below HP.out hy243)
        replace HG := Lib.hid (HG.out.below hy243)
        replace HA := Lib.hid (HA.out.below hy243)
        replace RC := Lib.hid (RowIs.below RC.out hy243)
        replace RL := Lib.hid (RowIs.below RL.out hy243)
        replace HQ := Lib.hid (HQ.out.below hy243)
        replace RQ := Lib.hid (RowIs.below RQ.out hy243)
        replace hB := bup hB hy243
        have R1 := Lib.hid (show RowIs Y242 w240.heap.size #[.int .i64 x1, .int .i64 x2] 29 by rw [← hY242]; exact heap_new_at _ _ _ rfl)
        obtain ⟨bR1, hbR1⟩ : ∃ bR1, w240.heap.size = bR1 := ⟨_, rfl⟩
        rw [hbR1] at R1
        have hC244 := CheckProof_c a n cap m l c sure q Y242 HM.out hn
        rw [HN0.out] at hC244
        try dsimp only [re2, re3, proofV, zeroP] at hC244
        have C244 := Lib.hid hC244
        clear hC244
        obtain ⟨tc0, tc1, _, _, tz⟩ := ratrow2 HT.out
        obtain ⟨⟨qc0, qc1, qc2, qc3, qz⟩, _⟩ := qrow RQ.out
        go_wp2_with fail
        clear hw241 hbR1 hY242 hy243 tc0 tc1 tz qc0 qc1 qc2 qc3 qz
        refine C244.out.mono ?_
        rintro e w245 ⟨rfl, hw246⟩
        clear C244
        replace HM := Lib.hid (HM.out.below hw246)
        replace HT := Lib.hid (RowIs.below HT.out hw246)
        replace HP := Lib.hid (RowIs.below HP.out hw246)
        replace HG := Lib.hid (HG.out.below hw246)
        replace HA := Lib.hid (HA.out.below hw246)
        replace RC := Lib.hid (RowIs.below RC.out hw246)
        replace RL := Lib.hid (RowIs.below RL.out hw246)
        replace HQ := Lib.hid (HQ.out.below hw246)
        replace RQ := Lib.hid (RowIs.below RQ.out hw246)
        replace R1 := Lib.hid (RowIs.below R1.out hw246)
        replace hB := bup hB hw246
        obtain ⟨Y247, hY247⟩ : ∃ Y247, w245.alloc (.cells #[.int .i64 x1, .int .i64 x2] 29) = Y247 := ⟨_, rfl⟩
        have hy248 : Below w245.heap.size w245 Y247 := by rw [← hY247]; exact Below.alloc1 (Below.refl _ _) _ (Nat.le_refl _)
        replace HM := Lib.hid (HM.out.below hy248)
        replace HT := Lib.hid (RowIs.below HT.out hy248)
        replace HP := Lib.hid (RowIs.below HP.out hy248)
        replace HG := Lib.hid (HG.out.below hy248)
        replace HA := Lib.hid (HA.out.below hy248)
        replace RC := Lib.hid (RowIs.below RC.out hy248)
        replace RL := Lib.hid (RowIs.below RL.out hy248)
        replace HQ := Lib.hid (HQ.out.below hy248)
        replace RQ := Lib.hid (RowIs.below RQ.out hy248)
        replace R1 := Lib.hid (RowIs.below R1.out hy248)
        replace hB := bup hB hy248
        have R2 := Lib.hid (show RowIs Y247 w245.heap.size #[.int .i64 x1, .int .i64 x2] 29 by rw [← hY247]; exact heap_new_at _ _ _ rfl)
        obtain ⟨bR2, hbR2⟩ : ∃ bR2, w245.heap.size = bR2 := ⟨_, rfl⟩
        rw [hbR2] at R2
        have hC249 := rcheckProof_c a n cap m l c sure q Y247 HM.out hn
        rw [HN0.out] at hC249
        try dsimp only [re2, re3, proofV, zeroP] at hC249
        have C249 := Lib.hid hC249
        clear hC249
        obtain ⟨tc0, tc1, _, _, tz⟩ := ratrow2 HT.out
        obtain ⟨⟨qc0, qc1, qc2, qc3, qz⟩, _⟩ := qrow RQ.out
        go_wp2_with fail
        clear hw246 hbR2 hY247 hy248 tc0 tc1 tz qc0 qc1 qc2 qc3 qz
        refine C249.out.mono ?_
        rintro e w250 ⟨rfl, hw251⟩
        clear C249
        replace HM := Lib.hid (HM.out.below hw251)
        replace HT := Lib.hid (RowIs.below HT.out hw251)
        replace HP := Lib.hid (RowIs.below HP.out hw251)
        replace HG := Lib.hid (HG.out.below hw251)
        replace HA := Lib.hid (HA.out.below hw251)
        replace RC := Lib.hid (RowIs.below RC.out hw251)
        replace RL := Lib.hid (RowIs.below RL.out hw251)
        replace HQ := Lib.hid (HQ.out.below hw251)
        replace RQ := Lib.hid (RowIs.below RQ.out hw251)
        replace R1 := Lib.hid (RowIs.below R1.out hw251)
        replace R2 := Lib.hid (RowIs.below R2.out hw251)
        replace hB := bup hB hw251
        obtain ⟨Y252, hY252⟩ : ∃ Y252, w250.alloc (.cells #[.int .i64 x1, .int .i64 x2] 29) = Y252 := ⟨_, rfl⟩
        have hy253 : Below w250.heap.size w250 Y252 := by rw [← hY252]; exact Below.alloc1 (Below.refl _ _) _ (Nat.le_refl _)
        replace HM := Lib.hid (HM.out.below hy253)
        replace HT := Lib.hid (RowIs.below HT.out hy253)
        replace HP := Lib.hid (RowIs.below HP.out hy253)
        replace HG := Lib.hid (HG.out.below hy253)
        replace HA := Lib.hid (HA.out.below hy253)
        replace RC := Lib.hid (RowIs.below RC.out hy253)
        replace RL := Lib.hid (RowIs.below RL.out hy253)
        replace HQ := Lib.hid (HQ.out.below hy253)
        replace RQ := Lib.hid (RowIs.below RQ.out hy253)
        replace R1 := Lib.hid (RowIs.below R1.out hy253)
        replace R2 := Lib.hid (RowIs.below R2.out hy253)
        replace hB := bup hB hy253
        have R3 := Lib.hid (show RowIs Y252 w250.heap.size #[.int .i64 x1, .int .i64 x2] 29 by rw [← hY252]; exact heap_new_at _ _ _ rfl)
        obtain ⟨bR3, hbR3⟩ : ∃ bR3, w250.heap.size = bR3 := ⟨_, rfl⟩
        rw [hbR3] at R3
        have heq := fun (w : World) => eqRat x1 x2 w
        obtain ⟨v2540, v2541, _, _, v254z⟩ := ratrow2 RL.out
        obtain ⟨v2550, v2551, _, _, v255z⟩ := ratrow2 R1.out
        obtain ⟨v2560, v2561, _, _, v256z⟩ := ratrow2 R2.out
        obtain ⟨v2570, v2571, _, _, v257z⟩ := ratrow2 R3.out
        have hC258 := CheckProof_c a n cap m l c sure p Y252 HM.out hn
        rw [HK.out] at hC258
        try dsimp only [re2, re3, proofV, zeroP] at hC258
        have C258 := Lib.hid hC258
        clear hC258
        obtain ⟨tc0, tc1, _, _, tz⟩ := ratrow2 HT.out
        obtain ⟨⟨pc0, pc1, pc2, pc3, pz⟩, _⟩ := qrow HP.out
        go_wp2_with fail
        clear hw251 hbR3 hY252 hy253 v2540 v2541 v254z v2550 v2551 v255z v2560 v2561 v256z v2570 v2571 v257z tc0 tc1 tz pc0 pc1 pc2 pc3 pz
        refine C258.out.mono ?_
        rintro e w259 ⟨rfl, hw260⟩
        clear C258
        replace HM := Lib.hid (HM.out.below hw260)
        replace HT := Lib.hid (RowIs.below HT.out hw260)
        replace HP := Lib.hid (RowIs.below HP.out hw260)
        replace HG := Lib.hid (HG.out.below hw260)
        replace HA := Lib.hid (HA.out.below hw260)
        replace RC := Lib.hid (RowIs.below RC.out hw260)
        replace RL := Lib.hid (RowIs.below RL.out hw260)
        replace HQ := Lib.hid (HQ.out.below hw260)
        replace RQ := Lib.hid (RowIs.below RQ.out hw260)
        replace R1 := Lib.hid (RowIs.below R1.out hw260)
        replace R2 := Lib.hid (RowIs.below R2.out hw260)
        replace R3 := Lib.hid (RowIs.below R3.out hw260)
        replace hB := bup hB hw260
        obtain ⟨Y261, hY261⟩ : ∃ Y261, w259.alloc (.cells #[.int .i64 0, .int .i64 0] 29) = Y261 := ⟨_, rfl⟩
        have hy262 : Below w259.heap.size w259 Y261 := by rw [← hY261]; exact Below.alloc1 (Below.refl _ _) _ (Nat.le_refl _)
        have zY261 : RowIs Y261 w259.heap.size #[.int .i64 0, .int .i64 0] 29 := by rw [← hY261]; exact heap_new_at _ _ _ rfl
        obtain ⟨yY2610, yY2611, yY2612, yY2613, yY2614⟩ := ratrow2 zY261
        obtain ⟨Z263, hZ263⟩ : ∃ Z263, ((Y261.setCell ⟨w259.heap.size, 0, none⟩ (.int .i64 0)).setCell ⟨w259.heap.size, 1, none⟩ (.int .i64 0)) = Z263 := ⟨_, rfl⟩
        have hz264 : Below w259.heap.size w259 Z263 := hy262.trans (by rw [← hZ263]; exact (((Below.refl _ Y261).setCell (p := ⟨w259.heap.size, 0, none⟩) (Nat.le_refl _) _).setCell (p := ⟨w259.heap.size, 1, none⟩) (Nat.le_refl _) _))
        replace HM := Lib.hid (HM.out.below hz264)
        replace HT := Lib.hid (RowIs.below HT.out hz264)
        replace HP := Lib.hid (RowIs.below HP.out hz264)
        replace HG := Lib.hid (HG.out.below hz264)
        replace HA := Lib.hid (HA.out.below hz264)
        replace RC := Lib.hid (RowIs.below RC.out hz264)
        replace RL := Lib.hid (RowIs.below RL.out hz264)
        replace HQ := Lib.hid (HQ.out.below hz264)
        replace RQ := Lib.hid (RowIs.below RQ.out hz264)
        replace R1 := Lib.hid (RowIs.below R1.out hz264)
        replace R2 := Lib.hid (RowIs.below R2.out hz264)
        replace R3 := Lib.hid (RowIs.below R3.out hz264)
        replace hB := bup hB hz264
        have RN := Lib.hid (show RowIs Z263 w259.heap.size #[.int .i64 0, .int .i64 0] 29 by rw [← hZ263]; exact put2_row zY261 0 0)
        have hC265 := rcheckProof_c a n cap m l c sure p Z263 HM.out hn
        rw [HK.out] at hC265
        try dsimp only [re2, re3, proofV, zeroP] at hC265
        have C265 := Lib.hid hC265
        clear hC265
        obtain ⟨tc0, tc1, _, _, tz⟩ := ratrow2 HT.out
        obtain ⟨⟨pc0, pc1, pc2, pc3, pz⟩, _⟩ := qrow HP.out
        go_wp2_with fail
        clear hw260 hY261 hy262 zY261 yY2610 yY2611 yY2612 yY2613 yY2614 hZ263 hz264 tc0 tc1 tz pc0 pc1 pc2 pc3 pz
        refine C265.out.mono ?_
        rintro e w266 ⟨rfl, hw267⟩
        clear C265
        replace HM := Lib.hid (HM.out.below hw267)
        replace HT := Lib.hid (RowIs.below HT.out hw267)
        replace HP := Lib.hid (RowIs.below HP.out hw267)
        replace HG := Lib.hid (HG.out.below hw267)
        replace HA := Lib.hid (HA.out.below hw267)
        replace RC := Lib.hid (RowIs.below RC.out hw267)
        replace RL := Lib.hid (RowIs.below RL.out hw267)
        replace HQ := Lib.hid (HQ.out.below hw267)
        replace RQ := Lib.hid (RowIs.below RQ.out hw267)
        replace R1 := Lib.hid (RowIs.below R1.out hw267)
        replace R2 := Lib.hid (RowIs.below R2.out hw267)
        replace R3 := Lib.hid (RowIs.below R3.out hw267)
        replace RN := Lib.hid (RowIs.below RN.out hw267)
        replace hB := bup hB hw267
        obtain ⟨Y268, hY268⟩ : ∃ Y268, w266.alloc (.cells #[.int .i64 0, .int .i64 0] 29) = Y268 := ⟨_, rfl⟩
        have hy269 : Below w266.heap.size w266 Y268 := by rw [← hY268]; exact Below.alloc1 (Below.refl _ _) _ (Nat.le_refl _)
        have zY268 : RowIs Y268 w266.heap.size #[.int .i64 0, .int .i64 0] 29 := by rw [← hY268]; exact heap_new_at _ _ _ rfl
        obtain ⟨yY2680, yY2681, yY2682, yY2683, yY2684⟩ := ratrow2 zY268
        obtain ⟨Z270, hZ270⟩ : ∃ Z270, ((Y268.setCell ⟨w266.heap.size, 0, none⟩ (.int .i64 0)).setCell ⟨w266.heap.size, 1, none⟩ (.int .i64 0)) = Z270 := ⟨_, rfl⟩
        have hz271 : Below w266.heap.size w266 Z270 := hy269.trans (by rw [← hZ270]; exact (((Below.refl _ Y268).setCell (p := ⟨w266.heap.size, 0, none⟩) (Nat.le_refl _) _).setCell (p := ⟨w266.heap.size, 1, none⟩) (Nat.le_refl _) _))
        replace HM := Lib.hid (HM.out.below hz271)
        replace HT := Lib.hid (RowIs.below HT.out hz271)
        replace HP := Lib.hid (RowIs.below HP.out hz271)
        replace HG := Lib.hid (HG.out.below hz271)
        replace HA := Lib.hid (HA.out.below hz271)
        replace RC := Lib.hid (RowIs.below RC.out hz271)
        replace RL := Lib.hid (RowIs.below RL.out hz271)
        replace HQ := Lib.hid (HQ.out.below hz271)
        replace RQ := Lib.hid (RowIs.below RQ.out hz271)
        replace R1 := Lib.hid (RowIs.below R1.out hz271)
        replace R2 := Lib.hid (RowIs.below R2.out hz271)
        replace R3 := Lib.hid (RowIs.below R3.out hz271)
        replace RN := Lib.hid (RowIs.below RN.out hz271)
        replace hB := bup hB hz271
        have RM := Lib.hid (show RowIs Z270 w266.heap.size #[.int .i64 0, .int .i64 0] 29 by rw [← hZ270]; exact put2_row zY268 0 0)
        go_wp2_with fail
        refine (works_c _).mono ?_
        rintro e wz ⟨rfl, hbz⟩
        go_wp2
        go_ret
        exact ⟨rfl, bup hB hbz⟩
    case false =>
      have hgA : deservesE n m l c sure n A = 17 := by rw [HDA.out, hgd]; rfl
      clear hlt0
      by_cases h3 : k3 = 0
      · obtain ⟨s1, s2, s3⟩ := hsay h3
        subst h3
        clear hsay
        obtain ⟨sx1, sx2, sx3, sx4⟩ := small_bd hsx
        have hq := quo_le s1.1 s2.2
        have hqa := tdiv_abs k1 k2 200000000000000 (by omega)
        have wq1 : IntKind.i64.wrap (k1.tdiv k2) = k1.tdiv k2 := IntWalk.i64_in _ (by omega)
        have wq2 : wrap64 (k1.tdiv k2) = k1.tdiv k2 := IntWalk.wrap64_in _ ⟨by omega, by omega⟩
        have dq1 : decide (k2 < 1) = false := by simp; omega
        have dq2 : decide (1073741824 < k2) = false := by simp; omega
        have dq3 : decide (1000 < k1.tdiv k2) = false := by simp; omega
        have hk20 : k2 ≠ 0 := by omega
        by_cases hk1 : k1 < 0
        · have hk1d : decide (k1 < 0) = true := by simpa using hk1
          clear s3
          obtain ⟨tc0, tc1, _, _, tz⟩ := ratrow2 HT.out
          obtain ⟨⟨pc0, pc1, pc2, pc3, pz⟩, _⟩ := qrow HP.out
          go_enter Tryz.func7, Tryz.ntmps7
          go_wp2_with fail
          refine HFi.out.mono ?_
          rintro e w1 ⟨rfl, hb1⟩
          clear tc0 tc1 tz pc0 pc1 pc2 pc3 pz hW hbt
          replace HM := Lib.hid (HM.out.below hb1)
          replace HT := Lib.hid (RowIs.below HT.out hb1)
          replace HP := Lib.hid (RowIs.below HP.out hb1)
          replace HG := Lib.hid (HG.out.below hb1)
          replace hB := bup hB hb1
          obtain ⟨tc0, tc1, _, _, tz⟩ := ratrow2 HT.out
          go_wp2_with fail
          clear hb1 tc0 tc1 tz
          refine (mixed_c b n len cap2 g w1 HG.out hn16 hl Hgb.out).mono ?_
          rintro e w272 ⟨gHA, cHA, gHAl, gHAz, rfl, hHA0, hw273⟩
          replace HM := Lib.hid (HM.out.below hw273)
          replace HT := Lib.hid (RowIs.below HT.out hw273)
          replace HP := Lib.hid (RowIs.below HP.out hw273)
          replace HG := Lib.hid (HG.out.below hw273)
          replace hB := bup hB hw273
          rw [hA] at hHA0
          have HA := Lib.hid hHA0
          clear hHA0 gHAl gHAz
          have hC274 := Cost_c a (some ⟨gHA, 0, none⟩) n cap n cHA m A w272 HM.out HA.out hn hn
          rw [HCA.out] at hC274
          try dsimp only [re2, re3, proofV, zeroP] at hC274
          have C274 := Lib.hid hC274
          clear hC274
          go_wp2_with fail
          clear hw273
          refine C274.out.mono ?_
          rintro e w275 ⟨rfl, hw276⟩
          clear C274
          replace HM := Lib.hid (HM.out.below hw276)
          replace HT := Lib.hid (RowIs.below HT.out hw276)
          replace HP := Lib.hid (RowIs.below HP.out hw276)
          replace HG := Lib.hid (HG.out.below hw276)
          replace HA := Lib.hid (HA.out.below hw276)
          replace hB := bup hB hw276
          obtain ⟨Y277, hY277⟩ : ∃ Y277, w275.alloc (.cells #[.int .i64 a1, .int .i64 a2] 29) = Y277 := ⟨_, rfl⟩
          have hy278 : Below w275.heap.size w275 Y277 := by rw [← hY277]; exact Below.alloc1 (Below.refl _ _) _ (Nat.le_refl _)
          replace HM := Lib.hid (HM.out.below hy278)
          replace HT := Lib.hid (RowIs.below HT.out hy278)
          replace HP := Lib.hid (RowIs.below HP.out hy278)
          replace HG := Lib.hid (HG.out.below hy278)
          replace HA := Lib.hid (HA.out.below hy278)
          replace hB := bup hB hy278
          have RC := Lib.hid (show RowIs Y277 w275.heap.size #[.int .i64 a1, .int .i64 a2] 29 by rw [← hY277]; exact heap_new_at _ _ _ rfl)
          obtain ⟨bRC, hbRC⟩ : ∃ bRC, w275.heap.size = bRC := ⟨_, rfl⟩
          rw [hbRC] at RC
          have hC279 := Deserves_c a (some ⟨gHA, 0, none⟩) n cap n cHA m A l c sure Y277 HM.out HA.out hn hn
          rw [hgA] at hC279
          try dsimp only [re2, re3, proofV, zeroP] at hC279
          have C279 := Lib.hid hC279
          clear hC279
          obtain ⟨tc0, tc1, _, _, tz⟩ := ratrow2 HT.out
          go_wp2_with fail
          clear hw276 hbRC hY277 hy278 tc0 tc1 tz
          refine C279.out.mono ?_
          rintro e w280 ⟨rfl, hw281⟩
          clear C279
          replace HM := Lib.hid (HM.out.below hw281)
          replace HT := Lib.hid (RowIs.below HT.out hw281)
          replace HP := Lib.hid (RowIs.below HP.out hw281)
          replace HG := Lib.hid (HG.out.below hw281)
          replace HA := Lib.hid (HA.out.below hw281)
          replace RC := Lib.hid (RowIs.below RC.out hw281)
          replace hB := bup hB hw281
          have hC282 := lawLeast_c a n cap m l c sure true (x1, x2) w280 HM.out hn12 hL2.1 hsx
          try dsimp only [re2, re3, proofV, zeroP] at hC282
          have C282 := Lib.hid hC282
          clear hC282
          obtain ⟨tc0, tc1, _, _, tz⟩ := ratrow2 HT.out
          go_wp2_with fail
          clear hw281 tc0 tc1 tz
          refine C282.out.mono ?_
          rintro e w283 ⟨rfl, hw284⟩
          clear C282
          replace HM := Lib.hid (HM.out.below hw284)
          replace HT := Lib.hid (RowIs.below HT.out hw284)
          replace HP := Lib.hid (RowIs.below HP.out hw284)
          replace HG := Lib.hid (HG.out.below hw284)
          replace HA := Lib.hid (HA.out.below hw284)
          replace RC := Lib.hid (RowIs.below RC.out hw284)
          replace hB := bup hB hw284
          simp only [leastV]
          obtain ⟨Y285, hY285⟩ : ∃ Y285, w283.alloc (.cells #[.int .i64 x1, .int .i64 x2] 29) = Y285 := ⟨_, rfl⟩
          have hy286 : Below w283.heap.size w283 Y285 := by rw [← hY285]; exact Below.alloc1 (Below.refl _ _) _ (Nat.le_refl _)
          replace HM := Lib.hid (HM.out.below hy286)
          replace HT := Lib.hid (RowIs.below HT.out hy286)
          replace HP := Lib.hid (RowIs.below HP.out hy286)
          replace HG := Lib.hid (HG.out.below hy286)
          replace HA := Lib.hid (HA.out.below hy286)
          replace RC := Lib.hid (RowIs.below RC.out hy286)
          replace hB := bup hB hy286
          have RL := Lib.hid (show RowIs Y285 w283.heap.size #[.int .i64 x1, .int .i64 x2] 29 by rw [← hY285]; exact heap_new_at _ _ _ rfl)
          obtain ⟨bRL, hbRL⟩ : ∃ bRL, w283.heap.size = bRL := ⟨_, rfl⟩
          rw [hbRL] at RL
          have hC287 := small_c a1 a2 Y285 HsA.out
          try dsimp only [re2, re3, proofV, zeroP] at hC287
          have C287 := Lib.hid hC287
          clear hC287
          obtain ⟨v2880, v2881, _, _, v288z⟩ := ratrow2 RC.out
          obtain ⟨v2890, v2891, _, _, v289z⟩ := ratrow2 RL.out
          go_wp2_with fail
          clear hw284 hbRL hY285 hy286 v2880 v2881 v288z v2890 v2891 v289z
          refine C287.out.mono ?_
          rintro e w290 ⟨rfl, hw291⟩
          clear C287
          replace HM := Lib.hid (HM.out.below hw291)
          replace HT := Lib.hid (RowIs.below HT.out hw291)
          replace HP := Lib.hid (RowIs.below HP.out hw291)
          replace HG := Lib.hid (HG.out.below hw291)
          replace HA := Lib.hid (HA.out.below hw291)
          replace RC := Lib.hid (RowIs.below RC.out hw291)
          replace RL := Lib.hid (RowIs.below RL.out hw291)
          replace hB := bup hB hw291
          have hC292 := Cheapest_yes_c a n cap m l c sure f w290 HM.out hn hbo hbs
          try dsimp only [re2, re3, proofV, zeroP] at hC292
          have C292 := Lib.hid hC292
          clear hC292
          obtain ⟨tc0, tc1, _, _, tz⟩ := ratrow2 HT.out
          go_wp2_with fail
          clear hw291 tc0 tc1 tz
          refine C292.out.mono ?_
          rintro e w293 ⟨gq, hgq, hgz, rfl, HQ0, hw294⟩
          clear C292
          replace HM := Lib.hid (HM.out.below hw294)
          replace HT := Lib.hid (RowIs.below HT.out hw294)
          replace HP := Lib.hid (RowIs.below HP.out hw294)
          replace HG := Lib.hid (HG.out.below hw294)
          replace HA := Lib.hid (HA.out.below hw294)
          replace RC := Lib.hid (RowIs.below RC.out hw294)
          replace RL := Lib.hid (RowIs.below RL.out hw294)
          replace hB := bup hB hw294
          have HQ := Lib.hid HQ0
          clear HQ0 hgq hgz
          have hC295 := Proof_yes_c a n cap m l c sure w293 HM.out hn hbo hemp hCP.1
          try dsimp only [re2, re3, proofV, zeroP] at hC295
          have C295 := Lib.hid hC295
          clear hC295
          obtain ⟨tc0, tc1, _, _, tz⟩ := ratrow2 HT.out
          go_wp2_with fail
          clear hw294 tc0 tc1 tz
          refine C295.out.mono ?_
          rintro e w296 ⟨L, hLL, rfl, hw297⟩
          clear C295
          replace HM := Lib.hid (HM.out.below hw297)
          replace HT := Lib.hid (RowIs.below HT.out hw297)
          replace HP := Lib.hid (RowIs.below HP.out hw297)
          replace HG := Lib.hid (HG.out.below hw297)
          replace HA := Lib.hid (HA.out.below hw297)
          replace RC := Lib.hid (RowIs.below RC.out hw297)
          replace RL := Lib.hid (RowIs.below RL.out hw297)
          replace HQ := Lib.hid (HQ.out.below hw297)
          replace hB := bup hB hw297
          obtain ⟨q, hq⟩ : ∃ q, bestP (costLt l c) L = q := ⟨_, rfl⟩
          have HN0 := Lib.hid (show checkProofR n m l c sure q = (x1, x2, 0) by rw [← hq]; exact hCP.2 L hLL)
          rw [hq]
          clear hq hLL
          obtain ⟨Y298, hY298⟩ : ∃ Y298, w296.alloc (.cells #[.int .i64 q.d, .int .i64 q.b, .int .i64 q.l, .int .i64 q.c] 45) = Y298 := ⟨_, rfl⟩
          have hy299 : Below w296.heap.size w296 Y298 := by rw [← hY298]; exact Below.alloc1 (Below.refl _ _) _ (Nat.le_refl _)
          replace HM := Lib.hid (HM.out.below hy299)
          replace HT := Lib.hid (RowIs.below HT.out hy299)
          replace HP := Lib.hid (RowIs.below HP.out hy299)
          replace HG := Lib.hid (HG.out.below hy299)
          replace HA := Lib.hid (HA.out.below hy299)
          replace RC := Lib.hid (RowIs.below RC.out hy299)
          replace RL := Lib.hid (RowIs.below RL.out hy299)
          replace HQ := Lib.hid (HQ.out.below hy299)
          replace hB := bup hB hy299
          have RQ := Lib.hid (show RowIs Y298 w296.heap.size #[.int .i64 q.d, .int .i64 q.b, .int .i64 q.l, .int .i64 q.c] 45 by rw [← hY298]; exact heap_new_at _ _ _ rfl)
          obtain ⟨bRQ, hbRQ⟩ : ∃ bRQ, w296.heap.size = bRQ := ⟨_, rfl⟩
          rw [hbRQ] at RQ
          replace RQ := Lib.hid (show RowIs Y298 bRQ (prfRow q) 45 from RQ.out)
          have hC300 := Deserves_c a (some ⟨gq, 0, none⟩) n cap n n m f l c sure Y298 HM.out HQ.out hn hn
          rw [HDf.out] at hC300
          try dsimp only [re2, re3, proofV, zeroP] at hC300
          have C300 := Lib.hid hC300
          clear hC300
          obtain ⟨tc0, tc1, _, _, tz⟩ := ratrow2 HT.out
          go_wp2_with fail
          clear hw297 hbRQ hY298 hy299 tc0 tc1 tz
          refine C300.out.mono ?_
          rintro e w301 ⟨rfl, hw302⟩
          clear C300
          replace HM := Lib.hid (HM.out.below hw302)
          replace HT := Lib.hid (RowIs.below HT.out hw302)
          replace HP := Lib.hid (RowIs.below HP.out hw302)
          replace HG := Lib.hid (HG.out.below hw302)
          replace HA := Lib.hid (HA.out.below hw302)
          replace RC := Lib.hid (RowIs.below RC.out hw302)
          replace RL := Lib.hid (RowIs.below RL.out hw302)
          replace HQ := Lib.hid (HQ.out.below hw302)
          replace RQ := Lib.hid (RowIs.below RQ.out hw302)
          replace hB := bup hB hw302
          have hC303 := Cost_c a (some ⟨gq, 0, none⟩) n cap n n m f w301 HM.out HQ.out hn hn
          rw [HCf.out] at hC303
          try dsimp only [re2, re3, proofV, zeroP] at hC303
          have C303 := Lib.hid hC303
          clear hC303
          go_wp2_with fail
          clear hw302
          refine C303.out.mono ?_
          rintro e w304 ⟨rfl, hw305⟩
          clear C303
          replace HM := Lib.hid (HM.out.below hw305)
          replace HT := Lib.hid (RowIs.below HT.out hw305)
          replace HP := Lib.hid (RowIs.below HP.out hw305)
          replace HG := Lib.hid (HG.out.below hw305)
          replace HA := Lib.hid (HA.out.below hw305)
          replace RC := Lib.hid (RowIs.below RC.out hw305)
          replace RL := Lib.hid (RowIs.below RL.out hw305)
          replace HQ := Lib.hid (HQ.out.below hw305)
          replace RQ := Lib.hid (RowIs.below RQ.out hw305)
          replace hB := bup hB hw305
          obtain ⟨Y306, hY306⟩ : ∃ Y306, w304.alloc (.cells #[.int .i64 x1, .int .i64 x2] 29) = Y306 := ⟨_, rfl⟩
          have hy307 : Below w304.heap.size w304 Y306 := by rw [← hY306]; exact Below.alloc1 (Below.refl _ _) _ (Nat.le_refl _)
          replace HM := Lib.hid (HM.out.below hy307)
          replace HT := Lib.hid (RowIs.below HT.out hy307)
          replace HP := Lib.hid (RowIs.below HP.out hy307)
          replace HG := Lib.hid (HG.out.below hy307)
          replace HA := Lib.hid (HA.out.below hy307)
          replace RC := Lib.hid (RowIs.below RC.out hy307)
          replace RL := Lib.hid (RowIs.below RL.out hy307)
          replace HQ := Lib.hid (HQ.out.below hy307)
          replace RQ := Lib.hid (RowIs.below RQ.out hy307)
          replace hB := bup hB hy307
          have R1 := Lib.hid (show RowIs Y306 w304.heap.size #[.int .i64 x1, .int .i64 x2] 29 by rw [← hY306]; exact heap_new_at _ _ _ rfl)
          obtain ⟨bR1, hbR1⟩ : ∃ bR1, w304.heap.size = bR1 := ⟨_, rfl⟩
          rw [hbR1] at R1
          have hC308 := CheckProof_c a n cap m l c sure q Y306 HM.out hn
          rw [HN0.out] at hC308
          try dsimp only [re2, re3, proofV, zeroP] at hC308
          have C308 := Lib.hid hC308
          clear hC308
          obtain ⟨tc0, tc1, _, _, tz⟩ := ratrow2 HT.out
          obtain ⟨⟨qc0, qc1, qc2, qc3, qz⟩, _⟩ := qrow RQ.out
          go_wp2_with fail
          clear hw305 hbR1 hY306 hy307 tc0 tc1 tz qc0 qc1 qc2 qc3 qz
          refine C308.out.mono ?_
          rintro e w309 ⟨rfl, hw310⟩
          clear C308
          replace HM := Lib.hid (HM.out.below hw310)
          replace HT := Lib.hid (RowIs.below HT.out hw310)
          replace HP := Lib.hid (RowIs.below HP.out hw310)
          replace HG := Lib.hid (HG.out.below hw310)
          replace HA := Lib.hid (HA.out.below hw310)
          replace RC := Lib.hid (RowIs.below RC.out hw310)
          replace RL := Lib.hid (RowIs.below RL.out hw310)
          replace HQ := Lib.hid (HQ.out.below hw310)
          replace RQ := Lib.hid (RowIs.below RQ.out hw310)
          replace R1 := Lib.hid (RowIs.below R1.out hw310)
          replace hB := bup hB hw310
          obtain ⟨Y311, hY311⟩ : ∃ Y311, w309.alloc (.cells #[.int .i64 x1, .int .i64 x2] 29) = Y311 := ⟨_, rfl⟩
          have hy312 : Below w309.heap.size w309 Y311 := by rw [← hY311]; exact Below.alloc1 (Below.refl _ _) _ (Nat.le_refl _)
          replace HM := Lib.hid (HM.out.below hy312)
          replace HT := Lib.hid (RowIs.below HT.out hy312)
          replace HP := Lib.hid (RowIs.below HP.out hy312)
          replace HG := Lib.hid (HG.out.below hy312)
          replace HA := Lib.hid (HA.out.below hy312)
          replace RC := Lib.hid (RowIs.below RC.out hy312)
          replace RL := Lib.hid (RowIs.below RL.out hy312)
          replace HQ := Lib.hid (HQ.out.below hy312)
          replace RQ := Lib.hid (RowIs.below RQ.out hy312)
          replace R1 := Lib.hid (RowIs.below R1.out hy312)
          replace hB := bup hB hy312
          have R2 := Lib.hid (show RowIs Y311 w309.heap.size #[.int .i64 x1, .int .i64 x2] 29 by rw [← hY311]; exact heap_new_at _ _ _ rfl)
          obtain ⟨bR2, hbR2⟩ : ∃ bR2, w309.heap.size = bR2 := ⟨_, rfl⟩
          rw [hbR2] at R2
          have hC313 := rcheckProof_c a n cap m l c sure q Y311 HM.out hn
          rw [HN0.out] at hC313
          try dsimp only [re2, re3, proofV, zeroP] at hC313
          have C313 := Lib.hid hC313
          clear hC313
          obtain ⟨tc0, tc1, _, _, tz⟩ := ratrow2 HT.out
          obtain ⟨⟨qc0, qc1, qc2, qc3, qz⟩, _⟩ := qrow RQ.out
          go_wp2_with fail
          clear hw310 hbR2 hY311 hy312 tc0 tc1 tz qc0 qc1 qc2 qc3 qz
          refine C313.out.mono ?_
          rintro e w314 ⟨rfl, hw315⟩
          clear C313
          replace HM := Lib.hid (HM.out.below hw315)
          replace HT := Lib.hid (RowIs.below HT.out hw315)
          replace HP := Lib.hid (RowIs.below HP.out hw315)
          replace HG := Lib.hid (HG.out.below hw315)
          replace HA := Lib.hid (HA.out.below hw315)
          replace RC := Lib.hid (RowIs.below RC.out hw315)
          replace RL := Lib.hid (RowIs.below RL.out hw315)
          replace HQ := Lib.hid (HQ.out.below hw315)
          replace RQ := Lib.hid (RowIs.below RQ.out hw315)
          replace R1 := Lib.hid (RowIs.below R1.out hw315)
          replace R2 := Lib.hid (RowIs.below R2.out hw315)
          replace hB := bup hB hw315
          obtain ⟨Y316, hY316⟩ : ∃ Y316, w314.alloc (.cells #[.int .i64 x1, .int .i64 x2] 29) = Y316 := ⟨_, rfl⟩
          have hy317 : Below w314.heap.size w314 Y316 := by rw [← hY316]; exact Below.alloc1 (Below.refl _ _) _ (Nat.le_refl _)
          replace HM := Lib.hid (HM.out.below hy317)
          replace HT := Lib.hid (RowIs.below HT.out hy317)
          replace HP := Lib.hid (RowIs.below HP.out hy317)
          replace HG := Lib.hid (HG.out.below hy317)
          replace HA := Lib.hid (HA.out.below hy317)
          replace RC := Lib.hid (RowIs.below RC.out hy317)
          replace RL := Lib.hid (RowIs.below RL.out hy317)
          replace HQ := Lib.hid (HQ.out.below hy317)
          replace RQ := Lib.hid (RowIs.below RQ.out hy317)
          replace R1 := Lib.hid (RowIs.below R1.out hy317)
          replace R2 := Lib.hid (RowIs.below R2.out hy317)
          replace hB := bup hB hy317
          have R3 := Lib.hid (show RowIs Y316 w314.heap.size #[.int .i64 x1, .int .i64 x2] 29 by rw [← hY316]; exact heap_new_at _ _ _ rfl)
          obtain ⟨bR3, hbR3⟩ : ∃ bR3, w314.heap.size = bR3 := ⟨_, rfl⟩
          rw [hbR3] at R3
          have heq := fun (w : World) => eqRat x1 x2 w
          obtain ⟨v3180, v3181, _, _, v318z⟩ := ratrow2 RL.out
          obtain ⟨v3190, v3191, _, _, v319z⟩ := ratrow2 R1.out
          obtain ⟨v3200, v3201, _, _, v320z⟩ := ratrow2 R2.out
          obtain ⟨v3210, v3211, _, _, v321z⟩ := ratrow2 R3.out
          have hC322 := CheckProof_c a n cap m l c sure p Y316 HM.out hn
          rw [HK.out] at hC322
          try dsimp only [re2, re3, proofV, zeroP] at hC322
          have C322 := Lib.hid hC322
          clear hC322
          obtain ⟨tc0, tc1, _, _, tz⟩ := ratrow2 HT.out
          obtain ⟨⟨pc0, pc1, pc2, pc3, pz⟩, _⟩ := qrow HP.out
          go_wp2_with fail
          clear hw315 hbR3 hY316 hy317 v3180 v3181 v318z v3190 v3191 v319z v3200 v3201 v320z v3210 v3211 v321z tc0 tc1 tz pc0 pc1 pc2 pc3 pz
          refine C322.out.mono ?_
          rintro e w323 ⟨rfl, hw324⟩
          clear C322
          replace HM := Lib.hid (HM.out.below hw324)
          replace HT := Lib.hid (RowIs.below HT.out hw324)
          replace HP := Lib.hid (RowIs.below HP.out hw324)
          replace HG := Lib.hid (HG.out.below hw324)
          replace HA := Lib.hid (HA.out.below hw324)
          replace RC := Lib.hid (RowIs.below RC.out hw324)
          replace RL := Lib.hid (RowIs.below RL.out hw324)
          replace HQ := Lib.hid (HQ.out.below hw324)
          replace RQ := Lib.hid (RowIs.below RQ.out hw324)
          replace R1 := Lib.hid (RowIs.below R1.out hw324)
          replace R2 := Lib.hid (RowIs.below R2.out hw324)
          replace R3 := Lib.hid (RowIs.below R3.out hw324)
          replace hB := bup hB hw324
          obtain ⟨Y325, hY325⟩ : ∃ Y325, w323.alloc (.cells #[.int .i64 k1, .int .i64 k2] 29) = Y325 := ⟨_, rfl⟩
          have hy326 : Below w323.heap.size w323 Y325 := by rw [← hY325]; exact Below.alloc1 (Below.refl _ _) _ (Nat.le_refl _)
          replace HM := Lib.hid (HM.out.below hy326)
          replace HT := Lib.hid (RowIs.below HT.out hy326)
          replace HP := Lib.hid (RowIs.below HP.out hy326)
          replace HG := Lib.hid (HG.out.below hy326)
          replace HA := Lib.hid (HA.out.below hy326)
          replace RC := Lib.hid (RowIs.below RC.out hy326)
          replace RL := Lib.hid (RowIs.below RL.out hy326)
          replace HQ := Lib.hid (HQ.out.below hy326)
          replace RQ := Lib.hid (RowIs.below RQ.out hy326)
          replace R1 := Lib.hid (RowIs.below R1.out hy326)
          replace R2 := Lib.hid (RowIs.below R2.out hy326)
          replace R3 := Lib.hid (RowIs.below R3.out hy326)
          replace hB := bup hB hy326
          have RN := Lib.hid (show RowIs Y325 w323.heap.size #[.int .i64 k1, .int .i64 k2] 29 by rw [← hY325]; exact heap_new_at _ _ _ rfl)
          obtain ⟨bRN, hbRN⟩ : ∃ bRN, w323.heap.size = bRN := ⟨_, rfl⟩
          rw [hbRN] at RN
          have hC327 := rcheckProof_c a n cap m l c sure p Y325 HM.out hn
          rw [HK.out] at hC327
          try dsimp only [re2, re3, proofV, zeroP] at hC327
          have C327 := Lib.hid hC327
          clear hC327
          obtain ⟨tc0, tc1, _, _, tz⟩ := ratrow2 HT.out
          obtain ⟨⟨pc0, pc1, pc2, pc3, pz⟩, _⟩ := qrow HP.out
          go_wp2_with fail
          clear hw324 hbRN hY325 hy326 tc0 tc1 tz pc0 pc1 pc2 pc3 pz
          refine C327.out.mono ?_
          rintro e w328 ⟨rfl, hw329⟩
          clear C327
          replace HM := Lib.hid (HM.out.below hw329)
          replace HT := Lib.hid (RowIs.below HT.out hw329)
          replace HP := Lib.hid (RowIs.below HP.out hw329)
          replace HG := Lib.hid (HG.out.below hw329)
          replace HA := Lib.hid (HA.out.below hw329)
          replace RC := Lib.hid (RowIs.below RC.out hw329)
          replace RL := Lib.hid (RowIs.below RL.out hw329)
          replace HQ := Lib.hid (HQ.out.below hw329)
          replace RQ := Lib.hid (RowIs.below RQ.out hw329)
          replace R1 := Lib.hid (RowIs.below R1.out hw329)
          replace R2 := Lib.hid (RowIs.below R2.out hw329)
          replace R3 := Lib.hid (RowIs.below R3.out hw329)
          replace RN := Lib.hid (RowIs.below RN.out hw329)
          replace hB := bup hB hw329
          obtain ⟨Y330, hY330⟩ : ∃ Y330, w328.alloc (.cells #[.int .i64 k1, .int .i64 k2] 29) = Y330 := ⟨_, rfl⟩
          have hy331 : Below w328.heap.size w328 Y330 := by rw [← hY330]; exact Below.alloc1 (Below.refl _ _) _ (Nat.le_refl _)
          replace HM := Lib.hid (HM.out.below hy331)
          replace HT := Lib.hid (RowIs.below HT.out hy331)
          replace HP := Lib.hid (RowIs.below HP.out hy331)
          replace HG := Lib.hid (HG.out.below hy331)
          replace HA := Lib.hid (HA.out.below hy331)
          replace RC := Lib.hid (RowIs.below RC.out hy331)
          replace RL := Lib.hid (RowIs.below RL.out hy331)
          replace HQ := Lib.hid (HQ.out.below hy331)
          replace RQ := Lib.hid (RowIs.below RQ.out hy331)
          replace R1 := Lib.hid (RowIs.below R1.out hy331)
          replace R2 := Lib.hid (RowIs.below R2.out hy331)
          replace R3 := Lib.hid (RowIs.below R3.out hy331)
          replace RN := Lib.hid (RowIs.below RN.out hy331)
          replace hB := bup hB hy331
          have RM := Lib.hid (show RowIs Y330 w328.heap.size #[.int .i64 k1, .int .i64 k2] 29 by rw [← hY330]; exact heap_new_at _ _ _ rfl)
          obtain ⟨bRM, hbRM⟩ : ∃ bRM, w328.heap.size = bRM := ⟨_, rfl⟩
          rw [hbRM] at RM
          obtain ⟨v3320, v3321, _, _, v332z⟩ := ratrow2 RN.out
          obtain ⟨v3330, v3331, _, _, v333z⟩ := ratrow2 RL.out
          go_wp2_with fail
          refine (works_c _).mono ?_
          rintro e wz ⟨rfl, hbz⟩
          go_wp2
          go_ret
          exact ⟨rfl, bup hB hbz⟩
        · have hk1d : decide (k1 < 0) = false := by simpa using hk1
          have m1 := mul_bd (x := k1) (y := x2) (A := 1073741824000) (B := 6000000) (by omega) (by omega) (by omega) (by omega)
          have m2 := mul_bd (x := x1) (y := k2) (A := 6000000000) (B := 1073741824) (by omega) (by omega) (by omega) (by omega)
          have ww1 : IntKind.i64.wrap (k1 * x2) = k1 * x2 := IntWalk.i64_in _ (by omega)
          have ww2 : IntKind.i64.wrap (x1 * k2) = x1 * k2 := IntWalk.i64_in _ (by omega)
          have ww3 : wrap64 (k1 * x2) = k1 * x2 := IntWalk.wrap64_in _ ⟨by omega, by omega⟩
          have ww4 : wrap64 (x1 * k2) = x1 * k2 := IntWalk.wrap64_in _ ⟨by omega, by omega⟩
          have dd : decide (k1 * x2 ≤ x1 * k2) = true := decide_eq_true s3
          obtain ⟨tc0, tc1, _, _, tz⟩ := ratrow2 HT.out
          obtain ⟨⟨pc0, pc1, pc2, pc3, pz⟩, _⟩ := qrow HP.out
          go_enter Tryz.func7, Tryz.ntmps7
          go_wp2_with fail
          refine HFi.out.mono ?_
          rintro e w1 ⟨rfl, hb1⟩
          clear tc0 tc1 tz pc0 pc1 pc2 pc3 pz hW hbt
          replace HM := Lib.hid (HM.out.below hb1)
          replace HT := Lib.hid (RowIs.below HT.out hb1)
          replace HP := Lib.hid (RowIs.below HP.out hb1)
          replace HG := Lib.hid (HG.out.below hb1)
          replace hB := bup hB hb1
          obtain ⟨tc0, tc1, _, _, tz⟩ := ratrow2 HT.out
          go_wp2_with fail
          clear hb1 tc0 tc1 tz
          refine (mixed_c b n len cap2 g w1 HG.out hn16 hl Hgb.out).mono ?_
          rintro e w334 ⟨gHA, cHA, gHAl, gHAz, rfl, hHA0, hw335⟩
          replace HM := Lib.hid (HM.out.below hw335)
          replace HT := Lib.hid (RowIs.below HT.out hw335)
          replace HP := Lib.hid (RowIs.below HP.out hw335)
          replace HG := Lib.hid (HG.out.below hw335)
          replace hB := bup hB hw335
          rw [hA] at hHA0
          have HA := Lib.hid hHA0
          clear hHA0 gHAl gHAz
          have hC336 := Cost_c a (some ⟨gHA, 0, none⟩) n cap n cHA m A w334 HM.out HA.out hn hn
          rw [HCA.out] at hC336
          try dsimp only [re2, re3, proofV, zeroP] at hC336
          have C336 := Lib.hid hC336
          clear hC336
          go_wp2_with fail
          clear hw335
          refine C336.out.mono ?_
          rintro e w337 ⟨rfl, hw338⟩
          clear C336
          replace HM := Lib.hid (HM.out.below hw338)
          replace HT := Lib.hid (RowIs.below HT.out hw338)
          replace HP := Lib.hid (RowIs.below HP.out hw338)
          replace HG := Lib.hid (HG.out.below hw338)
          replace HA := Lib.hid (HA.out.below hw338)
          replace hB := bup hB hw338
          obtain ⟨Y339, hY339⟩ : ∃ Y339, w337.alloc (.cells #[.int .i64 a1, .int .i64 a2] 29) = Y339 := ⟨_, rfl⟩
          have hy340 : Below w337.heap.size w337 Y339 := by rw [← hY339]; exact Below.alloc1 (Below.refl _ _) _ (Nat.le_refl _)
          replace HM := Lib.hid (HM.out.below hy340)
          replace HT := Lib.hid (RowIs.below HT.out hy340)
          replace HP := Lib.hid (RowIs.below HP.out hy340)
          replace HG := Lib.hid (HG.out.below hy340)
          replace HA := Lib.hid (HA.out.below hy340)
          replace hB := bup hB hy340
          have RC := Lib.hid (show RowIs Y339 w337.heap.size #[.int .i64 a1, .int .i64 a2] 29 by rw [← hY339]; exact heap_new_at _ _ _ rfl)
          obtain ⟨bRC, hbRC⟩ : ∃ bRC, w337.heap.size = bRC := ⟨_, rfl⟩
          rw [hbRC] at RC
          have hC341 := Deserves_c a (some ⟨gHA, 0, none⟩) n cap n cHA m A l c sure Y339 HM.out HA.out hn hn
          rw [hgA] at hC341
          try dsimp only [re2, re3, proofV, zeroP] at hC341
          have C341 := Lib.hid hC341
          clear hC341
          obtain ⟨tc0, tc1, _, _, tz⟩ := ratrow2 HT.out
          go_wp2_with fail
          clear hw338 hbRC hY339 hy340 tc0 tc1 tz
          refine C341.out.mono ?_
          rintro e w342 ⟨rfl, hw343⟩
          clear C341
          replace HM := Lib.hid (HM.out.below hw343)
          replace HT := Lib.hid (RowIs.below HT.out hw343)
          replace HP := Lib.hid (RowIs.below HP.out hw343)
          replace HG := Lib.hid (HG.out.below hw343)
          replace HA := Lib.hid (HA.out.below hw343)
          replace RC := Lib.hid (RowIs.below RC.out hw343)
          replace hB := bup hB hw343
          have hC344 := lawLeast_c a n cap m l c sure true (x1, x2) w342 HM.out hn12 hL2.1 hsx
          try dsimp only [re2, re3, proofV, zeroP] at hC344
          have C344 := Lib.hid hC344
          clear hC344
          obtain ⟨tc0, tc1, _, _, tz⟩ := ratrow2 HT.out
          go_wp2_with fail
          clear hw343 tc0 tc1 tz
          refine C344.out.mono ?_
          rintro e w345 ⟨rfl, hw346⟩
          clear C344
          replace HM := Lib.hid (HM.out.below hw346)
          replace HT := Lib.hid (RowIs.below HT.out hw346)
          replace HP := Lib.hid (RowIs.below HP.out hw346)
          replace HG := Lib.hid (HG.out.below hw346)
          replace HA := Lib.hid (HA.out.below hw346)
          replace RC := Lib.hid (RowIs.below RC.out hw346)
          replace hB := bup hB hw346
          simp only [leastV]
          obtain ⟨Y347, hY347⟩ : ∃ Y347, w345.alloc (.cells #[.int .i64 x1, .int .i64 x2] 29) = Y347 := ⟨_, rfl⟩
          have hy348 : Below w345.heap.size w345 Y347 := by rw [← hY347]; exact Below.alloc1 (Below.refl _ _) _ (Nat.le_refl _)
          replace HM := Lib.hid (HM.out.below hy348)
          replace HT := Lib.hid (RowIs.below HT.out hy348)
          replace HP := Lib.hid (RowIs.below HP.out hy348)
          replace HG := Lib.hid (HG.out.below hy348)
          replace HA := Lib.hid (HA.out.below hy348)
          replace RC := Lib.hid (RowIs.below RC.out hy348)
          replace hB := bup hB hy348
          have RL := Lib.hid (show RowIs Y347 w345.heap.size #[.int .i64 x1, .int .i64 x2] 29 by rw [← hY347]; exact heap_new_at _ _ _ rfl)
          obtain ⟨bRL, hbRL⟩ : ∃ bRL, w345.heap.size = bRL := ⟨_, rfl⟩
          rw [hbRL] at RL
          have hC349 := small_c a1 a2 Y347 HsA.out
          try dsimp only [re2, re3, proofV, zeroP] at hC349
          have C349 := Lib.hid hC349
          clear hC349
          obtain ⟨v3500, v3501, _, _, v350z⟩ := ratrow2 RC.out
          obtain ⟨v3510, v3511, _, _, v351z⟩ := ratrow2 RL.out
          go_wp2_with fail
          clear hw346 hbRL hY347 hy348 v3500 v3501 v350z v3510 v3511 v351z
          refine C349.out.mono ?_
          rintro e w352 ⟨rfl, hw353⟩
          clear C349
          replace HM := Lib.hid (HM.out.below hw353)
          replace HT := Lib.hid (RowIs.below HT.out hw353)
          replace HP := Lib.hid (RowIs.below HP.out hw353)
          replace HG := Lib.hid (HG.out.below hw353)
          replace HA := Lib.hid (HA.out.below hw353)
          replace RC := Lib.hid (RowIs.below RC.out hw353)
          replace RL := Lib.hid (RowIs.below RL.out hw353)
          replace hB := bup hB hw353
          have hC354 := Cheapest_yes_c a n cap m l c sure f w352 HM.out hn hbo hbs
          try dsimp only [re2, re3, proofV, zeroP] at hC354
          have C354 := Lib.hid hC354
          clear hC354
          obtain ⟨tc0, tc1, _, _, tz⟩ := ratrow2 HT.out
          go_wp2_with fail
          clear hw353 tc0 tc1 tz
          refine C354.out.mono ?_
          rintro e w355 ⟨gq, hgq, hgz, rfl, HQ0, hw356⟩
          clear C354
          replace HM := Lib.hid (HM.out.below hw356)
          replace HT := Lib.hid (RowIs.below HT.out hw356)
          replace HP := Lib.hid (RowIs.below HP.out hw356)
          replace HG := Lib.hid (HG.out.below hw356)
          replace HA := Lib.hid (HA.out.below hw356)
          replace RC := Lib.hid (RowIs.below RC.out hw356)
          replace RL := Lib.hid (RowIs.below RL.out hw356)
          replace hB := bup hB hw356
          have HQ := Lib.hid HQ0
          clear HQ0 hgq hgz
          have hC357 := Proof_yes_c a n cap m l c sure w355 HM.out hn hbo hemp hCP.1
          try dsimp only [re2, re3, proofV, zeroP] at hC357
          have C357 := Lib.hid hC357
          clear hC357
          obtain ⟨tc0, tc1, _, _, tz⟩ := ratrow2 HT.out
          go_wp2_with fail
          clear hw356 tc0 tc1 tz
          refine C357.out.mono ?_
          rintro e w358 ⟨L, hLL, rfl, hw359⟩
          clear C357
          replace HM := Lib.hid (HM.out.below hw359)
          replace HT := Lib.hid (RowIs.below HT.out hw359)
          replace HP := Lib.hid (RowIs.below HP.out hw359)
          replace HG := Lib.hid (HG.out.below hw359)
          replace HA := Lib.hid (HA.out.below hw359)
          replace RC := Lib.hid (RowIs.below RC.out hw359)
          replace RL := Lib.hid (RowIs.below RL.out hw359)
          replace HQ := Lib.hid (HQ.out.below hw359)
          replace hB := bup hB hw359
          obtain ⟨q, hq⟩ : ∃ q, bestP (costLt l c) L = q := ⟨_, rfl⟩
          have HN0 := Lib.hid (show checkProofR n m l c sure q = (x1, x2, 0) by rw [← hq]; exact hCP.2 L hLL)
          rw [hq]
          clear hq hLL
          obtain ⟨Y360, hY360⟩ : ∃ Y360, w358.alloc (.cells #[.int .i64 q.d, .int .i64 q.b, .int .i64 q.l, .int .i64 q.c] 45) = Y360 := ⟨_, rfl⟩
          have hy361 : Below w358.heap.size w358 Y360 := by rw [← hY360]; exact Below.alloc1 (Below.refl _ _) _ (Nat.le_refl _)
          replace HM := Lib.hid (HM.out.below hy361)
          replace HT := Lib.hid (RowIs.below HT.out hy361)
          replace HP := Lib.hid (RowIs.below HP.out hy361)
          replace HG := Lib.hid (HG.out.below hy361)
          replace HA := Lib.hid (HA.out.below hy361)
          replace RC := Lib.hid (RowIs.below RC.out hy361)
          replace RL := Lib.hid (RowIs.below RL.out hy361)
          replace HQ := Lib.hid (HQ.out.below hy361)
          replace hB := bup hB hy361
          have RQ := Lib.hid (show RowIs Y360 w358.heap.size #[.int .i64 q.d, .int .i64 q.b, .int .i64 q.l, .int .i64 q.c] 45 by rw [← hY360]; exact heap_new_at _ _ _ rfl)
          obtain ⟨bRQ, hbRQ⟩ : ∃ bRQ, w358.heap.size = bRQ := ⟨_, rfl⟩
          rw [hbRQ] at RQ
          replace RQ := Lib.hid (show RowIs Y360 bRQ (prfRow q) 45 from RQ.out)
          have hC362 := Deserves_c a (some ⟨gq, 0, none⟩) n cap n n m f l c sure Y360 HM.out HQ.out hn hn
          rw [HDf.out] at hC362
          try dsimp only [re2, re3, proofV, zeroP] at hC362
          have C362 := Lib.hid hC362
          clear hC362
          obtain ⟨tc0, tc1, _, _, tz⟩ := ratrow2 HT.out
          go_wp2_with fail
          clear hw359 hbRQ hY360 hy361 tc0 tc1 tz
          refine C362.out.mono ?_
          rintro e w363 ⟨rfl, hw364⟩
          clear C362
          replace HM := Lib.hid (HM.out.below hw364)
          replace HT := Lib.hid (RowIs.below HT.out hw364)
          replace HP := Lib.hid (RowIs.below HP.out hw364)
          replace HG := Lib.hid (HG.out.below hw364)
          replace HA := Lib.hid (HA.out.below hw364)
          replace RC := Lib.hid (RowIs.below RC.out hw364)
          replace RL := Lib.hid (RowIs.below RL.out hw364)
          replace HQ := Lib.hid (HQ.out.below hw364)
          replace RQ := Lib.hid (RowIs.below RQ.out hw364)
          replace hB := bup hB hw364
          have hC365 := Cost_c a (some ⟨gq, 0, none⟩) n cap n n m f w363 HM.out HQ.out hn hn
          rw [HCf.out] at hC365
          try dsimp only [re2, re3, proofV, zeroP] at hC365
          have C365 := Lib.hid hC365
          clear hC365
          go_wp2_with fail
          clear hw364
          refine C365.out.mono ?_
          rintro e w366 ⟨rfl, hw367⟩
          clear C365
          replace HM := Lib.hid (HM.out.below hw367)
          replace HT := Lib.hid (RowIs.below HT.out hw367)
          replace HP := Lib.hid (RowIs.below HP.out hw367)
          replace HG := Lib.hid (HG.out.below hw367)
          replace HA := Lib.hid (HA.out.below hw367)
          replace RC := Lib.hid (RowIs.below RC.out hw367)
          replace RL := Lib.hid (RowIs.below RL.out hw367)
          replace HQ := Lib.hid (HQ.out.below hw367)
          replace RQ := Lib.hid (RowIs.below RQ.out hw367)
          replace hB := bup hB hw367
          obtain ⟨Y368, hY368⟩ : ∃ Y368, w366.alloc (.cells #[.int .i64 x1, .int .i64 x2] 29) = Y368 := ⟨_, rfl⟩
          have hy369 : Below w366.heap.size w366 Y368 := by rw [← hY368]; exact Below.alloc1 (Below.refl _ _) _ (Nat.le_refl _)
          replace HM := Lib.hid (HM.out.below hy369)
          replace HT := Lib.hid (RowIs.below HT.out hy369)
          replace HP := Lib.hid (RowIs.below HP.out hy369)
          replace HG := Lib.hid (HG.out.below hy369)
          replace HA := Lib.hid (HA.out.below hy369)
          replace RC := Lib.hid (RowIs.below RC.out hy369)
          replace RL := Lib.hid (RowIs.below RL.out hy369)
          replace HQ := Lib.hid (HQ.out.below hy369)
          replace RQ := Lib.hid (RowIs.below RQ.out hy369)
          replace hB := bup hB hy369
          have R1 := Lib.hid (show RowIs Y368 w366.heap.size #[.int .i64 x1, .int .i64 x2] 29 by rw [← hY368]; exact heap_new_at _ _ _ rfl)
          obtain ⟨bR1, hbR1⟩ : ∃ bR1, w366.heap.size = bR1 := ⟨_, rfl⟩
          rw [hbR1] at R1
          have hC370 := CheckProof_c a n cap m l c sure q Y368 HM.out hn
          rw [HN0.out] at hC370
          try dsimp only [re2, re3, proofV, zeroP] at hC370
          have C370 := Lib.hid hC370
          clear hC370
          obtain ⟨tc0, tc1, _, _, tz⟩ := ratrow2 HT.out
          obtain ⟨⟨qc0, qc1, qc2, qc3, qz⟩, _⟩ := qrow RQ.out
          go_wp2_with fail
          clear hw367 hbR1 hY368 hy369 tc0 tc1 tz qc0 qc1 qc2 qc3 qz
          refine C370.out.mono ?_
          rintro e w371 ⟨rfl, hw372⟩
          clear C370
          replace HM := Lib.hid (HM.out.below hw372)
          replace HT := Lib.hid (RowIs.below HT.out hw372)
          replace HP := Lib.hid (RowIs.below HP.out hw372)
          replace HG := Lib.hid (HG.out.below hw372)
          replace HA := Lib.hid (HA.out.below hw372)
          replace RC := Lib.hid (RowIs.below RC.out hw372)
          replace RL := Lib.hid (RowIs.below RL.out hw372)
          replace HQ := Lib.hid (HQ.out.below hw372)
          replace RQ := Lib.hid (RowIs.below RQ.out hw372)
          replace R1 := Lib.hid (RowIs.below R1.out hw372)
          replace hB := bup hB hw372
          obtain ⟨Y373, hY373⟩ : ∃ Y373, w371.alloc (.cells #[.int .i64 x1, .int .i64 x2] 29) = Y373 := ⟨_, rfl⟩
          have hy374 : Below w371.heap.size w371 Y373 := by rw [← hY373]; exact Below.alloc1 (Below.refl _ _) _ (Nat.le_refl _)
          replace HM := Lib.hid (HM.out.below hy374)
          replace HT := Lib.hid (RowIs.below HT.out hy374)
          replace HP := Lib.hid (RowIs.below HP.out hy374)
          replace HG := Lib.hid (HG.out.below hy374)
          replace HA := Lib.hid (HA.out.below hy374)
          replace RC := Lib.hid (RowIs.below RC.out hy374)
          replace RL := Lib.hid (RowIs.below RL.out hy374)
          replace HQ := Lib.hid (HQ.out.below hy374)
          replace RQ := Lib.hid (RowIs.below RQ.out hy374)
          replace R1 := Lib.hid (RowIs.below R1.out hy374)
          replace hB := bup hB hy374
          have R2 := Lib.hid (show RowIs Y373 w371.heap.size #[.int .i64 x1, .int .i64 x2] 29 by rw [← hY373]; exact heap_new_at _ _ _ rfl)
          obtain ⟨bR2, hbR2⟩ : ∃ bR2, w371.heap.size = bR2 := ⟨_, rfl⟩
          rw [hbR2] at R2
          have hC375 := rcheckProof_c a n cap m l c sure q Y373 HM.out hn
          rw [HN0.out] at hC375
          try dsimp only [re2, re3, proofV, zeroP] at hC375
          have C375 := Lib.hid hC375
          clear hC375
          obtain ⟨tc0, tc1, _, _, tz⟩ := ratrow2 HT.out
          obtain ⟨⟨qc0, qc1, qc2, qc3, qz⟩, _⟩ := qrow RQ.out
          go_wp2_with fail
          clear hw372 hbR2 hY373 hy374 tc0 tc1 tz qc0 qc1 qc2 qc3 qz
          refine C375.out.mono ?_
          rintro e w376 ⟨rfl, hw377⟩
          clear C375
          replace HM := Lib.hid (HM.out.below hw377)
          replace HT := Lib.hid (RowIs.below HT.out hw377)
          replace HP := Lib.hid (RowIs.below HP.out hw377)
          replace HG := Lib.hid (HG.out.below hw377)
          replace HA := Lib.hid (HA.out.below hw377)
          replace RC := Lib.hid (RowIs.below RC.out hw377)
          replace RL := Lib.hid (RowIs.below RL.out hw377)
          replace HQ := Lib.hid (HQ.out.below hw377)
          replace RQ := Lib.hid (RowIs.below RQ.out hw377)
          replace R1 := Lib.hid (RowIs.below R1.out hw377)
          replace R2 := Lib.hid (RowIs.below R2.out hw377)
          replace hB := bup hB hw377
          obtain ⟨Y378, hY378⟩ : ∃ Y378, w376.alloc (.cells #[.int .i64 x1, .int .i64 x2] 29) = Y378 := ⟨_, rfl⟩
          have hy379 : Below w376.heap.size w376 Y378 := by rw [← hY378]; exact Below.alloc1 (Below.refl _ _) _ (Nat.le_refl _)
          replace HM := Lib.hid (HM.out.below hy379)
          replace HT := Lib.hid (RowIs.below HT.out hy379)
          replace HP := Lib.hid (RowIs.below HP.out hy379)
          replace HG := Lib.hid (HG.out.below hy379)
          replace HA := Lib.hid (HA.out.below hy379)
          replace RC := Lib.hid (RowIs.below RC.out hy379)
          replace RL := Lib.hid (RowIs.below RL.out hy379)
          replace HQ := Lib.hid (HQ.out.below hy379)
          replace RQ := Lib.hid (RowIs.below RQ.out hy379)
          replace R1 := Lib.hid (RowIs.below R1.out hy379)
          replace R2 := Lib.hid (RowIs.below R2.out hy379)
          replace hB := bup hB hy379
          have R3 := Lib.hid (show RowIs Y378 w376.heap.size #[.int .i64 x1, .int .i64 x2] 29 by rw [← hY378]; exact heap_new_at _ _ _ rfl)
          obtain ⟨bR3, hbR3⟩ : ∃ bR3, w376.heap.size = bR3 := ⟨_, rfl⟩
          rw [hbR3] at R3
          have heq := fun (w : World) => eqRat x1 x2 w
          obtain ⟨v3800, v3801, _, _, v380z⟩ := ratrow2 RL.out
          obtain ⟨v3810, v3811, _, _, v381z⟩ := ratrow2 R1.out
          obtain ⟨v3820, v3821, _, _, v382z⟩ := ratrow2 R2.out
          obtain ⟨v3830, v3831, _, _, v383z⟩ := ratrow2 R3.out
          have hC384 := CheckProof_c a n cap m l c sure p Y378 HM.out hn
          rw [HK.out] at hC384
          try dsimp only [re2, re3, proofV, zeroP] at hC384
          have C384 := Lib.hid hC384
          clear hC384
          obtain ⟨tc0, tc1, _, _, tz⟩ := ratrow2 HT.out
          obtain ⟨⟨pc0, pc1, pc2, pc3, pz⟩, _⟩ := qrow HP.out
          go_wp2_with fail
          clear hw377 hbR3 hY378 hy379 v3800 v3801 v380z v3810 v3811 v381z v3820 v3821 v382z v3830 v3831 v383z tc0 tc1 tz pc0 pc1 pc2 pc3 pz
          refine C384.out.mono ?_
          rintro e w385 ⟨rfl, hw386⟩
          clear C384
          replace HM := Lib.hid (HM.out.below hw386)
          replace HT := Lib.hid (RowIs.below HT.out hw386)
          replace HP := Lib.hid (RowIs.below HP.out hw386)
          replace HG := Lib.hid (HG.out.below hw386)
          replace HA := Lib.hid (HA.out.below hw386)
          replace RC := Lib.hid (RowIs.below RC.out hw386)
          replace RL := Lib.hid (RowIs.below RL.out hw386)
          replace HQ := Lib.hid (HQ.out.below hw386)
          replace RQ := Lib.hid (RowIs.below RQ.out hw386)
          replace R1 := Lib.hid (RowIs.below R1.out hw386)
          replace R2 := Lib.hid (RowIs.below R2.out hw386)
          replace R3 := Lib.hid (RowIs.below R3.out hw386)
          replace hB := bup hB hw386
          obtain ⟨Y387, hY387⟩ : ∃ Y387, w385.alloc (.cells #[.int .i64 k1, .int .i64 k2] 29) = Y387 := ⟨_, rfl⟩
          have hy388 : Below w385.heap.size w385 Y387 := by rw [← hY387]; exact Below.alloc1 (Below.refl _ _) _ (Nat.le_refl _)
          replace HM := Lib.hid (HM.out.below hy388)
          replace HT := Lib.hid (RowIs.below HT.out hy388)
          replace HP := Lib.hid (RowIs.below HP.out hy388)
          replace HG := Lib.hid (HG.out.below hy388)
          replace HA := Lib.hid (HA.out.below hy388)
          replace RC := Lib.hid (RowIs.below RC.out hy388)
          replace RL := Lib.hid (RowIs.below RL.out hy388)
          replace HQ := Lib.hid (HQ.out.below hy388)
          replace RQ := Lib.hid (RowIs.below RQ.out hy388)
          replace R1 := Lib.hid (RowIs.below R1.out hy388)
          replace R2 := Lib.hid (RowIs.below R2.out hy388)
          replace R3 := Lib.hid (RowIs.below R3.out hy388)
          replace hB := bup hB hy388
          have RN := Lib.hid (show RowIs Y387 w385.heap.size #[.int .i64 k1, .int .i64 k2] 29 by rw [← hY387]; exact heap_new_at _ _ _ rfl)
          obtain ⟨bRN, hbRN⟩ : ∃ bRN, w385.heap.size = bRN := ⟨_, rfl⟩
          rw [hbRN] at RN
          have hC389 := rcheckProof_c a n cap m l c sure p Y387 HM.out hn
          rw [HK.out] at hC389
          try dsimp only [re2, re3, proofV, zeroP] at hC389
          have C389 := Lib.hid hC389
          clear hC389
          obtain ⟨tc0, tc1, _, _, tz⟩ := ratrow2 HT.out
          obtain ⟨⟨pc0, pc1, pc2, pc3, pz⟩, _⟩ := qrow HP.out
          go_wp2_with fail
          clear hw386 hbRN hY387 hy388 tc0 tc1 tz pc0 pc1 pc2 pc3 pz
          refine C389.out.mono ?_
          rintro e w390 ⟨rfl, hw391⟩
          clear C389
          replace HM := Lib.hid (HM.out.below hw391)
          replace HT := Lib.hid (RowIs.below HT.out hw391)
          replace HP := Lib.hid (RowIs.below HP.out hw391)
          replace HG := Lib.hid (HG.out.below hw391)
          replace HA := Lib.hid (HA.out.below hw391)
          replace RC := Lib.hid (RowIs.below RC.out hw391)
          replace RL := Lib.hid (RowIs.below RL.out hw391)
          replace HQ := Lib.hid (HQ.out.below hw391)
          replace RQ := Lib.hid (RowIs.below RQ.out hw391)
          replace R1 := Lib.hid (RowIs.below R1.out hw391)
          replace R2 := Lib.hid (RowIs.below R2.out hw391)
          replace R3 := Lib.hid (RowIs.below R3.out hw391)
          replace RN := Lib.hid (RowIs.below RN.out hw391)
          replace hB := bup hB hw391
          obtain ⟨Y392, hY392⟩ : ∃ Y392, w390.alloc (.cells #[.int .i64 k1, .int .i64 k2] 29) = Y392 := ⟨_, rfl⟩
          have hy393 : Below w390.heap.size w390 Y392 := by rw [← hY392]; exact Below.alloc1 (Below.refl _ _) _ (Nat.le_refl _)
          replace HM := Lib.hid (HM.out.below hy393)
          replace HT := Lib.hid (RowIs.below HT.out hy393)
          replace HP := Lib.hid (RowIs.below HP.out hy393)
          replace HG := Lib.hid (HG.out.below hy393)
          replace HA := Lib.hid (HA.out.below hy393)
          replace RC := Lib.hid (RowIs.below RC.out hy393)
          replace RL := Lib.hid (RowIs.below RL.out hy393)
          replace HQ := Lib.hid (HQ.out.below hy393)
          replace RQ := Lib.hid (RowIs.below RQ.out hy393)
          replace R1 := Lib.hid (RowIs.below R1.out hy393)
          replace R2 := Lib.hid (RowIs.below R2.out hy393)
          replace R3 := Lib.hid (RowIs.below R3.out hy393)
          replace RN := Lib.hid (RowIs.below RN.out hy393)
          replace hB := bup hB hy393
          have RM := Lib.hid (show RowIs Y392 w390.heap.size #[.int .i64 k1, .int .i64 k2] 29 by rw [← hY392]; exact heap_new_at _ _ _ rfl)
          obtain ⟨bRM, hbRM⟩ : ∃ bRM, w390.heap.size = bRM := ⟨_, rfl⟩
          rw [hbRM] at RM
          obtain ⟨v3940, v3941, _, _, v394z⟩ := ratrow2 RN.out
          obtain ⟨v3950, v3951, _, _, v395z⟩ := ratrow2 RL.out
          go_wp2_with fail
          refine (works_c _).mono ?_
          rintro e wz ⟨rfl, hbz⟩
          go_wp2
          go_ret
          exact ⟨rfl, bup hB hbz⟩
      · have h3' : (k3 != 0) = true := by simpa using h3
        obtain ⟨rfl, rfl⟩ : k1 = 0 ∧ k2 = 0 := proof_zero HK.out h3
        clear hsay
        obtain ⟨tc0, tc1, _, _, tz⟩ := ratrow2 HT.out
        obtain ⟨⟨pc0, pc1, pc2, pc3, pz⟩, _⟩ := qrow HP.out
        go_enter Tryz.func7, Tryz.ntmps7
        go_wp2_with fail
        refine HFi.out.mono ?_
        rintro e w1 ⟨rfl, hb1⟩
        clear tc0 tc1 tz pc0 pc1 pc2 pc3 pz hW hbt
        replace HM := Lib.hid (HM.out.below hb1)
        replace HT := Lib.hid (RowIs.below HT.out hb1)
        replace HP := Lib.hid (RowIs.below HP.out hb1)
        replace HG := Lib.hid (HG.out.below hb1)
        replace hB := bup hB hb1
        obtain ⟨tc0, tc1, _, _, tz⟩ := ratrow2 HT.out
        go_wp2_with fail
        clear hb1 tc0 tc1 tz
        refine (mixed_c b n len cap2 g w1 HG.out hn16 hl Hgb.out).mono ?_
        rintro e w396 ⟨gHA, cHA, gHAl, gHAz, rfl, hHA0, hw397⟩
        replace HM := Lib.hid (HM.out.below hw397)
        replace HT := Lib.hid (RowIs.below HT.out hw397)
        replace HP := Lib.hid (RowIs.below HP.out hw397)
        replace HG := Lib.hid (HG.out.below hw397)
        replace hB := bup hB hw397
        rw [hA] at hHA0
        have HA := Lib.hid hHA0
        clear hHA0 gHAl gHAz
        have hC398 := Cost_c a (some ⟨gHA, 0, none⟩) n cap n cHA m A w396 HM.out HA.out hn hn
        rw [HCA.out] at hC398
        try dsimp only [re2, re3, proofV, zeroP] at hC398
        have C398 := Lib.hid hC398
        clear hC398
        go_wp2_with fail
        clear hw397
        refine C398.out.mono ?_
        rintro e w399 ⟨rfl, hw400⟩
        clear C398
        replace HM := Lib.hid (HM.out.below hw400)
        replace HT := Lib.hid (RowIs.below HT.out hw400)
        replace HP := Lib.hid (RowIs.below HP.out hw400)
        replace HG := Lib.hid (HG.out.below hw400)
        replace HA := Lib.hid (HA.out.below hw400)
        replace hB := bup hB hw400
        obtain ⟨Y401, hY401⟩ : ∃ Y401, w399.alloc (.cells #[.int .i64 a1, .int .i64 a2] 29) = Y401 := ⟨_, rfl⟩
        have hy402 : Below w399.heap.size w399 Y401 := by rw [← hY401]; exact Below.alloc1 (Below.refl _ _) _ (Nat.le_refl _)
        replace HM := Lib.hid (HM.out.below hy402)
        replace HT := Lib.hid (RowIs.below HT.out hy402)
        replace HP := Lib.hid (RowIs.below HP.out hy402)
        replace HG := Lib.hid (HG.out.below hy402)
        replace HA := Lib.hid (HA.out.below hy402)
        replace hB := bup hB hy402
        have RC := Lib.hid (show RowIs Y401 w399.heap.size #[.int .i64 a1, .int .i64 a2] 29 by rw [← hY401]; exact heap_new_at _ _ _ rfl)
        obtain ⟨bRC, hbRC⟩ : ∃ bRC, w399.heap.size = bRC := ⟨_, rfl⟩
        rw [hbRC] at RC
        have hC403 := Deserves_c a (some ⟨gHA, 0, none⟩) n cap n cHA m A l c sure Y401 HM.out HA.out hn hn
        rw [hgA] at hC403
        try dsimp only [re2, re3, proofV, zeroP] at hC403
        have C403 := Lib.hid hC403
        clear hC403
        obtain ⟨tc0, tc1, _, _, tz⟩ := ratrow2 HT.out
        go_wp2_with fail
        clear hw400 hbRC hY401 hy402 tc0 tc1 tz
        refine C403.out.mono ?_
        rintro e w404 ⟨rfl, hw405⟩
        clear C403
        replace HM := Lib.hid (HM.out.below hw405)
        replace HT := Lib.hid (RowIs.below HT.out hw405)
        replace HP := Lib.hid (RowIs.below HP.out hw405)
        replace HG := Lib.hid (HG.out.below hw405)
        replace HA := Lib.hid (HA.out.below hw405)
        replace RC := Lib.hid (RowIs.below RC.out hw405)
        replace hB := bup hB hw405
        have hC406 := lawLeast_c a n cap m l c sure true (x1, x2) w404 HM.out hn12 hL2.1 hsx
        try dsimp only [re2, re3, proofV, zeroP] at hC406
        have C406 := Lib.hid hC406
        clear hC406
        obtain ⟨tc0, tc1, _, _, tz⟩ := ratrow2 HT.out
        go_wp2_with fail
        clear hw405 tc0 tc1 tz
        refine C406.out.mono ?_
        rintro e w407 ⟨rfl, hw408⟩
        clear C406
        replace HM := Lib.hid (HM.out.below hw408)
        replace HT := Lib.hid (RowIs.below HT.out hw408)
        replace HP := Lib.hid (RowIs.below HP.out hw408)
        replace HG := Lib.hid (HG.out.below hw408)
        replace HA := Lib.hid (HA.out.below hw408)
        replace RC := Lib.hid (RowIs.below RC.out hw408)
        replace hB := bup hB hw408
        simp only [leastV]
        obtain ⟨Y409, hY409⟩ : ∃ Y409, w407.alloc (.cells #[.int .i64 x1, .int .i64 x2] 29) = Y409 := ⟨_, rfl⟩
        have hy410 : Below w407.heap.size w407 Y409 := by rw [← hY409]; exact Below.alloc1 (Below.refl _ _) _ (Nat.le_refl _)
        replace HM := Lib.hid (HM.out.below hy410)
        replace HT := Lib.hid (RowIs.below HT.out hy410)
        replace HP := Lib.hid (RowIs.below HP.out hy410)
        replace HG := Lib.hid (HG.out.below hy410)
        replace HA := Lib.hid (HA.out.below hy410)
        replace RC := Lib.hid (RowIs.below RC.out hy410)
        replace hB := bup hB hy410
        have RL := Lib.hid (show RowIs Y409 w407.heap.size #[.int .i64 x1, .int .i64 x2] 29 by rw [← hY409]; exact heap_new_at _ _ _ rfl)
        obtain ⟨bRL, hbRL⟩ : ∃ bRL, w407.heap.size = bRL := ⟨_, rfl⟩
        rw [hbRL] at RL
        have hC411 := small_c a1 a2 Y409 HsA.out
        try dsimp only [re2, re3, proofV, zeroP] at hC411
        have C411 := Lib.hid hC411
        clear hC411
        obtain ⟨v4120, v4121, _, _, v412z⟩ := ratrow2 RC.out
        obtain ⟨v4130, v4131, _, _, v413z⟩ := ratrow2 RL.out
        go_wp2_with fail
        clear hw408 hbRL hY409 hy410 v4120 v4121 v412z v4130 v4131 v413z
        refine C411.out.mono ?_
        rintro e w414 ⟨rfl, hw415⟩
        clear C411
        replace HM := Lib.hid (HM.out.below hw415)
        replace HT := Lib.hid (RowIs.below HT.out hw415)
        replace HP := Lib.hid (RowIs.below HP.out hw415)
        replace HG := Lib.hid (HG.out.below hw415)
        replace HA := Lib.hid (HA.out.below hw415)
        replace RC := Lib.hid (RowIs.below RC.out hw415)
        replace RL := Lib.hid (RowIs.below RL.out hw415)
        replace hB := bup hB hw415
        have hC416 := Cheapest_yes_c a n cap m l c sure f w414 HM.out hn hbo hbs
        try dsimp only [re2, re3, proofV, zeroP] at hC416
        have C416 := Lib.hid hC416
        clear hC416
        obtain ⟨tc0, tc1, _, _, tz⟩ := ratrow2 HT.out
        go_wp2_with fail
        clear hw415 tc0 tc1 tz
        refine C416.out.mono ?_
        rintro e w417 ⟨gq, hgq, hgz, rfl, HQ0, hw418⟩
        clear C416
        replace HM := Lib.hid (HM.out.below hw418)
        replace HT := Lib.hid (RowIs.below HT.out hw418)
        replace HP := Lib.hid (RowIs.below HP.out hw418)
        replace HG := Lib.hid (HG.out.below hw418)
        replace HA := Lib.hid (HA.out.below hw418)
        replace RC := Lib.hid (RowIs.below RC.out hw418)
        replace RL := Lib.hid (RowIs.below RL.out hw418)
        replace hB := bup hB hw418
        have HQ := Lib.hid HQ0
        clear HQ0 hgq hgz
        have hC419 := Proof_yes_c a n cap m l c sure w417 HM.out hn hbo hemp hCP.1
        try dsimp only [re2, re3, proofV, zeroP] at hC419
        have C419 := Lib.hid hC419
        clear hC419
        obtain ⟨tc0, tc1, _, _, tz⟩ := ratrow2 HT.out
        go_wp2_with fail
        clear hw418 tc0 tc1 tz
        refine C419.out.mono ?_
        rintro e w420 ⟨L, hLL, rfl, hw421⟩
        clear C419
        replace HM := Lib.hid (HM.out.below hw421)
        replace HT := Lib.hid (RowIs.below HT.out hw421)
        replace HP := Lib.hid (RowIs.below HP.out hw421)
        replace HG := Lib.hid (HG.out.below hw421)
        replace HA := Lib.hid (HA.out.below hw421)
        replace RC := Lib.hid (RowIs.below RC.out hw421)
        replace RL := Lib.hid (RowIs.below RL.out hw421)
        replace HQ := Lib.hid (HQ.out.below hw421)
        replace hB := bup hB hw421
        obtain ⟨q, hq⟩ : ∃ q, bestP (costLt l c) L = q := ⟨_, rfl⟩
        have HN0 := Lib.hid (show checkProofR n m l c sure q = (x1, x2, 0) by rw [← hq]; exact hCP.2 L hLL)
        rw [hq]
        clear hq hLL
        obtain ⟨Y422, hY422⟩ : ∃ Y422, w420.alloc (.cells #[.int .i64 q.d, .int .i64 q.b, .int .i64 q.l, .int .i64 q.c] 45) = Y422 := ⟨_, rfl⟩
        have hy423 : Below w420.heap.size w420 Y422 := by rw [← hY422]; exact Below.alloc1 (Below.refl _ _) _ (Nat.le_refl _)
        replace HM := Lib.hid (HM.out.below hy423)
        replace HT := Lib.hid (RowIs.below HT.out hy423)
        replace HP := Lib.hid (RowIs.below HP.out hy423)
        replace HG := Lib.hid (HG.out.below hy423)
        replace HA := Lib.hid (HA.out.below hy423)
        replace RC := Lib.hid (RowIs.below RC.out hy423)
        replace RL := Lib.hid (RowIs.below RL.out hy423)
        replace HQ := Lib.hid (HQ.out.below hy423)
        replace hB := bup hB hy423
        have RQ := Lib.hid (show RowIs Y422 w420.heap.size #[.int .i64 q.d, .int .i64 q.b, .int .i64 q.l, .int .i64 q.c] 45 by rw [← hY422]; exact heap_new_at _ _ _ rfl)
        obtain ⟨bRQ, hbRQ⟩ : ∃ bRQ, w420.heap.size = bRQ := ⟨_, rfl⟩
        rw [hbRQ] at RQ
        replace RQ := Lib.hid (show RowIs Y422 bRQ (prfRow q) 45 from RQ.out)
        have hC424 := Deserves_c a (some ⟨gq, 0, none⟩) n cap n n m f l c sure Y422 HM.out HQ.out hn hn
        rw [HDf.out] at hC424
        try dsimp only [re2, re3, proofV, zeroP] at hC424
        have C424 := Lib.hid hC424
        clear hC424
        obtain ⟨tc0, tc1, _, _, tz⟩ := ratrow2 HT.out
        go_wp2_with fail
        clear hw421 hbRQ hY422 hy423 tc0 tc1 tz
        refine C424.out.mono ?_
        rintro e w425 ⟨rfl, hw426⟩
        clear C424
        replace HM := Lib.hid (HM.out.below hw426)
        replace HT := Lib.hid (RowIs.below HT.out hw426)
        replace HP := Lib.hid (RowIs.below HP.out hw426)
        replace HG := Lib.hid (HG.out.below hw426)
        replace HA := Lib.hid (HA.out.below hw426)
        replace RC := Lib.hid (RowIs.below RC.out hw426)
        replace RL := Lib.hid (RowIs.below RL.out hw426)
        replace HQ := Lib.hid (HQ.out.below hw426)
        replace RQ := Lib.hid (RowIs.below RQ.out hw426)
        replace hB := bup hB hw426
        have hC427 := Cost_c a (some ⟨gq, 0, none⟩) n cap n n m f w425 HM.out HQ.out hn hn
        rw [HCf.out] at hC427
        try dsimp only [re2, re3, proofV, zeroP] at hC427
        have C427 := Lib.hid hC427
        clear hC427
        go_wp2_with fail
        clear hw426
        refine C427.out.mono ?_
        rintro e w428 ⟨rfl, hw429⟩
        clear C427
        replace HM := Lib.hid (HM.out.below hw429)
        replace HT := Lib.hid (RowIs.below HT.out hw429)
        replace HP := Lib.hid (RowIs.below HP.out hw429)
        replace HG := Lib.hid (HG.out.below hw429)
        replace HA := Lib.hid (HA.out.below hw429)
        replace RC := Lib.hid (RowIs.below RC.out hw429)
        replace RL := Lib.hid (RowIs.below RL.out hw429)
        replace HQ := Lib.hid (HQ.out.below hw429)
        replace RQ := Lib.hid (RowIs.below RQ.out hw429)
        replace hB := bup hB hw429
        obtain ⟨Y430, hY430⟩ : ∃ Y430, w428.alloc (.cells #[.int .i64 x1, .int .i64 x2] 29) = Y430 := ⟨_, rfl⟩
        have hy431 : Below w428.heap.size w428 Y430 := by rw [← hY430]; exact Below.alloc1 (Below.refl _ _) _ (Nat.le_refl _)
        replace HM := Lib.hid (HM.out.below hy431)
        replace HT := Lib.hid (RowIs.below HT.out hy431)
        replace HP := Lib.hid (RowIs.below HP.out hy431)
        replace HG := Lib.hid (HG.out.below hy431)
        replace HA := Lib.hid (HA.out.below hy431)
        replace RC := Lib.hid (RowIs.below RC.out hy431)
        replace RL := Lib.hid (RowIs.below RL.out hy431)
        replace HQ := Lib.hid (HQ.out.below hy431)
        replace RQ := Lib.hid (RowIs.below RQ.out hy431)
        replace hB := bup hB hy431
        have R1 := Lib.hid (show RowIs Y430 w428.heap.size #[.int .i64 x1, .int .i64 x2] 29 by rw [← hY430]; exact heap_new_at _ _ _ rfl)
        obtain ⟨bR1, hbR1⟩ : ∃ bR1, w428.heap.size = bR1 := ⟨_, rfl⟩
        rw [hbR1] at R1
        have hC432 := CheckProof_c a n cap m l c sure q Y430 HM.out hn
        rw [HN0.out] at hC432
        try dsimp only [re2, re3, proofV, zeroP] at hC432
        have C432 := Lib.hid hC432
        clear hC432
        obtain ⟨tc0, tc1, _, _, tz⟩ := ratrow2 HT.out
        obtain ⟨⟨qc0, qc1, qc2, qc3, qz⟩, _⟩ := qrow RQ.out
        go_wp2_with fail
        clear hw429 hbR1 hY430 hy431 tc0 tc1 tz qc0 qc1 qc2 qc3 qz
        refine C432.out.mono ?_
        rintro e w433 ⟨rfl, hw434⟩
        clear C432
        replace HM := Lib.hid (HM.out.below hw434)
        replace HT := Lib.hid (RowIs.below HT.out hw434)
        replace HP := Lib.hid (RowIs.below HP.out hw434)
        replace HG := Lib.hid (HG.out.below hw434)
        replace HA := Lib.hid (HA.out.below hw434)
        replace RC := Lib.hid (RowIs.below RC.out hw434)
        replace RL := Lib.hid (RowIs.below RL.out hw434)
        replace HQ := Lib.hid (HQ.out.below hw434)
        replace RQ := Lib.hid (RowIs.below RQ.out hw434)
        replace R1 := Lib.hid (RowIs.below R1.out hw434)
        replace hB := bup hB hw434
        obtain ⟨Y435, hY435⟩ : ∃ Y435, w433.alloc (.cells #[.int .i64 x1, .int .i64 x2] 29) = Y435 := ⟨_, rfl⟩
        have hy436 : Below w433.heap.size w433 Y435 := by rw [← hY435]; exact Below.alloc1 (Below.refl _ _) _ (Nat.le_refl _)
        replace HM := Lib.hid (HM.out.below hy436)
        replace HT := Lib.hid (RowIs.below HT.out hy436)
        replace HP := Lib.hid (RowIs.below HP.out hy436)
        replace HG := Lib.hid (HG.out.below hy436)
        replace HA := Lib.hid (HA.out.below hy436)
        replace RC := Lib.hid (RowIs.below RC.out hy436)
        replace RL := Lib.hid (RowIs.below RL.out hy436)
        replace HQ := Lib.hid (HQ.out.below hy436)
        replace RQ := Lib.hid (RowIs.below RQ.out hy436)
        replace R1 := Lib.hid (RowIs.below R1.out hy436)
        replace hB := bup hB hy436
        have R2 := Lib.hid (show RowIs Y435 w433.heap.size #[.int .i64 x1, .int .i64 x2] 29 by rw [← hY435]; exact heap_new_at _ _ _ rfl)
        obtain ⟨bR2, hbR2⟩ : ∃ bR2, w433.heap.size = bR2 := ⟨_, rfl⟩
        rw [hbR2] at R2
        have hC437 := rcheckProof_c a n cap m l c sure q Y435 HM.out hn
        rw [HN0.out] at hC437
        try dsimp only [re2, re3, proofV, zeroP] at hC437
        have C437 := Lib.hid hC437
        clear hC437
        obtain ⟨tc0, tc1, _, _, tz⟩ := ratrow2 HT.out
        obtain ⟨⟨qc0, qc1, qc2, qc3, qz⟩, _⟩ := qrow RQ.out
        go_wp2_with fail
        clear hw434 hbR2 hY435 hy436 tc0 tc1 tz qc0 qc1 qc2 qc3 qz
        refine C437.out.mono ?_
        rintro e w438 ⟨rfl, hw439⟩
        clear C437
        replace HM := Lib.hid (HM.out.below hw439)
        replace HT := Lib.hid (RowIs.below HT.out hw439)
        replace HP := Lib.hid (RowIs.below HP.out hw439)
        replace HG := Lib.hid (HG.out.below hw439)
        replace HA := Lib.hid (HA.out.below hw439)
        replace RC := Lib.hid (RowIs.below RC.out hw439)
        replace RL := Lib.hid (RowIs.below RL.out hw439)
        replace HQ := Lib.hid (HQ.out.below hw439)
        replace RQ := Lib.hid (RowIs.below RQ.out hw439)
        replace R1 := Lib.hid (RowIs.below R1.out hw439)
        replace R2 := Lib.hid (RowIs.below R2.out hw439)
        replace hB := bup hB hw439
        obtain ⟨Y440, hY440⟩ : ∃ Y440, w438.alloc (.cells #[.int .i64 x1, .int .i64 x2] 29) = Y440 := ⟨_, rfl⟩
        have hy441 : Below w438.heap.size w438 Y440 := by rw [← hY440]; exact Below.alloc1 (Below.refl _ _) _ (Nat.le_refl _)
        replace HM := Lib.hid (HM.out.below hy441)
        replace HT := Lib.hid (RowIs.below HT.out hy441)
        replace HP := Lib.hid (RowIs.below HP.out hy441)
        replace HG := Lib.hid (HG.out.below hy441)
        replace HA := Lib.hid (HA.out.below hy441)
        replace RC := Lib.hid (RowIs.below RC.out hy441)
        replace RL := Lib.hid (RowIs.below RL.out hy441)
        replace HQ := Lib.hid (HQ.out.below hy441)
        replace RQ := Lib.hid (RowIs.below RQ.out hy441)
        replace R1 := Lib.hid (RowIs.below R1.out hy441)
        replace R2 := Lib.hid (RowIs.below R2.out hy441)
        replace hB := bup hB hy441
        have R3 := Lib.hid (show RowIs Y440 w438.heap.size #[.int .i64 x1, .int .i64 x2] 29 by rw [← hY440]; exact heap_new_at _ _ _ rfl)
        obtain ⟨bR3, hbR3⟩ : ∃ bR3, w438.heap.size = bR3 := ⟨_, rfl⟩
        rw [hbR3] at R3
        have heq := fun (w : World) => eqRat x1 x2 w
        obtain ⟨v4420, v4421, _, _, v442z⟩ := ratrow2 RL.out
        obtain ⟨v4430, v4431, _, _, v443z⟩ := ratrow2 R1.out
        obtain ⟨v4440, v4441, _, _, v444z⟩ := ratrow2 R2.out
        obtain ⟨v4450, v4451, _, _, v445z⟩ := ratrow2 R3.out
        have hC446 := CheckProof_c a n cap m l c sure p Y440 HM.out hn
        rw [HK.out] at hC446
        try dsimp only [re2, re3, proofV, zeroP] at hC446
        have C446 := Lib.hid hC446
        clear hC446
        obtain ⟨tc0, tc1, _, _, tz⟩ := ratrow2 HT.out
        obtain ⟨⟨pc0, pc1, pc2, pc3, pz⟩, _⟩ := qrow HP.out
        go_wp2_with fail
        clear hw439 hbR3 hY440 hy441 v4420 v4421 v442z v4430 v4431 v443z v4440 v4441 v444z v4450 v4451 v445z tc0 tc1 tz pc0 pc1 pc2 pc3 pz
        refine C446.out.mono ?_
        rintro e w447 ⟨rfl, hw448⟩
        clear C446
        replace HM := Lib.hid (HM.out.below hw448)
        replace HT := Lib.hid (RowIs.below HT.out hw448)
        replace HP := Lib.hid (RowIs.below HP.out hw448)
        replace HG := Lib.hid (HG.out.below hw448)
        replace HA := Lib.hid (HA.out.below hw448)
        replace RC := Lib.hid (RowIs.below RC.out hw448)
        replace RL := Lib.hid (RowIs.below RL.out hw448)
        replace HQ := Lib.hid (HQ.out.below hw448)
        replace RQ := Lib.hid (RowIs.below RQ.out hw448)
        replace R1 := Lib.hid (RowIs.below R1.out hw448)
        replace R2 := Lib.hid (RowIs.below R2.out hw448)
        replace R3 := Lib.hid (RowIs.below R3.out hw448)
        replace hB := bup hB hw448
        obtain ⟨Y449, hY449⟩ : ∃ Y449, w447.alloc (.cells #[.int .i64 0, .int .i64 0] 29) = Y449 := ⟨_, rfl⟩
        have hy450 : Below w447.heap.size w447 Y449 := by rw [← hY449]; exact Below.alloc1 (Below.refl _ _) _ (Nat.le_refl _)
        have zY449 : RowIs Y449 w447.heap.size #[.int .i64 0, .int .i64 0] 29 := by rw [← hY449]; exact heap_new_at _ _ _ rfl
        obtain ⟨yY4490, yY4491, yY4492, yY4493, yY4494⟩ := ratrow2 zY449
        obtain ⟨Z451, hZ451⟩ : ∃ Z451, ((Y449.setCell ⟨w447.heap.size, 0, none⟩ (.int .i64 0)).setCell ⟨w447.heap.size, 1, none⟩ (.int .i64 0)) = Z451 := ⟨_, rfl⟩
        have hz452 : Below w447.heap.size w447 Z451 := hy450.trans (by rw [← hZ451]; exact (((Below.refl _ Y449).setCell (p := ⟨w447.heap.size, 0, none⟩) (Nat.le_refl _) _).setCell (p := ⟨w447.heap.size, 1, none⟩) (Nat.le_refl _) _))
        replace HM := Lib.hid (HM.out.below hz452)
        replace HT := Lib.hid (RowIs.below HT.out hz452)
        replace HP := Lib.hid (RowIs.below HP.out hz452)
        replace HG := Lib.hid (HG.out.below hz452)
        replace HA := Lib.hid (HA.out.below hz452)
        replace RC := Lib.hid (RowIs.below RC.out hz452)
        replace RL := Lib.hid (RowIs.below RL.out hz452)
        replace HQ := Lib.hid (HQ.out.below hz452)
        replace RQ := Lib.hid (RowIs.below RQ.out hz452)
        replace R1 := Lib.hid (RowIs.below R1.out hz452)
        replace R2 := Lib.hid (RowIs.below R2.out hz452)
        replace R3 := Lib.hid (RowIs.below R3.out hz452)
        replace hB := bup hB hz452
        have RN := Lib.hid (show RowIs Z451 w447.heap.size #[.int .i64 0, .int .i64 0] 29 by rw [← hZ451]; exact put2_row zY449 0 0)
        have hC453 := rcheckProof_c a n cap m l c sure p Z451 HM.out hn
        rw [HK.out] at hC453
        try dsimp only [re2, re3, proofV, zeroP] at hC453
        have C453 := Lib.hid hC453
        clear hC453
        obtain ⟨tc0, tc1, _, _, tz⟩ := ratrow2 HT.out
        obtain ⟨⟨pc0, pc1, pc2, pc3, pz⟩, _⟩ := qrow HP.out
        go_wp2_with fail
        clear hw448 hY449 hy450 zY449 yY4490 yY4491 yY4492 yY4493 yY4494 hZ451 hz452 tc0 tc1 tz pc0 pc1 pc2 pc3 pz
        refine C453.out.mono ?_
        rintro e w454 ⟨rfl, hw455⟩
        clear C453
        replace HM := Lib.hid (HM.out.below hw455)
        replace HT := Lib.hid (RowIs.below HT.out hw455)
        replace HP := Lib.hid (RowIs.below HP.out hw455)
        replace HG := Lib.hid (HG.out.below hw455)
        replace HA := Lib.hid (HA.out.below hw455)
        replace RC := Lib.hid (RowIs.below RC.out hw455)
        replace RL := Lib.hid (RowIs.below RL.out hw455)
        replace HQ := Lib.hid (HQ.out.below hw455)
        replace RQ := Lib.hid (RowIs.below RQ.out hw455)
        replace R1 := Lib.hid (RowIs.below R1.out hw455)
        replace R2 := Lib.hid (RowIs.below R2.out hw455)
        replace R3 := Lib.hid (RowIs.below R3.out hw455)
        replace RN := Lib.hid (RowIs.below RN.out hw455)
        replace hB := bup hB hw455
        obtain ⟨Y456, hY456⟩ : ∃ Y456, w454.alloc (.cells #[.int .i64 0, .int .i64 0] 29) = Y456 := ⟨_, rfl⟩
        have hy457 : Below w454.heap.size w454 Y456 := by rw [← hY456]; exact Below.alloc1 (Below.refl _ _) _ (Nat.le_refl _)
        have zY456 : RowIs Y456 w454.heap.size #[.int .i64 0, .int .i64 0] 29 := by rw [← hY456]; exact heap_new_at _ _ _ rfl
        obtain ⟨yY4560, yY4561, yY4562, yY4563, yY4564⟩ := ratrow2 zY456
        obtain ⟨Z458, hZ458⟩ : ∃ Z458, ((Y456.setCell ⟨w454.heap.size, 0, none⟩ (.int .i64 0)).setCell ⟨w454.heap.size, 1, none⟩ (.int .i64 0)) = Z458 := ⟨_, rfl⟩
        have hz459 : Below w454.heap.size w454 Z458 := hy457.trans (by rw [← hZ458]; exact (((Below.refl _ Y456).setCell (p := ⟨w454.heap.size, 0, none⟩) (Nat.le_refl _) _).setCell (p := ⟨w454.heap.size, 1, none⟩) (Nat.le_refl _) _))
        replace HM := Lib.hid (HM.out.below hz459)
        replace HT := Lib.hid (RowIs.below HT.out hz459)
        replace HP := Lib.hid (RowIs.below HP.out hz459)
        replace HG := Lib.hid (HG.out.below hz459)
        replace HA := Lib.hid (HA.out.below hz459)
        replace RC := Lib.hid (RowIs.below RC.out hz459)
        replace RL := Lib.hid (RowIs.below RL.out hz459)
        replace HQ := Lib.hid (HQ.out.below hz459)
        replace RQ := Lib.hid (RowIs.below RQ.out hz459)
        replace R1 := Lib.hid (RowIs.below R1.out hz459)
        replace R2 := Lib.hid (RowIs.below R2.out hz459)
        replace R3 := Lib.hid (RowIs.below R3.out hz459)
        replace RN := Lib.hid (RowIs.below RN.out hz459)
        replace hB := bup hB hz459
        have RM := Lib.hid (show RowIs Z458 w454.heap.size #[.int .i64 0, .int .i64 0] 29 by rw [← hZ458]; exact put2_row zY456 0 0)
        go_wp2_with fail
        refine (works_c _).mono ?_
        rintro e wz ⟨rfl, hbz⟩
        go_wp2
        go_ret
        exact ⟨rfl, bup hB hbz⟩

end Go.Proofs.YtehafggcncbnkaaGreat
