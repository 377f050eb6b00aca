/- For whatever arguments, the law AlloyHeld returns true, and each argument reads behind the call as it read before. No condition. -/
import Derived.Deep.QuietTactic
import Derived.BigQuiet
import Derived.Test.YtehafggcncbnkaaGreatProg
import Derived.Test.YtehafggcncbnkaaGreatBasaa
import Derived.Test.YtehafggcncbnkaaGreatBasad
import Derived.Test.YtehafggcncbnkaaGreatBasae
import Derived.Test.YtehafggcncbnkaaGreatBasaf
import Derived.Test.YtehafggcncbnkaaGreatBasak
import Derived.Test.YtehafggcncbnkaaGreatHelaa
import Derived.Test.YtehafggcncbnkaaGreatBasao
import Derived.Test.YtehafggcncbnkaaGreatBasas
import Derived.Test.YtehafggcncbnkaaGreatBasau
import Derived.Test.YtehafggcncbnkaaGreatBasaq
import Derived.Test.YtehafggcncbnkaaGreatBasar
import Derived.Test.YtehafggcncbnkaaGreatBasat
import Derived.Test.YtehafggcncbnkaaGreatBasav
import Derived.Test.YtehafggcncbnkaaGreatRows
import Derived.Test.YtehafggcncbnkaaGreatBasax
import Derived.ProofKit
namespace Go.Proofs.YtehafggcncbnkaaGreat
open Go Go.RowKit

set_option maxRecDepth 100000 in
set_option maxHeartbeats 16000000 in
theorem law_held_c (a b : Option Addr) (n cap len cap2 : Nat) (m : Nat → M5) (g : Nat → Int) (l c z : Int) (sure : Bool) (w : World) (hm : Metals w a n m) (hg : Shorts w b len g) (hgb : ∀ i, i < len → 0 ≤ g i ∧ g i ≤ 65535) (hz : 0 ≤ z ∧ z ≤ 255) :
    Calls Tryz.prog 12 #[.slice a n cap, .agg #[.int .i64 l, .int .i64 c], .bool sure, .slice b len cap2, .int .u8 z] w fun e w' => e = .returned (.bool true) ∧ Below w.heap.size w w' := by
  obtain ⟨W, hW⟩ : ∃ W, w.alloc (.cells #[.int .i64 l, .int .i64 c] 24) = W := ⟨_, rfl⟩
  have hB : Below w.heap.size w W := by rw [← hW]; exact (Below.alloc1 (Below.refl _ _) _ (Nat.le_refl _))
  have HT := Lib.hid (show RowIs W (w.heap.size) #[.int .i64 l, .int .i64 c] 24 by rw [← hW]; exact heap_new_at _ _ _ rfl)
  have HM := Lib.hid (hm.below hB)
  obtain ⟨bt, hbt⟩ : ∃ bt, w.heap.size = bt := ⟨_, rfl⟩
  rw [hbt] at HT
  have HG := Lib.hid (hg.below hB)
  clear hm hg
  have HFi := Lib.hid (fine_c a n cap m l c W HM.out)
  by_cases hfine : n ≤ 12 ∧ bothE n m l c = 0
  case neg =>
    have hd : decide (n ≤ 12 ∧ bothE n m l c = 0) = false := decide_eq_false hfine
    rw [hd] at HFi
    obtain ⟨tc0, tc1, _, _, tz⟩ := ratrow2 HT.out
    go_enter Tryz.func12, Tryz.ntmps12
    go_wp2_with fail
    refine HFi.out.mono ?_
    rintro e w1 ⟨rfl, hb1⟩
    go_wp2_with fail
    refine (works_c _).mono ?_
    rintro e wz ⟨rfl, hbz⟩
    go_wp2
    go_ret
    exact ⟨rfl, bup hB (bup hb1 hbz)⟩
  case pos =>
  have hd : decide (n ≤ 12 ∧ bothE n m l c = 0) = true := decide_eq_true hfine
  rw [hd] at HFi
  by_cases hl : len ≤ 20
  case neg =>
    have hlt0 : decide ((20 : Int) < (len : Int)) = true := by simp; omega
    obtain ⟨tc0, tc1, _, _, tz⟩ := ratrow2 HT.out
    go_enter Tryz.func12, Tryz.ntmps12
    go_wp2_with fail
    refine HFi.out.mono ?_
    rintro e w1 ⟨rfl, hb1⟩
    go_wp2_with fail
    refine (works_c _).mono ?_
    rintro e wz ⟨rfl, hbz⟩
    go_wp2
    go_ret
    exact ⟨rfl, bup hB (bup hb1 hbz)⟩
  case pos =>
  have hlt0 : decide ((20 : Int) < (len : Int)) = false := by simp; omega
  have hbo := hfine.2
  have hmet := (both_ok hbo).1
  have hF := fine_of hmet
  have hn16 : 1 ≤ n ∧ n ≤ 6 := ⟨hF.1, hF.2.1⟩
  have hn12 : n ≤ 12 := by omega
  have hn : n ≤ 1048576 := by omega
  obtain ⟨A, hA⟩ : ∃ A, mixedF n len g = A := ⟨_, rfl⟩
  have hAb : ∀ i, 0 ≤ A i ∧ A i ≤ 65535 := by rw [← hA]; exact mixed_bd (by omega) hgb
  have hAp : 0 < sumF A n := by rw [← hA]; exact mixed_pos hn16.1 (by omega) hgb
  have hA6 : ∀ i, i < n → 0 ≤ A i ∧ A i ≤ 1000000 := fun i _ => by have := hAb i; omega
  have hAn : ∀ i, i < n → 0 ≤ A i := fun i _ => (hAb i).1
  obtain ⟨k, hk⟩ : ∃ k : Nat, z % (n : Int) = (k : Int) := ⟨(z % (n : Int)).toNat, by have := Int.emod_nonneg z (show (n : Int) ≠ 0 by omega); omega⟩
  have hkn : k < n := by have := Int.emod_lt_of_pos z (show (0 : Int) < n by omega); omega
  have hk6 : k < 6 := by omega
  have hmodT : Int.tmod z (n : Int) = (k : Int) := by rw [Int.tmod_eq_emod_of_nonneg hz.1]; exact hk
  have hDA := deserves_of (s := sure) hbo hA6 hAp
  obtain ⟨hsA, -⟩ := share_small hn16.2 hkn hA6 hAp
  obtain ⟨y1, hy1⟩ : ∃ x, ratN (A k) (sumF A n) = x := ⟨_, rfl⟩
  obtain ⟨y2, hy2⟩ : ∃ x, ratD (A k) (sumF A n) = x := ⟨_, rfl⟩
  have HY := Lib.hid (show ratN (A k) (sumF A n) = y1 ∧ ratD (A k) (sumF A n) = y2 from ⟨hy1, hy2⟩)
  rw [hy1, hy2] at hsA
  have HDA := Lib.hid hDA
  have HsA := Lib.hid hsA
  have Hgb := Lib.hid hgb
  have HAp := Lib.hid hAp
  have HAn := Lib.hid hAn
  have HA6 := Lib.hid hA6
  have Hkn := Lib.hid hkn
  clear hgb hAb hA6 hAp hAn hDA hsA hy1 hy2
  have hcases := share_cases hbo sure hkn
  have hcases2 := least_cases hbo sure
  rcases hcases with ⟨hSh, hbn, hnil⟩ | ⟨fs, ft, hSh, hspan⟩
  · have hgA : deservesE n m l c sure n A = 17 := by rw [HDA.out, hnil A HAn.out HAp.out]; rfl
    have hch : cheapE n m l c sure = 17 := by unfold cheapE; rw [if_neg (by omega), hbn]; rfl
    clear hcases2
    obtain ⟨tc0, tc1, _, _, tz⟩ := ratrow2 HT.out
    go_enter Tryz.func12, Tryz.ntmps12
    go_wp2_with fail
    refine HFi.out.mono ?_
    rintro e w1 ⟨rfl, hb1⟩
    clear tc0 tc1 tz hW hbt
    replace HM := Lib.hid (HM.out.below hb1)
    replace HT := Lib.hid (RowIs.below HT.out hb1)
    replace HG := Lib.hid (HG.out.below hb1)
    replace hB := bup hB hb1
    go_wp2_with fail
    clear hb1
    refine (mixed_c b n len cap2 g w1 HG.out hn16 hl Hgb.out).mono ?_
    rintro e w1 ⟨gHA, cHA, gHAl, gHAz, rfl, hHA0, hw2⟩
    replace HM := Lib.hid (HM.out.below hw2)
    replace HT := Lib.hid (RowIs.below HT.out hw2)
    replace HG := Lib.hid (HG.out.below hw2)
    replace hB := bup hB hw2
    rw [hA] at hHA0
    have HA := Lib.hid hHA0
    clear hHA0 gHAl gHAz
    have hC3 := Share_c a n cap m l c sure k w1 HM.out hn (by omega)
    rw [hSh] at hC3
    try dsimp only [re2, re3, proofV, zeroP] at hC3
    have C3 := Lib.hid hC3
    clear hC3
    obtain ⟨tc0, tc1, _, _, tz⟩ := ratrow2 HT.out
    go_wp2_with fail
    clear hw2 tc0 tc1 tz
    refine C3.out.mono ?_
    rintro e w4 ⟨rfl, hw5⟩
    clear C3
    replace HM := Lib.hid (HM.out.below hw5)
    replace HT := Lib.hid (RowIs.below HT.out hw5)
    replace HG := Lib.hid (HG.out.below hw5)
    replace HA := Lib.hid (HA.out.below hw5)
    replace hB := bup hB hw5
    obtain ⟨Y6, hY6⟩ : ∃ Y6, (w4.alloc (.cells #[.int .i64 0, .int .i64 0] 29)).alloc (.cells #[.int .i64 0, .int .i64 0] 29) = Y6 := ⟨_, rfl⟩
    have hy7 : Below w4.heap.size w4 Y6 := by rw [← hY6]; exact Below.alloc1 (Below.alloc1 (Below.refl _ _) _ (Nat.le_refl _)) _ (Nat.le_refl _)
    have r1Y6 : RowIs Y6 w4.heap.size #[.int .i64 0, .int .i64 0] 29 := by rw [← hY6]; exact RowIs.alloc (heap_new_at _ _ _ rfl) _
    have r2Y6 : RowIs Y6 (w4.heap.size + 1) #[.int .i64 0, .int .i64 0] 29 := by rw [← hY6]; exact heap_new_at _ _ _ (by simp)
    obtain ⟨uY60, uY61, uY62, uY63, uY64⟩ := ratrow2 r1Y6
    obtain ⟨xY60, xY61, xY62, xY63, xY64⟩ := ratrow2 r2Y6
    obtain ⟨Z8, hZ8⟩ : ∃ Z8, (((Y6.setCell ⟨w4.heap.size, 0, none⟩ (.int .i64 0)).setCell ⟨w4.heap.size, 1, none⟩ (.int .i64 0)).setCell ⟨w4.heap.size + 1, 0, none⟩ (.int .i64 0)).setCell ⟨w4.heap.size + 1, 1, none⟩ (.int .i64 0) = Z8 := ⟨_, rfl⟩
    have hzZ8 : Below w4.heap.size w4 Z8 := hy7.trans (by rw [← hZ8]; exact (((((Below.refl _ Y6).setCell (p := ⟨w4.heap.size, 0, none⟩) (Nat.le_refl _) _).setCell (p := ⟨w4.heap.size, 1, none⟩) (Nat.le_refl _) _).setCell (p := ⟨w4.heap.size + 1, 0, none⟩) (Nat.le_succ _) _).setCell (p := ⟨w4.heap.size + 1, 1, none⟩) (Nat.le_succ _) _))
    replace HM := Lib.hid (HM.out.below hzZ8)
    replace HT := Lib.hid (RowIs.below HT.out hzZ8)
    replace HG := Lib.hid (HG.out.below hzZ8)
    replace HA := Lib.hid (HA.out.below hzZ8)
    replace hB := bup hB hzZ8
    have hC9 := Cheapest_no_c a n cap m l c sure Z8 HM.out hn (by rw [hch]; decide)
    rw [hch] at hC9
    try dsimp only [re2, re3, proofV, zeroP] at hC9
    have C9 := Lib.hid hC9
    clear hC9
    obtain ⟨tc0, tc1, _, _, tz⟩ := ratrow2 HT.out
    go_wp2_with fail
    clear hw5 hY6 hy7 r1Y6 r2Y6 uY60 uY61 uY62 uY63 uY64 xY60 xY61 xY62 xY63 xY64 hZ8 hzZ8 tc0 tc1 tz
    refine C9.out.mono ?_
    rintro e w10 ⟨rfl, hw11⟩
    clear C9
    replace HM := Lib.hid (HM.out.below hw11)
    replace HT := Lib.hid (RowIs.below HT.out hw11)
    replace HG := Lib.hid (HG.out.below hw11)
    replace HA := Lib.hid (HA.out.below hw11)
    replace hB := bup hB hw11
    have hC12 := Deserves_c a (some ⟨gHA, 0, none⟩) n cap n cHA m A l c sure w10 HM.out HA.out hn hn
    rw [hgA] at hC12
    try dsimp only [re2, re3, proofV, zeroP] at hC12
    have C12 := Lib.hid hC12
    clear hC12
    obtain ⟨tc0, tc1, _, _, tz⟩ := ratrow2 HT.out
    go_wp2_with fail
    clear hw11 tc0 tc1 tz
    refine C12.out.mono ?_
    rintro e w13 ⟨rfl, hw14⟩
    clear C12
    replace HM := Lib.hid (HM.out.below hw14)
    replace HT := Lib.hid (RowIs.below HT.out hw14)
    replace HG := Lib.hid (HG.out.below hw14)
    replace HA := Lib.hid (HA.out.below hw14)
    replace hB := bup hB hw14
    go_wp2_with fail
    refine (works_c _).mono ?_
    rintro e wz ⟨rfl, hbz⟩
    go_wp2
    go_ret
    exact ⟨rfl, bup hB hbz⟩
  · rcases hcases2 with ⟨_, _, hnil⟩ | ⟨f0, hbs, _, hlow⟩
    · exact absurd (hnil fs (fun i _ => (hspan.mixf.1 i).1) hspan.mixf.2.2) (by rw [hspan.goodf]; simp)
    have hfs : ∀ i, i < n → 0 ≤ fs i ∧ fs i ≤ 1000000 := fun i _ => hspan.mixf.1 i
    have hft : ∀ i, i < n → 0 ≤ ft i ∧ ft i ≤ 1000000 := fun i _ => hspan.mixh.1 i
    have hf0 : ∀ i, i < n → 0 ≤ f0 i ∧ f0 i ≤ 1000000 := fun i _ => hlow.mix.1 i
    have hf0b : ∀ i, i < n → -1099511627776 ≤ f0 i ∧ f0 i ≤ 1099511627776 := fun i hi => by have := hf0 i hi; omega
    have hAb2 : ∀ i, i < n → -1099511627776 ≤ A i ∧ A i ≤ 1099511627776 := fun i hi => by have := HA6.out i hi; omega
    have hS0 : sumF f0 n ≤ 6000000 := by have := (sumF_nn f0 1000000 n hf0).2; have := hn16.2; omega
    have hSA : sumF A n ≤ 6000000 := by have := (sumF_nn A 1000000 n HA6.out).2; have := hn16.2; omega
    have hB1c := fun (x : World) => by_c (f0 k) (sumF f0 n) x (by have := hf0 k Hkn.out; omega) (by have := hf0 k Hkn.out; omega) hlow.mix.2.2 (by omega)
    have hB2c := fun (x : World) => by_c (A k) (sumF A n) x (by have := HA6.out k Hkn.out; omega) (by have := HA6.out k Hkn.out; omega) HAp.out (by omega)
    obtain ⟨hss, -⟩ := share_small hn16.2 Hkn.out hfs hspan.mixf.2.2
    obtain ⟨hst, hle⟩ := share_small hn16.2 Hkn.out hft hspan.mixh.2.2
    obtain ⟨hsx, -⟩ := share_small hn16.2 Hkn.out hf0 hlow.mix.2.2
    have hl1 : ltB (ratN (ft k) (sumF ft n)) (ratD (ft k) (sumF ft n)) (ratN (fs k) (sumF fs n)) (ratD (fs k) (sumF fs n)) = false := by
      rw [ltB_rat hspan.mixh.2.2 hspan.mixf.2.2]
      have := hspan.low ft (fun i hi => (hft i hi).1) hspan.goodh
      exact decide_eq_false (by omega)
    have hl2 : ltB (ratN (f0 k) (sumF f0 n)) (ratD (f0 k) (sumF f0 n)) (ratN (fs k) (sumF fs n)) (ratD (fs k) (sumF fs n)) = false := by
      rw [ltB_rat hlow.mix.2.2 hspan.mixf.2.2]
      have := hspan.low f0 (fun i hi => (hf0 i hi).1) hlow.good
      exact decide_eq_false (by omega)
    have hl3 : ltB (ratN (ft k) (sumF ft n)) (ratD (ft k) (sumF ft n)) (ratN (f0 k) (sumF f0 n)) (ratD (f0 k) (sumF f0 n)) = false := by
      rw [ltB_rat hspan.mixh.2.2 hlow.mix.2.2]
      have := hspan.high f0 (fun i hi => (hf0 i hi).1) hlow.good
      exact decide_eq_false (by omega)
    have hl4 : goodB sure n m l c A = true → ltB y1 y2 (ratN (fs k) (sumF fs n)) (ratD (fs k) (sumF fs n)) = false := fun hgd => by
      rw [← HY.out.1, ← HY.out.2, ltB_rat HAp.out hspan.mixf.2.2]
      have := hspan.low A HAn.out hgd
      exact decide_eq_false (by omega)
    have hl5 : goodB sure n m l c A = true → ltB (ratN (ft k) (sumF ft n)) (ratD (ft k) (sumF ft n)) y1 y2 = false := fun hgd => by
      rw [← HY.out.1, ← HY.out.2, ltB_rat hspan.mixh.2.2 HAp.out]
      have := hspan.high A HAn.out hgd
      exact decide_eq_false (by omega)
    have HDf := Lib.hid (show deservesE n m l c sure n f0 = 0 by rw [deserves_of hbo hf0 hlow.mix.2.2, hlow.good]; rfl)
    have hB2d := hB2c
    simp only [ratV, HY.out.1, HY.out.2] at hB2d
    replace hB2c := hB2d
    obtain ⟨s1, hs1⟩ : ∃ x, ratN (fs k) (sumF fs n) = x := ⟨_, rfl⟩
    obtain ⟨s2, hs2⟩ : ∃ x, ratD (fs k) (sumF fs n) = x := ⟨_, rfl⟩
    obtain ⟨t1, ht1⟩ : ∃ x, ratN (ft k) (sumF ft n) = x := ⟨_, rfl⟩
    obtain ⟨t2, ht2⟩ : ∃ x, ratD (ft k) (sumF ft n) = x := ⟨_, rfl⟩
    obtain ⟨x1, hx1⟩ : ∃ x, ratN (f0 k) (sumF f0 n) = x := ⟨_, rfl⟩
    obtain ⟨x2, hx2⟩ : ∃ x, ratD (f0 k) (sumF f0 n) = x := ⟨_, rfl⟩
    simp only [shareOf, hs1, hs2, ht1, ht2] at hSh
    simp only [ratV, hs1, hs2, ht1, ht2, hx1, hx2] at hss hst hsx hle hl1 hl2 hl3 hl4 hl5 hB1c
    have hgt : decide (t2 < t1) = false := decide_eq_false (by omega)
    clear hfs hft hf0 hs1 hs2 ht1 ht2 hx1 hx2 hle hB2d hspan
    cases hgd : goodB sure n m l c A
    case true =>
      have hgA : deservesE n m l c sure n A = 0 := by rw [HDA.out, hgd]; rfl
      replace hl4 := hl4 hgd
      replace hl5 := hl5 hgd
      obtain ⟨tc0, tc1, _, _, tz⟩ := ratrow2 HT.out
      go_enter Tryz.func12, Tryz.ntmps12
      go_wp2_with fail
      refine HFi.out.mono ?_
      rintro e w1 ⟨rfl, hb1⟩
      clear tc0 tc1 tz hW hbt
      replace HM := Lib.hid (HM.out.below hb1)
      replace HT := Lib.hid (RowIs.below HT.out hb1)
      replace HG := Lib.hid (HG.out.below hb1)
      replace hB := bup hB hb1
      go_wp2_with fail
      clear hb1
      refine (mixed_c b n len cap2 g w1 HG.out hn16 hl Hgb.out).mono ?_
      rintro e w15 ⟨gHA, cHA, gHAl, gHAz, rfl, hHA0, hw16⟩
      replace HM := Lib.hid (HM.out.below hw16)
      replace HT := Lib.hid (RowIs.below HT.out hw16)
      replace HG := Lib.hid (HG.out.below hw16)
      replace hB := bup hB hw16
      rw [hA] at hHA0
      have HA := Lib.hid hHA0
      clear hHA0 gHAl gHAz
      have hC17 := Share_c a n cap m l c sure k w15 HM.out hn (by omega)
      rw [hSh] at hC17
      try dsimp only [re2, re3, proofV, zeroP] at hC17
      have C17 := Lib.hid hC17
      clear hC17
      obtain ⟨tc0, tc1, _, _, tz⟩ := ratrow2 HT.out
      go_wp2_with fail
      clear hw16 tc0 tc1 tz
      refine C17.out.mono ?_
      rintro e w18 ⟨rfl, hw19⟩
      clear C17
      replace HM := Lib.hid (HM.out.below hw19)
      replace HT := Lib.hid (RowIs.below HT.out hw19)
      replace HG := Lib.hid (HG.out.below hw19)
      replace HA := Lib.hid (HA.out.below hw19)
      replace hB := bup hB hw19
      obtain ⟨Y20, hY20⟩ : ∃ Y20, (w18.alloc (.cells #[.int .i64 s1, .int .i64 s2] 29)).alloc (.cells #[.int .i64 t1, .int .i64 t2] 29) = Y20 := ⟨_, rfl⟩
      have hy21 : Below w18.heap.size w18 Y20 := by rw [← hY20]; exact Below.alloc1 (Below.alloc1 (Below.refl _ _) _ (Nat.le_refl _)) _ (Nat.le_refl _)
      replace HM := Lib.hid (HM.out.below hy21)
      replace HT := Lib.hid (RowIs.below HT.out hy21)
      replace HG := Lib.hid (HG.out.below hy21)
      replace HA := Lib.hid (HA.out.below hy21)
      replace hB := bup hB hy21
      have RS := Lib.hid (show RowIs Y20 w18.heap.size #[.int .i64 s1, .int .i64 s2] 29 by rw [← hY20]; exact RowIs.alloc (heap_new_at _ _ _ rfl) _)
      have RTT := Lib.hid (show RowIs Y20 (w18.heap.size + 1) #[.int .i64 t1, .int .i64 t2] 29 by rw [← hY20]; exact heap_new_at _ _ _ (by simp))
      obtain ⟨bRS, hbRS⟩ : ∃ bRS, w18.heap.size = bRS := ⟨_, rfl⟩
      rw [hbRS] at RS RTT
      have hC22 := Cheapest_yes_c a n cap m l c sure f0 Y20 HM.out hn hbo hbs
      try dsimp only [re2, re3, proofV, zeroP] at hC22
      have C22 := Lib.hid hC22
      clear hC22
      obtain ⟨tc0, tc1, _, _, tz⟩ := ratrow2 HT.out
      go_wp2_with fail
      clear hw19 hY20 hy21 hbRS tc0 tc1 tz
      refine C22.out.mono ?_
      rintro e w23 ⟨gq, hgq, hgz, rfl, HQ0, hw24⟩
      clear C22
      replace HM := Lib.hid (HM.out.below hw24)
      replace HT := Lib.hid (RowIs.below HT.out hw24)
      replace HG := Lib.hid (HG.out.below hw24)
      replace HA := Lib.hid (HA.out.below hw24)
      replace RS := Lib.hid (RowIs.below RS.out hw24)
      replace RTT := Lib.hid (RowIs.below RTT.out hw24)
      replace hB := bup hB hw24
      have HQ := Lib.hid HQ0
      clear HQ0 hgq hgz
      have hC25 := small_c s1 s2 w23 hss
      try dsimp only [re2, re3, proofV, zeroP] at hC25
      have C25 := Lib.hid hC25
      clear hC25
      obtain ⟨v260, v261, _, _, v26z⟩ := ratrow2 RS.out
      obtain ⟨v270, v271, _, _, v27z⟩ := ratrow2 RTT.out
      go_wp2_with fail
      clear hw24 v260 v261 v26z v270 v271 v27z
      refine C25.out.mono ?_
      rintro e w28 ⟨rfl, hw29⟩
      clear C25
      replace HM := Lib.hid (HM.out.below hw29)
      replace HT := Lib.hid (RowIs.below HT.out hw29)
      replace HG := Lib.hid (HG.out.below hw29)
      replace HA := Lib.hid (HA.out.below hw29)
      replace RS := Lib.hid (RowIs.below RS.out hw29)
      replace RTT := Lib.hid (RowIs.below RTT.out hw29)
      replace HQ := Lib.hid (HQ.out.below hw29)
      replace hB := bup hB hw29
      have hC30 := small_c t1 t2 w28 hst
      try dsimp only [re2, re3, proofV, zeroP] at hC30
      have C30 := Lib.hid hC30
      clear hC30
      obtain ⟨v310, v311, _, _, v31z⟩ := ratrow2 RS.out
      obtain ⟨v320, v321, _, _, v32z⟩ := ratrow2 RTT.out
      go_wp2_with fail
      clear hw29 v310 v311 v31z v320 v321 v32z
      refine C30.out.mono ?_
      rintro e w33 ⟨rfl, hw34⟩
      clear C30
      replace HM := Lib.hid (HM.out.below hw34)
      replace HT := Lib.hid (RowIs.below HT.out hw34)
      replace HG := Lib.hid (HG.out.below hw34)
      replace HA := Lib.hid (HA.out.below hw34)
      replace RS := Lib.hid (RowIs.below RS.out hw34)
      replace RTT := Lib.hid (RowIs.below RTT.out hw34)
      replace HQ := Lib.hid (HQ.out.below hw34)
      replace hB := bup hB hw34
      have hC35 := less_small hst hss w33
      rw [hl1] at hC35
      try dsimp only [re2, re3, proofV, zeroP] at hC35
      have C35 := Lib.hid hC35
      clear hC35
      obtain ⟨v360, v361, _, _, v36z⟩ := ratrow2 RS.out
      obtain ⟨v370, v371, _, _, v37z⟩ := ratrow2 RTT.out
      go_wp2_with fail
      clear hw34 v360 v361 v36z v370 v371 v37z
      refine C35.out.mono ?_
      rintro e w38 ⟨rfl, hw39⟩
      clear C35
      replace HM := Lib.hid (HM.out.below hw39)
      replace HT := Lib.hid (RowIs.below HT.out hw39)
      replace HG := Lib.hid (HG.out.below hw39)
      replace HA := Lib.hid (HA.out.below hw39)
      replace RS := Lib.hid (RowIs.below RS.out hw39)
      replace RTT := Lib.hid (RowIs.below RTT.out hw39)
      replace HQ := Lib.hid (HQ.out.below hw39)
      replace hB := bup hB hw39
      have hC40 := rdeserves_c a (some ⟨gq, 0, none⟩) n cap n n m f0 l c sure w38 HM.out HQ.out hn hn
      rw [HDf.out] at hC40
      try dsimp only [re2, re3, proofV, zeroP] at hC40
      have C40 := Lib.hid hC40
      clear hC40
      obtain ⟨tc0, tc1, _, _, tz⟩ := ratrow2 HT.out
      obtain ⟨v410, v411, _, _, v41z⟩ := ratrow2 RTT.out
      go_wp2_with fail
      clear hw39 tc0 tc1 tz v410 v411 v41z
      refine C40.out.mono ?_
      rintro e w42 ⟨rfl, hw43⟩
      clear C40
      replace HM := Lib.hid (HM.out.below hw43)
      replace HT := Lib.hid (RowIs.below HT.out hw43)
      replace HG := Lib.hid (HG.out.below hw43)
      replace HA := Lib.hid (HA.out.below hw43)
      replace RS := Lib.hid (RowIs.below RS.out hw43)
      replace RTT := Lib.hid (RowIs.below RTT.out hw43)
      replace HQ := Lib.hid (HQ.out.below hw43)
      replace hB := bup hB hw43
      obtain ⟨tc0, tc1, _, _, tz⟩ := ratrow2 HT.out
      go_wp2_with fail
      clear hw43 tc0 tc1 tz
      have KS1 := Lib.hid (fun (x : World) (hx : Below w42.heap.size w42 x) => sum_c (some ⟨gq, 0, none⟩) n n f0 x (HQ.out.below hx) hn hf0b)
      have KS2 := Lib.hid (fun (x : World) (hx : Below w42.heap.size w42 x) => sum_c (some ⟨gHA, 0, none⟩) n cHA A x (HA.out.below hx) hn hAb2)
      have KB1 := Lib.hid hB1c
      have KB2 := Lib.hid hB2c
      obtain ⟨bq, oq, hqe, hqs, hqc⟩ := Cells.at HQ.out k Hkn.out
      cases hqe
      obtain ⟨bA, oA, hAe, hAs, hAc⟩ := Cells.at HA.out k Hkn.out
      cases hAe
      have cq := hqc k Hkn.out
      have ca := hAc k Hkn.out
      simp only [Nat.zero_add] at cq ca
      clear hqc hAc
      have hkn' := Hkn.out
      have hcs : gq < w42.heap.size := hqs
      have hca : gHA < w42.heap.size := hAs
      refine wp_region_float2 14 18 19 151 (.cells #[.int .i64 0, .int .i64 0] 29 (0, 0)) (.cells #[.int .i64 0, .int .i64 0] 29 (0, 0)) _ _ (by kernel_rfl) (by kernel_rfl) rfl rfl rfl rfl rfl rfl (by decide) ?hal ?hbl (by kernel_rfl) (by kernel_rfl) rfl rfl rfl ?_
      case hal => intro a w; go_simp
      case hbl => intro a w; go_simp
      simp only [List.take_succ_cons, List.take_zero, List.drop_succ_cons, List.drop_zero]
      apply Exists.intro
      refine ⟨fun wl hbl K hK => ?_, ?_⟩
      · have hlc := fun (x : Later wl) => later_cell2 hbl x
        repeat (go_big_quiet_step ((first | (with_reducible refine calls_later_same (KS1.out _ (hbl.trans ((Later.h _).mono hbl.size)))) | (with_reducible refine calls_later_same (KS2.out _ (hbl.trans ((Later.h _).mono hbl.size)))) | (with_reducible refine calls_later (KB1.out _)) | (with_reducible refine calls_later (KB2.out _)))))
        exact wpQuiet_nil hK
      intro b1 b2 wv hv1 hv2 hvn hvb hvz1 hvz2
      clear KS1 KS2 KB1 KB2 cq ca hcs hca hqs hAs
      have p1 : RowIs wv b1 #[.int .i64 0, .int .i64 0] 29 := hvz1
      have p2 : RowIs wv b2 #[.int .i64 0, .int .i64 0] 29 := hvz2
      obtain ⟨pc0, pc1, pc2, pc3, pc4⟩ := ratrow2 p1
      obtain ⟨pd0, pd1, pd2, pd3, pd4⟩ := ratrow2 p2
      have hvn2 : b2 ≠ b1 := Ne.symm hvn
      obtain ⟨Z, hZ⟩ : ∃ Z, (((wv.setCell ⟨b1, 0, none⟩ (.int .i64 x1)).setCell ⟨b1, 1, none⟩ (.int .i64 x2)).setCell ⟨b2, 0, none⟩ (.int .i64 y1)).setCell ⟨b2, 1, none⟩ (.int .i64 y2) = Z := ⟨_, rfl⟩
      have q1 : RowIs (put2 wv b1 x1 x2) b2 #[.int .i64 0, .int .i64 0] 29 := (put2_other hvn2 x1 x2).trans p2
      have q2 : RowIs (put2 (put2 wv b1 x1 x2) b2 y1 y2) b1 #[.int .i64 x1, .int .i64 x2] 29 := (put2_other hvn y1 y2).trans (put2_row p1 x1 x2)
      have RX := Lib.hid (show RowIs Z b1 #[.int .i64 x1, .int .i64 x2] 29 by rw [← hZ]; exact q2)
      have RY := Lib.hid (show RowIs Z b2 #[.int .i64 y1, .int .i64 y2] 29 by rw [← hZ]; exact put2_row q1 y1 y2)
      have hbZ : Below w42.heap.size w42 Z := by rw [← hZ]; exact ((((hvb.setCell (p := ⟨b1, 0, none⟩) hv1 _).setCell (p := ⟨b1, 1, none⟩) hv1 _).setCell (p := ⟨b2, 0, none⟩) hv2 _).setCell (p := ⟨b2, 1, none⟩) hv2 _)
      clear q1 q2 p1 p2 hvz1 hvz2 hv1 hv2 hvb
      replace HM := Lib.hid (HM.out.below hbZ)
      replace HT := Lib.hid (RowIs.below HT.out hbZ)
      replace HG := Lib.hid (HG.out.below hbZ)
      replace HA := Lib.hid (HA.out.below hbZ)
      replace RS := Lib.hid (RowIs.below RS.out hbZ)
      replace RTT := Lib.hid (RowIs.below RTT.out hbZ)
      replace HQ := Lib.hid (HQ.out.below hbZ)
      replace hB := bup hB hbZ
      have hC44 := less_small hsx hss Z
      rw [hl2] at hC44
      try dsimp only [re2, re3, proofV, zeroP] at hC44
      have C44 := Lib.hid hC44
      clear hC44
      obtain ⟨v450, v451, _, _, v45z⟩ := ratrow2 RX.out
      obtain ⟨v460, v461, _, _, v46z⟩ := ratrow2 RS.out
      obtain ⟨v470, v471, _, _, v47z⟩ := ratrow2 RTT.out
      go_wp2_with fail
      clear hbZ hZ pc0 pc1 pc2 pc3 pc4 pd0 pd1 pd2 pd3 pd4 hvn hvn2 v450 v451 v45z v460 v461 v46z v470 v471 v47z
      refine C44.out.mono ?_
      rintro e w48 ⟨rfl, hw49⟩
      clear C44
      replace HM := Lib.hid (HM.out.below hw49)
      replace HT := Lib.hid (RowIs.below HT.out hw49)
      replace HG := Lib.hid (HG.out.below hw49)
      replace HA := Lib.hid (HA.out.below hw49)
      replace RS := Lib.hid (RowIs.below RS.out hw49)
      replace RTT := Lib.hid (RowIs.below RTT.out hw49)
      replace HQ := Lib.hid (HQ.out.below hw49)
      replace RX := Lib.hid (RowIs.below RX.out hw49)
      replace RY := Lib.hid (RowIs.below RY.out hw49)
      replace hB := bup hB hw49
      have hC50 := less_small hst hsx w48
      rw [hl3] at hC50
      try dsimp only [re2, re3, proofV, zeroP] at hC50
      have C50 := Lib.hid hC50
      clear hC50
      obtain ⟨v510, v511, _, _, v51z⟩ := ratrow2 RX.out
      obtain ⟨v520, v521, _, _, v52z⟩ := ratrow2 RS.out
      obtain ⟨v530, v531, _, _, v53z⟩ := ratrow2 RTT.out
      go_wp2_with fail
      clear hw49 v510 v511 v51z v520 v521 v52z v530 v531 v53z
      refine C50.out.mono ?_
      rintro e w54 ⟨rfl, hw55⟩
      clear C50
      replace HM := Lib.hid (HM.out.below hw55)
      replace HT := Lib.hid (RowIs.below HT.out hw55)
      replace HG := Lib.hid (HG.out.below hw55)
      replace HA := Lib.hid (HA.out.below hw55)
      replace RS := Lib.hid (RowIs.below RS.out hw55)
      replace RTT := Lib.hid (RowIs.below RTT.out hw55)
      replace HQ := Lib.hid (HQ.out.below hw55)
      replace RX := Lib.hid (RowIs.below RX.out hw55)
      replace RY := Lib.hid (RowIs.below RY.out hw55)
      replace hB := bup hB hw55
      have hC56 := Deserves_c a (some ⟨gHA, 0, none⟩) n cap n cHA m A l c sure w54 HM.out HA.out hn hn
      rw [hgA] at hC56
      try dsimp only [re2, re3, proofV, zeroP] at hC56
      have C56 := Lib.hid hC56
      clear hC56
      obtain ⟨tc0, tc1, _, _, tz⟩ := ratrow2 HT.out
      go_wp2_with fail
      clear hw55 tc0 tc1 tz
      refine C56.out.mono ?_
      rintro e w57 ⟨rfl, hw58⟩
      clear C56
      replace HM := Lib.hid (HM.out.below hw58)
      replace HT := Lib.hid (RowIs.below HT.out hw58)
      replace HG := Lib.hid (HG.out.below hw58)
      replace HA := Lib.hid (HA.out.below hw58)
      replace RS := Lib.hid (RowIs.below RS.out hw58)
      replace RTT := Lib.hid (RowIs.below RTT.out hw58)
      replace HQ := Lib.hid (HQ.out.below hw58)
      replace RX := Lib.hid (RowIs.below RX.out hw58)
      replace RY := Lib.hid (RowIs.below RY.out hw58)
      replace hB := bup hB hw58
      have hC59 := less_small HsA.out hss w57
      rw [hl4] at hC59
      try dsimp only [re2, re3, proofV, zeroP] at hC59
      have C59 := Lib.hid hC59
      clear hC59
      obtain ⟨v600, v601, _, _, v60z⟩ := ratrow2 RY.out
      obtain ⟨v610, v611, _, _, v61z⟩ := ratrow2 RS.out
      obtain ⟨v620, v621, _, _, v62z⟩ := ratrow2 RTT.out
      go_wp2_with fail
      clear hw58 v600 v601 v60z v610 v611 v61z v620 v621 v62z
      refine C59.out.mono ?_
      rintro e w63 ⟨rfl, hw64⟩
      clear C59
      replace HM := Lib.hid (HM.out.below hw64)
      replace HT := Lib.hid (RowIs.below HT.out hw64)
      replace HG := Lib.hid (HG.out.below hw64)
      replace HA := Lib.hid (HA.out.below hw64)
      replace RS := Lib.hid (RowIs.below RS.out hw64)
      replace RTT := Lib.hid (RowIs.below RTT.out hw64)
      replace HQ := Lib.hid (HQ.out.below hw64)
      replace RX := Lib.hid (RowIs.below RX.out hw64)
      replace RY := Lib.hid (RowIs.below RY.out hw64)
      replace hB := bup hB hw64
      have hC65 := less_small hst HsA.out w63
      rw [hl5] at hC65
      try dsimp only [re2, re3, proofV, zeroP] at hC65
      have C65 := Lib.hid hC65
      clear hC65
      obtain ⟨v660, v661, _, _, v66z⟩ := ratrow2 RY.out
      obtain ⟨v670, v671, _, _, v67z⟩ := ratrow2 RS.out
      obtain ⟨v680, v681, _, _, v68z⟩ := ratrow2 RTT.out
      go_wp2_with fail
      clear hw64 v660 v661 v66z v670 v671 v67z v680 v681 v68z
      refine C65.out.mono ?_
      rintro e w69 ⟨rfl, hw70⟩
      clear C65
      replace HM := Lib.hid (HM.out.below hw70)
      replace HT := Lib.hid (RowIs.below HT.out hw70)
      replace HG := Lib.hid (HG.out.below hw70)
      replace HA := Lib.hid (HA.out.below hw70)
      replace RS := Lib.hid (RowIs.below RS.out hw70)
      replace RTT := Lib.hid (RowIs.below RTT.out hw70)
      replace HQ := Lib.hid (HQ.out.below hw70)
      replace RX := Lib.hid (RowIs.below RX.out hw70)
      replace RY := Lib.hid (RowIs.below RY.out hw70)
      replace hB := bup hB hw70
      go_wp2_with fail
      refine (works_c _).mono ?_
      rintro e wz ⟨rfl, hbz⟩
      go_wp2
      go_ret
      exact ⟨rfl, bup hB hbz⟩
    case false =>
      have hgA : deservesE n m l c sure n A = 17 := by rw [HDA.out, hgd]; rfl
      clear hl4 hl5
      obtain ⟨tc0, tc1, _, _, tz⟩ := ratrow2 HT.out
      go_enter Tryz.func12, Tryz.ntmps12
      go_wp2_with fail
      refine HFi.out.mono ?_
      rintro e w1 ⟨rfl, hb1⟩
      clear tc0 tc1 tz hW hbt
      replace HM := Lib.hid (HM.out.below hb1)
      replace HT := Lib.hid (RowIs.below HT.out hb1)
      replace HG := Lib.hid (HG.out.below hb1)
      replace hB := bup hB hb1
      go_wp2_with fail
      clear hb1
      refine (mixed_c b n len cap2 g w1 HG.out hn16 hl Hgb.out).mono ?_
      rintro e w71 ⟨gHA, cHA, gHAl, gHAz, rfl, hHA0, hw72⟩
      replace HM := Lib.hid (HM.out.below hw72)
      replace HT := Lib.hid (RowIs.below HT.out hw72)
      replace HG := Lib.hid (HG.out.below hw72)
      replace hB := bup hB hw72
      rw [hA] at hHA0
      have HA := Lib.hid hHA0
      clear hHA0 gHAl gHAz
      have hC73 := Share_c a n cap m l c sure k w71 HM.out hn (by omega)
      rw [hSh] at hC73
      try dsimp only [re2, re3, proofV, zeroP] at hC73
      have C73 := Lib.hid hC73
      clear hC73
      obtain ⟨tc0, tc1, _, _, tz⟩ := ratrow2 HT.out
      go_wp2_with fail
      clear hw72 tc0 tc1 tz
      refine C73.out.mono ?_
      rintro e w74 ⟨rfl, hw75⟩
      clear C73
      replace HM := Lib.hid (HM.out.below hw75)
      replace HT := Lib.hid (RowIs.below HT.out hw75)
      replace HG := Lib.hid (HG.out.below hw75)
      replace HA := Lib.hid (HA.out.below hw75)
      replace hB := bup hB hw75
      obtain ⟨Y76, hY76⟩ : ∃ Y76, (w74.alloc (.cells #[.int .i64 s1, .int .i64 s2] 29)).alloc (.cells #[.int .i64 t1, .int .i64 t2] 29) = Y76 := ⟨_, rfl⟩
      have hy77 : Below w74.heap.size w74 Y76 := by rw [← hY76]; exact Below.alloc1 (Below.alloc1 (Below.refl _ _) _ (Nat.le_refl _)) _ (Nat.le_refl _)
      replace HM := Lib.hid (HM.out.below hy77)
      replace HT := Lib.hid (RowIs.below HT.out hy77)
      replace HG := Lib.hid (HG.out.below hy77)
      replace HA := Lib.hid (HA.out.below hy77)
      replace hB := bup hB hy77
      have RS := Lib.hid (show RowIs Y76 w74.heap.size #[.int .i64 s1, .int .i64 s2] 29 by rw [← hY76]; exact RowIs.alloc (heap_new_at _ _ _ rfl) _)
      have RTT := Lib.hid (show RowIs Y76 (w74.heap.size + 1) #[.int .i64 t1, .int .i64 t2] 29 by rw [← hY76]; exact heap_new_at _ _ _ (by simp))
      obtain ⟨bRS, hbRS⟩ : ∃ bRS, w74.heap.size = bRS := ⟨_, rfl⟩
      rw [hbRS] at RS RTT
      have hC78 := Cheapest_yes_c a n cap m l c sure f0 Y76 HM.out hn hbo hbs
      try dsimp only [re2, re3, proofV, zeroP] at hC78
      have C78 := Lib.hid hC78
      clear hC78
      obtain ⟨tc0, tc1, _, _, tz⟩ := ratrow2 HT.out
      go_wp2_with fail
      clear hw75 hY76 hy77 hbRS tc0 tc1 tz
      refine C78.out.mono ?_
      rintro e w79 ⟨gq, hgq, hgz, rfl, HQ0, hw80⟩
      clear C78
      replace HM := Lib.hid (HM.out.below hw80)
      replace HT := Lib.hid (RowIs.below HT.out hw80)
      replace HG := Lib.hid (HG.out.below hw80)
      replace HA := Lib.hid (HA.out.below hw80)
      replace RS := Lib.hid (RowIs.below RS.out hw80)
      replace RTT := Lib.hid (RowIs.below RTT.out hw80)
      replace hB := bup hB hw80
      have HQ := Lib.hid HQ0
      clear HQ0 hgq hgz
      have hC81 := small_c s1 s2 w79 hss
      try dsimp only [re2, re3, proofV, zeroP] at hC81
      have C81 := Lib.hid hC81
      clear hC81
      obtain ⟨v820, v821, _, _, v82z⟩ := ratrow2 RS.out
      obtain ⟨v830, v831, _, _, v83z⟩ := ratrow2 RTT.out
      go_wp2_with fail
      clear hw80 v820 v821 v82z v830 v831 v83z
      refine C81.out.mono ?_
      rintro e w84 ⟨rfl, hw85⟩
      clear C81
      replace HM := Lib.hid (HM.out.below hw85)
      replace HT := Lib.hid (RowIs.below HT.out hw85)
      replace HG := Lib.hid (HG.out.below hw85)
      replace HA := Lib.hid (HA.out.below hw85)
      replace RS := Lib.hid (RowIs.below RS.out hw85)
      replace RTT := Lib.hid (RowIs.below RTT.out hw85)
      replace HQ := Lib.hid (HQ.out.below hw85)
      replace hB := bup hB hw85
      have hC86 := small_c t1 t2 w84 hst
      try dsimp only [re2, re3, proofV, zeroP] at hC86
      have C86 := Lib.hid hC86
      clear hC86
      obtain ⟨v870, v871, _, _, v87z⟩ := ratrow2 RS.out
      obtain ⟨v880, v881, _, _, v88z⟩ := ratrow2 RTT.out
      go_wp2_with fail
      clear hw85 v870 v871 v87z v880 v881 v88z
      refine C86.out.mono ?_
      rintro e w89 ⟨rfl, hw90⟩
      clear C86
      replace HM := Lib.hid (HM.out.below hw90)
      replace HT := Lib.hid (RowIs.below HT.out hw90)
      replace HG := Lib.hid (HG.out.below hw90)
      replace HA := Lib.hid (HA.out.below hw90)
      replace RS := Lib.hid (RowIs.below RS.out hw90)
      replace RTT := Lib.hid (RowIs.below RTT.out hw90)
      replace HQ := Lib.hid (HQ.out.below hw90)
      replace hB := bup hB hw90
      have hC91 := less_small hst hss w89
      rw [hl1] at hC91
      try dsimp only [re2, re3, proofV, zeroP] at hC91
      have C91 := Lib.hid hC91
      clear hC91
      obtain ⟨v920, v921, _, _, v92z⟩ := ratrow2 RS.out
      obtain ⟨v930, v931, _, _, v93z⟩ := ratrow2 RTT.out
      go_wp2_with fail
      clear hw90 v920 v921 v92z v930 v931 v93z
      refine C91.out.mono ?_
      rintro e w94 ⟨rfl, hw95⟩
      clear C91
      replace HM := Lib.hid (HM.out.below hw95)
      replace HT := Lib.hid (RowIs.below HT.out hw95)
      replace HG := Lib.hid (HG.out.below hw95)
      replace HA := Lib.hid (HA.out.below hw95)
      replace RS := Lib.hid (RowIs.below RS.out hw95)
      replace RTT := Lib.hid (RowIs.below RTT.out hw95)
      replace HQ := Lib.hid (HQ.out.below hw95)
      replace hB := bup hB hw95
      have hC96 := rdeserves_c a (some ⟨gq, 0, none⟩) n cap n n m f0 l c sure w94 HM.out HQ.out hn hn
      rw [HDf.out] at hC96
      try dsimp only [re2, re3, proofV, zeroP] at hC96
      have C96 := Lib.hid hC96
      clear hC96
      obtain ⟨tc0, tc1, _, _, tz⟩ := ratrow2 HT.out
      obtain ⟨v970, v971, _, _, v97z⟩ := ratrow2 RTT.out
      go_wp2_with fail
      clear hw95 tc0 tc1 tz v970 v971 v97z
      refine C96.out.mono ?_
      rintro e w98 ⟨rfl, hw99⟩
      clear C96
      replace HM := Lib.hid (HM.out.below hw99)
      replace HT := Lib.hid (RowIs.below HT.out hw99)
      replace HG := Lib.hid (HG.out.below hw99)
      replace HA := Lib.hid (HA.out.below hw99)
      replace RS := Lib.hid (RowIs.below RS.out hw99)
      replace RTT := Lib.hid (RowIs.below RTT.out hw99)
      replace HQ := Lib.hid (HQ.out.below hw99)
      replace hB := bup hB hw99
      obtain ⟨tc0, tc1, _, _, tz⟩ := ratrow2 HT.out
      go_wp2_with fail
      clear hw99 tc0 tc1 tz
      have KS1 := Lib.hid (fun (x : World) (hx : Below w98.heap.size w98 x) => sum_c (some ⟨gq, 0, none⟩) n n f0 x (HQ.out.below hx) hn hf0b)
      have KS2 := Lib.hid (fun (x : World) (hx : Below w98.heap.size w98 x) => sum_c (some ⟨gHA, 0, none⟩) n cHA A x (HA.out.below hx) hn hAb2)
      have KB1 := Lib.hid hB1c
      have KB2 := Lib.hid hB2c
      obtain ⟨bq, oq, hqe, hqs, hqc⟩ := Cells.at HQ.out k Hkn.out
      cases hqe
      obtain ⟨bA, oA, hAe, hAs, hAc⟩ := Cells.at HA.out k Hkn.out
      cases hAe
      have cq := hqc k Hkn.out
      have ca := hAc k Hkn.out
      simp only [Nat.zero_add] at cq ca
      clear hqc hAc
      have hkn' := Hkn.out
      have hcs : gq < w98.heap.size := hqs
      have hca : gHA < w98.heap.size := hAs
      refine wp_region_float2 14 18 19 151 (.cells #[.int .i64 0, .int .i64 0] 29 (0, 0)) (.cells #[.int .i64 0, .int .i64 0] 29 (0, 0)) _ _ (by kernel_rfl) (by kernel_rfl) rfl rfl rfl rfl rfl rfl (by decide) ?hal ?hbl (by kernel_rfl) (by kernel_rfl) rfl rfl rfl ?_
      case hal => intro a w; go_simp
      case hbl => intro a w; go_simp
      simp only [List.take_succ_cons, List.take_zero, List.drop_succ_cons, List.drop_zero]
      apply Exists.intro
      refine ⟨fun wl hbl K hK => ?_, ?_⟩
      · have hlc := fun (x : Later wl) => later_cell2 hbl x
        repeat (go_big_quiet_step ((first | (with_reducible refine calls_later_same (KS1.out _ (hbl.trans ((Later.h _).mono hbl.size)))) | (with_reducible refine calls_later_same (KS2.out _ (hbl.trans ((Later.h _).mono hbl.size)))) | (with_reducible refine calls_later (KB1.out _)) | (with_reducible refine calls_later (KB2.out _)))))
        exact wpQuiet_nil hK
      intro b1 b2 wv hv1 hv2 hvn hvb hvz1 hvz2
      clear KS1 KS2 KB1 KB2 cq ca hcs hca hqs hAs
      have p1 : RowIs wv b1 #[.int .i64 0, .int .i64 0] 29 := hvz1
      have p2 : RowIs wv b2 #[.int .i64 0, .int .i64 0] 29 := hvz2
      obtain ⟨pc0, pc1, pc2, pc3, pc4⟩ := ratrow2 p1
      obtain ⟨pd0, pd1, pd2, pd3, pd4⟩ := ratrow2 p2
      have hvn2 : b2 ≠ b1 := Ne.symm hvn
      obtain ⟨Z, hZ⟩ : ∃ Z, (((wv.setCell ⟨b1, 0, none⟩ (.int .i64 x1)).setCell ⟨b1, 1, none⟩ (.int .i64 x2)).setCell ⟨b2, 0, none⟩ (.int .i64 y1)).setCell ⟨b2, 1, none⟩ (.int .i64 y2) = Z := ⟨_, rfl⟩
      have q1 : RowIs (put2 wv b1 x1 x2) b2 #[.int .i64 0, .int .i64 0] 29 := (put2_other hvn2 x1 x2).trans p2
      have q2 : RowIs (put2 (put2 wv b1 x1 x2) b2 y1 y2) b1 #[.int .i64 x1, .int .i64 x2] 29 := (put2_other hvn y1 y2).trans (put2_row p1 x1 x2)
      have RX := Lib.hid (show RowIs Z b1 #[.int .i64 x1, .int .i64 x2] 29 by rw [← hZ]; exact q2)
      have RY := Lib.hid (show RowIs Z b2 #[.int .i64 y1, .int .i64 y2] 29 by rw [← hZ]; exact put2_row q1 y1 y2)
      have hbZ : Below w98.heap.size w98 Z := by rw [← hZ]; exact ((((hvb.setCell (p := ⟨b1, 0, none⟩) hv1 _).setCell (p := ⟨b1, 1, none⟩) hv1 _).setCell (p := ⟨b2, 0, none⟩) hv2 _).setCell (p := ⟨b2, 1, none⟩) hv2 _)
      clear q1 q2 p1 p2 hvz1 hvz2 hv1 hv2 hvb
      replace HM := Lib.hid (HM.out.below hbZ)
      replace HT := Lib.hid (RowIs.below HT.out hbZ)
      replace HG := Lib.hid (HG.out.below hbZ)
      replace HA := Lib.hid (HA.out.below hbZ)
      replace RS := Lib.hid (RowIs.below RS.out hbZ)
      replace RTT := Lib.hid (RowIs.below RTT.out hbZ)
      replace HQ := Lib.hid (HQ.out.below hbZ)
      replace hB := bup hB hbZ
      have hC100 := less_small hsx hss Z
      rw [hl2] at hC100
      try dsimp only [re2, re3, proofV, zeroP] at hC100
      have C100 := Lib.hid hC100
      clear hC100
      obtain ⟨v1010, v1011, _, _, v101z⟩ := ratrow2 RX.out
      obtain ⟨v1020, v1021, _, _, v102z⟩ := ratrow2 RS.out
      obtain ⟨v1030, v1031, _, _, v103z⟩ := ratrow2 RTT.out
      go_wp2_with fail
      clear hbZ hZ pc0 pc1 pc2 pc3 pc4 pd0 pd1 pd2 pd3 pd4 hvn hvn2 v1010 v1011 v101z v1020 v1021 v102z v1030 v1031 v103z
      refine C100.out.mono ?_
      rintro e w104 ⟨rfl, hw105⟩
      clear C100
      replace HM := Lib.hid (HM.out.below hw105)
      replace HT := Lib.hid (RowIs.below HT.out hw105)
      replace HG := Lib.hid (HG.out.below hw105)
      replace HA := Lib.hid (HA.out.below hw105)
      replace RS := Lib.hid (RowIs.below RS.out hw105)
      replace RTT := Lib.hid (RowIs.below RTT.out hw105)
      replace HQ := Lib.hid (HQ.out.below hw105)
      replace RX := Lib.hid (RowIs.below RX.out hw105)
      replace RY := Lib.hid (RowIs.below RY.out hw105)
      replace hB := bup hB hw105
      have hC106 := less_small hst hsx w104
      rw [hl3] at hC106
      try dsimp only [re2, re3, proofV, zeroP] at hC106
      have C106 := Lib.hid hC106
      clear hC106
      obtain ⟨v1070, v1071, _, _, v107z⟩ := ratrow2 RX.out
      obtain ⟨v1080, v1081, _, _, v108z⟩ := ratrow2 RS.out
      obtain ⟨v1090, v1091, _, _, v109z⟩ := ratrow2 RTT.out
      go_wp2_with fail
      clear hw105 v1070 v1071 v107z v1080 v1081 v108z v1090 v1091 v109z
      refine C106.out.mono ?_
      rintro e w110 ⟨rfl, hw111⟩
      clear C106
      replace HM := Lib.hid (HM.out.below hw111)
      replace HT := Lib.hid (RowIs.below HT.out hw111)
      replace HG := Lib.hid (HG.out.below hw111)
      replace HA := Lib.hid (HA.out.below hw111)
      replace RS := Lib.hid (RowIs.below RS.out hw111)
      replace RTT := Lib.hid (RowIs.below RTT.out hw111)
      replace HQ := Lib.hid (HQ.out.below hw111)
      replace RX := Lib.hid (RowIs.below RX.out hw111)
      replace RY := Lib.hid (RowIs.below RY.out hw111)
      replace hB := bup hB hw111
      have hC112 := Deserves_c a (some ⟨gHA, 0, none⟩) n cap n cHA m A l c sure w110 HM.out HA.out hn hn
      rw [hgA] at hC112
      try dsimp only [re2, re3, proofV, zeroP] at hC112
      have C112 := Lib.hid hC112
      clear hC112
      obtain ⟨tc0, tc1, _, _, tz⟩ := ratrow2 HT.out
      go_wp2_with fail
      clear hw111 tc0 tc1 tz
      refine C112.out.mono ?_
      rintro e w113 ⟨rfl, hw114⟩
      clear C112
      replace HM := Lib.hid (HM.out.below hw114)
      replace HT := Lib.hid (RowIs.below HT.out hw114)
      replace HG := Lib.hid (HG.out.below hw114)
      replace HA := Lib.hid (HA.out.below hw114)
      replace RS := Lib.hid (RowIs.below RS.out hw114)
      replace RTT := Lib.hid (RowIs.below RTT.out hw114)
      replace HQ := Lib.hid (HQ.out.below hw114)
      replace RX := Lib.hid (RowIs.below RX.out hw114)
      replace RY := Lib.hid (RowIs.below RY.out hw114)
      replace hB := bup hB hw114
      go_wp2_with fail
      refine (works_c _).mono ?_
      rintro e wz ⟨rfl, hbz⟩
      go_wp2
      go_ret
      exact ⟨rfl, bup hB hbz⟩

end Go.Proofs.YtehafggcncbnkaaGreat

namespace Go.Proofs.YtehafggcncbnkaaGreat
open Go Go.RowKit Go.ChangeShapes Go.WideShapes Go.ChangeAt

theorem own_held : ownKnob Tryz.prog.godebug = .none := by kernel_rfl
theorem laidOut_held : laidOutB Tryz.prog = true := by kernel_rfl

set_option maxRecDepth 100000 in
theorem held_lifted (os : Os) (started : os.Started) (H : Type) (enc : TypeId × Value → H) :
    ReturnsInHanded {} Tryz.checked os 12 .any (Rows.alloyHeldSpec.pre6 enc Tryz.prog Tryz.f12 Rows.alloyHeldRow.domain false) (Rows.alloyHeldSpec.post enc Tryz.prog Tryz.f12 false true false false) := by
  refine returnsInHanded_of_change (C := Tryz.checked) own_held started (by kernel_rfl) Tryz.func12
    (ChangeSpec.witness6 (enc := enc) (C := Tryz.checked) false ⟨#[], #[.slice .none 0 0, .agg #[.int .i64 0, .int .i64 0], .bool false, .slice .none 0 0, .int .u8 0], []⟩ 8 (by kernel_rfl) (by kernel_rfl) (by kernel_rfl) (by kernel_rfl)) ?_
  intro W base args ds gs before hval0 hW hcnd _
  have hval : ∀ (j : Nat) t v, Tryz.f12.params[j]? = some t → args[j]? = some v → Value.okWide Tryz.prog W .any base t v := hval0
  have hW' := hW
  obtain ⟨p, q, hA0, hV, rfl, hfz, hnd⟩ := hW
  have hA : DataW.TrodAll enc Tryz.prog W 0 (fun _ => true) true Tryz.f12.params.toList args.toList ds p := hA0
  rw [Tryz.params12] at hA hval
  obtain ⟨v0, vs0, d0, ds0, p0, q0, hargs, rfl, rfl, h0, r0⟩ := trodAll_cons hA
  obtain ⟨v1, vs1, d1, ds1, p1, q1, rfl, rfl, rfl, h1, r1⟩ := trodAll_cons r0
  obtain ⟨v2, vs2, d2, ds2, p2, q2, rfl, rfl, rfl, h2, r2⟩ := trodAll_cons r1
  obtain ⟨v3, vs3, d3, ds3, p3, q3, rfl, rfl, rfl, h3, r3⟩ := trodAll_cons r2
  obtain ⟨v4, vs4, d4, ds4, p4, q4, rfl, rfl, rfl, h4, r4⟩ := trodAll_cons r3
  obtain ⟨rfl, rfl, rfl⟩ := trodAll_nil r4
  obtain rfl : args = #[v0, v1, v2, v3, v4] := by cases args; simp_all
  obtain ⟨rfl, rfl⟩ := trodVars_none hV
  obtain ⟨a0, n0, cap0, m0, rfl, hM0⟩ := open_metals (hval 0 22 v0 rfl rfl) h0
  obtain ⟨l1, c1, rfl⟩ := open_touch (hval 1 24 v1 rfl rfl) h1
  obtain ⟨s2, hs2, _, _⟩ := open_bool Tryz.underlying4 (hval 2 4 v2 rfl rfl) h2
  obtain ⟨a3, n3, cap3, f3, rfl, hF3, hb3⟩ := open_shorts (hval 3 54 v3 rfl rfl) h3
  obtain ⟨z4, hz4, _, _, hw4⟩ := open_int Tryz.underlying5 (hval 4 5 v4 rfl rfl) h4
  subst hs2 hz4
  refine (law_held_c a0 a3 n0 cap0 n3 cap3 m0 f3 l1 c1 z4 s2 W hM0 hF3 hb3 (wfu8 hw4)).mono fun e W' ⟨he, hb⟩ => ?_
  subst he
  have hlt := hW'.lt
  simp only [List.append_nil, List.mem_append] at hlt
  refine ⟨_, rfl, _, _, _, [], p0 ++ (p1 ++ (p2 ++ (p3 ++ (p4 ++ [])))), [], hW', trodAll_mk1 (shut_bool Tryz.underlying4 true), ?_, rfl, hb.frame _, fun h => Bool.noConfusion h⟩
  exact trodAll_cons_mk (Below.trod laidOut_held (by kernel_rfl) (of_decide_eq_true (by kernel_rfl)) h0 hb fun x hx => hlt x (by simp [hx])) (trodAll_cons_mk (Below.trod laidOut_held (by kernel_rfl) (of_decide_eq_true (by kernel_rfl)) h1 hb fun x hx => hlt x (by simp [hx])) (trodAll_cons_mk (Below.trod laidOut_held (by kernel_rfl) (of_decide_eq_true (by kernel_rfl)) h2 hb fun x hx => hlt x (by simp [hx])) (trodAll_cons_mk (Below.trod laidOut_held (by kernel_rfl) (of_decide_eq_true (by kernel_rfl)) h3 hb fun x hx => hlt x (by simp [hx])) (trodAll_cons_mk (Below.trod laidOut_held (by kernel_rfl) (of_decide_eq_true (by kernel_rfl)) h4 hb fun x hx => hlt x (by simp [hx])) trodAll_mk0))))

theorem held_holds : Rows.AlloyHeldSaid :=
  OpenClaim.holds_of_wide 12 Tryz.f12 rfl rfl rfl rfl rfl rfl rfl ⟨rfl, rfl, rfl, rfl, rfl⟩ rfl rfl rfl rfl rfl (by kernel_rfl) Tryz.func12 (by kernel_rfl)
    (of_decide_eq_true (by kernel_rfl)) (by unfold Func.isWrapper; first | (rw [if_pos (by decide +kernel)]; kernel_rfl) | (rw [if_neg (by decide +kernel)]; exact ⟨rfl, rfl⟩))
    (fun os started H enc _ => held_lifted os started H enc)
end Go.Proofs.YtehafggcncbnkaaGreat
