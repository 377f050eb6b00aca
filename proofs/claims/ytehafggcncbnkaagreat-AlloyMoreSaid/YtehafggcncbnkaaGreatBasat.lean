/- The law AlloyPoured answers true. Written by tools/lawpoured.py. -/
import Derived.Deep.RegionHeldLaw
import Derived.Deep.AppendLies
import Derived.Test.YtehafggcncbnkaaGreatProg
import Derived.Test.YtehafggcncbnkaaGreatBasaa
import Derived.Test.YtehafggcncbnkaaGreatBasad
import Derived.Test.YtehafggcncbnkaaGreatBasas
import Derived.Test.YtehafggcncbnkaaGreatBasag
import Derived.Test.YtehafggcncbnkaaGreatBasaq
import Derived.Test.YtehafggcncbnkaaGreatBasar
namespace Go.Proofs.YtehafggcncbnkaaGreat
open Go Go.RowKit

/-- A cost that is poured of two is between them. -/
theorem between (p q p' q' : Int) :
    ¬ ((p + p') * q < p * (q + q') ∧ (p + p') * q' < p' * (q + q')) ∧ ¬ (p * (q + q') < (p + p') * q ∧ p' * (q + q') < (p + p') * q') := by
  refine ⟨fun h => ?_, fun h => ?_⟩
  · obtain ⟨h1, h2⟩ := h
    have e1 : p' * q < p * q' := by grind
    have e2 : p * q' < p' * q := by grind
    omega
  · obtain ⟨h1, h2⟩ := h
    have e1 : p' * q < p * q' := by grind
    have e2 : p * q' < p' * q := by grind
    omega

/-- What Less asks of fractions that are small. -/
theorem small_bd {x y : Int} (h : smallB x y = true) : 0 < y ∧ y ≤ 6000000 ∧ 0 ≤ x ∧ x ≤ 6000000000 := by
  obtain ⟨h1, h2, h3, h4, _⟩ := of_decide_eq_true h
  omega
theorem less_small {a b c d : Int} (h : smallB a b = true) (h' : smallB c d = true) (w : World) :
    Calls Tryz.prog 46 #[.agg #[.int .i64 a, .int .i64 b], .agg #[.int .i64 c, .int .i64 d]] w fun e w' => e = .returned (.bool (ltB a b c d)) ∧ Below w.heap.size w w' := by
  obtain ⟨h1, h2, h3, h4⟩ := small_bd h
  obtain ⟨k1, k2, k3, k4⟩ := small_bd h'
  have m1 := mul_bd h3 h4 (Int.le_of_lt k1) k2
  have m2 := mul_bd k3 k4 (Int.le_of_lt h1) h2
  exact rless_c a b c d w ⟨by omega, by omega⟩ ⟨by omega, by omega⟩

set_option maxRecDepth 100000 in
set_option maxHeartbeats 16000000 in
theorem law_poured_c (a b b' : Option Addr) (n cap len cap2 len' cap2' : Nat) (m : Nat → M5) (g g' : Nat → Int) (l c : Int) (sure : Bool) (w : World) (hm : Metals w a n m) (hg : Shorts w b len g) (hgb : ∀ i, i < len → 0 ≤ g i ∧ g i ≤ 65535) (hg' : Shorts w b' len' g') (hgb' : ∀ i, i < len' → 0 ≤ g' i ∧ g' i ≤ 65535) :
    Calls Tryz.prog 11 #[.slice a n cap, .agg #[.int .i64 l, .int .i64 c], .bool sure, .slice b len cap2, .slice b' len' cap2'] w fun e w' => e = .returned (.bool true) ∧ Below w.heap.size w w' := by
  obtain ⟨W, hW⟩ : ∃ W, w.alloc (.cells #[.int .i64 l, .int .i64 c] 24) = W := ⟨_, rfl⟩
  have hB : Below w.heap.size w W := by rw [← hW]; exact Below.alloc1 (Below.refl _ _) _ (Nat.le_refl _)
  have HT := Lib.hid (show RowIs W w.heap.size #[.int .i64 l, .int .i64 c] 24 by rw [← hW]; exact heap_new_at _ _ _ rfl)
  have HM := Lib.hid (hm.below hB)
  obtain ⟨bt, hbt⟩ : ∃ bt, w.heap.size = bt := ⟨_, rfl⟩
  rw [hbt] at HT
  have HG := Lib.hid (hg.below hB)
  have HG' := Lib.hid (hg'.below hB)
  have HFi := Lib.hid (fine_c a n cap m l c W HM.out)
  clear hm hg hg'
  by_cases hfine : n ≤ 12 ∧ bothE n m l c = 0
  case neg =>
    have hd : decide (n ≤ 12 ∧ bothE n m l c = 0) = false := decide_eq_false hfine
    rw [hd] at HFi
    obtain ⟨tc0, tc1, _, _, tz⟩ := ratrow2 HT.out
    go_enter Tryz.func11, Tryz.ntmps11
    go_wp2_with fail
    refine HFi.out.mono ?_
    rintro e w1 ⟨rfl, hb1⟩
    go_wp2_with fail
    refine (works_c _).mono ?_
    rintro e wz ⟨rfl, hbz⟩
    go_wp2
    go_ret
    exact ⟨rfl, bup hB (bup hb1 hbz)⟩
  case pos =>
  have hd : decide (n ≤ 12 ∧ bothE n m l c = 0) = true := decide_eq_true hfine
  rw [hd] at HFi
  by_cases hl : len ≤ 20
  case neg =>
    have hl1 : decide ((20 : Int) < (len : Int)) = true := by simp; omega
    obtain ⟨tc0, tc1, _, _, tz⟩ := ratrow2 HT.out
    go_enter Tryz.func11, Tryz.ntmps11
    go_wp2_with fail
    refine HFi.out.mono ?_
    rintro e w1 ⟨rfl, hb1⟩
    go_wp2_with fail
    refine (works_c _).mono ?_
    rintro e wz ⟨rfl, hbz⟩
    go_wp2
    go_ret
    exact ⟨rfl, bup hB (bup hb1 hbz)⟩
  case pos =>
  have hl1 : decide ((20 : Int) < (len : Int)) = false := by simp; omega
  by_cases hl' : len' ≤ 20
  case neg =>
    have hl2 : decide ((20 : Int) < (len' : Int)) = true := by simp; omega
    obtain ⟨tc0, tc1, _, _, tz⟩ := ratrow2 HT.out
    go_enter Tryz.func11, Tryz.ntmps11
    go_wp2_with fail
    refine HFi.out.mono ?_
    rintro e w1 ⟨rfl, hb1⟩
    go_wp2_with fail
    refine (works_c _).mono ?_
    rintro e wz ⟨rfl, hbz⟩
    go_wp2
    go_ret
    exact ⟨rfl, bup hB (bup hb1 hbz)⟩
  case pos =>
  have hl2 : decide ((20 : Int) < (len' : Int)) = false := by simp; omega
  have hmet := (both_ok hfine.2).1
  have hF := fine_of hmet
  have hn16 : 1 ≤ n ∧ n ≤ 6 := ⟨hF.1, hF.2.1⟩
  have hn : n ≤ 1048576 := by omega
  obtain ⟨A, hA⟩ : ∃ A, mixedF n len g = A := ⟨_, rfl⟩
  obtain ⟨A', hA'⟩ : ∃ A, mixedF n len' g' = A := ⟨_, rfl⟩
  have hAb : ∀ i, 0 ≤ A i ∧ A i ≤ 65535 := by rw [← hA]; exact mixed_bd (by omega) hgb
  have hAp : 0 < sumF A n := by rw [← hA]; exact mixed_pos hn16.1 (by omega) hgb
  have hAb' : ∀ i, 0 ≤ A' i ∧ A' i ≤ 65535 := by rw [← hA']; exact mixed_bd (by omega) hgb'
  have hAp' : 0 < sumF A' n := by rw [← hA']; exact mixed_pos hn16.1 (by omega) hgb'
  have hA6 : ∀ i, i < n → 0 ≤ A i ∧ A i ≤ 1000000 := fun i _ => by have := hAb i; omega
  have hA6' : ∀ i, i < n → 0 ≤ A' i ∧ A' i ≤ 1000000 := fun i _ => by have := hAb' i; omega
  have hS6 : ∀ i, i < n → 0 ≤ A i + A' i ∧ A i + A' i ≤ 1000000 := fun i _ => by have := hAb i; have := hAb' i; omega
  have hSp : 0 < sumF (fun i => A i + A' i) n := by rw [sumF_add]; omega
  have hq6 : ∀ f : Nat → Int, (∀ i, i < n → 0 ≤ f i ∧ f i ≤ 1000000) → sumF f n ≤ 6000000 := fun f hf => by
    have := (sumF_nn f 1000000 n hf).2
    have : (n : Int) ≤ 6 := by omega
    omega
  have hsm : ∀ f : Nat → Int, (∀ i, i < n → 0 ≤ f i ∧ f i ≤ 1000000) → 0 < sumF f n → smallB (ratN (priceF m f n) (sumF f n)) (ratD (priceF m f n) (sumF f n)) = true := fun f hf hp => by
    have := price_bd hF (f := f) fun i hi => (hf i hi).1
    exact small_rat hp (hq6 f hf) this.1 this.2
  have hC1 := cost_of (m := m) hmet hA6 hAp
  have hC2 := cost_of (m := m) hmet hA6' hAp'
  have hC3 := cost_of (m := m) hmet hS6 hSp
  have s1 := hsm A hA6 hAp
  have s2 := hsm A' hA6' hAp'
  have s3 := hsm (fun i => A i + A' i) hS6 hSp
  have hbt := between (priceF m A n) (sumF A n) (priceF m A' n) (sumF A' n)
  have hP3 : priceF m (fun i => A i + A' i) n = priceF m A n + priceF m A' n := sum_both A A' (fun i => (m i).p) n
  have hb1 : (ltB (ratN (priceF m (fun i => A i + A' i) n) (sumF (fun i => A i + A' i) n)) (ratD (priceF m (fun i => A i + A' i) n) (sumF (fun i => A i + A' i) n)) (ratN (priceF m A n) (sumF A n)) (ratD (priceF m A n) (sumF A n)) &&
      ltB (ratN (priceF m (fun i => A i + A' i) n) (sumF (fun i => A i + A' i) n)) (ratD (priceF m (fun i => A i + A' i) n) (sumF (fun i => A i + A' i) n)) (ratN (priceF m A' n) (sumF A' n)) (ratD (priceF m A' n) (sumF A' n))) = false := by
    rw [ltB_rat hSp hAp, ltB_rat hSp hAp', hP3, sumF_add, ← Bool.decide_and]
    exact decide_eq_false hbt.1
  have hb2 : (ltB (ratN (priceF m A n) (sumF A n)) (ratD (priceF m A n) (sumF A n)) (ratN (priceF m (fun i => A i + A' i) n) (sumF (fun i => A i + A' i) n)) (ratD (priceF m (fun i => A i + A' i) n) (sumF (fun i => A i + A' i) n)) &&
      ltB (ratN (priceF m A' n) (sumF A' n)) (ratD (priceF m A' n) (sumF A' n)) (ratN (priceF m (fun i => A i + A' i) n) (sumF (fun i => A i + A' i) n)) (ratD (priceF m (fun i => A i + A' i) n) (sumF (fun i => A i + A' i) n))) = false := by
    rw [ltB_rat hAp hSp, ltB_rat hAp' hSp, hP3, sumF_add, ← Bool.decide_and]
    exact decide_eq_false hbt.2
  have hD1 := deserves_of (s := sure) hfine.2 hA6 hAp
  have hD2 := deserves_of (s := sure) hfine.2 hA6' hAp'
  have hD3 := deserves_of (s := sure) hfine.2 hS6 hSp
  have hgood : goodB sure n m l c A = true → goodB sure n m l c A' = true → goodB sure n m l c (fun i => A i + A' i) = true := good_both
  obtain ⟨x1, hx1⟩ : ∃ x, ratN (priceF m A n) (sumF A n) = x := ⟨_, rfl⟩
  obtain ⟨x2, hx2⟩ : ∃ x, ratD (priceF m A n) (sumF A n) = x := ⟨_, rfl⟩
  obtain ⟨y1, hy1⟩ : ∃ x, ratN (priceF m A' n) (sumF A' n) = x := ⟨_, rfl⟩
  obtain ⟨y2, hy2⟩ : ∃ x, ratD (priceF m A' n) (sumF A' n) = x := ⟨_, rfl⟩
  obtain ⟨z1, hz1'⟩ : ∃ x, ratN (priceF m (fun i => A i + A' i) n) (sumF (fun i => A i + A' i) n) = x := ⟨_, rfl⟩
  obtain ⟨z2, hz2'⟩ : ∃ x, ratD (priceF m (fun i => A i + A' i) n) (sumF (fun i => A i + A' i) n) = x := ⟨_, rfl⟩
  simp only [hx1, hx2, hy1, hy2, hz1', hz2'] at hC1 hC2 hC3 s1 s2 s3 hb1 hb2
  obtain ⟨S, hS⟩ : ∃ S, (fun i => A i + A' i) = S := ⟨_, rfl⟩
  have hSi : ∀ i, S i = A i + A' i := fun i => by rw [← hS]
  rw [hS] at hC3 hD3 hgood
  have hDD : (deservesE n m l c sure n A != 0 || (deservesE n m l c sure n A' != 0 || deservesE n m l c sure n S == 0)) = true := by
    rw [hD1, hD2, hD3]
    cases e1 : goodB sure n m l c A with
    | false => simp
    | true =>
      cases e2 : goodB sure n m l c A' with
      | false => simp
      | true => simp [hgood e1 e2]
  obtain ⟨d1, hd1⟩ : ∃ d, deservesE n m l c sure n A = d := ⟨_, rfl⟩
  obtain ⟨d2, hd2⟩ : ∃ d, deservesE n m l c sure n A' = d := ⟨_, rfl⟩
  obtain ⟨d3, hd3⟩ : ∃ d, deservesE n m l c sure n S = d := ⟨_, rfl⟩
  rw [hd1, hd2, hd3] at hDD
  have HC1 := Lib.hid hC1
  have HC2 := Lib.hid hC2
  have HC3 := Lib.hid hC3
  have HS1 := Lib.hid s1
  have HS2 := Lib.hid s2
  have HS3 := Lib.hid s3
  have HB1 := Lib.hid hb1
  have HB2 := Lib.hid hb2
  have HDD := Lib.hid hDD
  have HSi := Lib.hid hSi
  have HD1 := Lib.hid hd1
  have HD2 := Lib.hid hd2
  have HD3 := Lib.hid hd3
  have HAb := Lib.hid hAb
  have HAb' := Lib.hid hAb'
  have Hgb := Lib.hid hgb
  have Hgb' := Lib.hid hgb'
  obtain ⟨i0, hi, hz0, hz1, hz2⟩ := info_parts info64
  clear hgb hgb' hAb hAb' hA6 hA6' hS6 hAp hAp' hSp hq6 hsm hC1 hC2 hC3 s1 s2 s3 hbt hP3 hb1 hb2 hD1 hD2 hD3 hgood hx1 hx2 hy1 hy2 hz1' hz2' hS hSi hDD hd1 hd2 hd3
  obtain ⟨tc0, tc1, _, _, tz⟩ := ratrow2 HT.out
  go_enter Tryz.func11, Tryz.ntmps11
  go_wp2_with fail
  refine HFi.out.mono ?_
  rintro e w1 ⟨rfl, hb1⟩
  clear tc0 tc1 tz hW hbt
  replace HM := Lib.hid (HM.out.below hb1)
  replace HT := Lib.hid (RowIs.below HT.out hb1)
  replace HG := Lib.hid (HG.out.below hb1)
  replace HG' := Lib.hid (HG'.out.below hb1)
  replace hB := bup hB hb1
  go_wp2_with fail
  clear hb1
  refine (mixed_c b n len cap2 g w1 HG.out hn16 hl Hgb.out).mono ?_
  rintro e w1 ⟨gHA, cHA, gHAl, gHAz, rfl, hHA0, hw2⟩
  replace HM := Lib.hid (HM.out.below hw2)
  replace HT := Lib.hid (RowIs.below HT.out hw2)
  replace HG := Lib.hid (HG.out.below hw2)
  replace HG' := Lib.hid (HG'.out.below hw2)
  replace hB := bup hB hw2
  rw [hA] at hHA0
  have HA := Lib.hid hHA0
  clear hHA0 gHAl gHAz
  go_wp2_with fail
  clear hw2
  refine (mixed_c b' n len' cap2' g' w1 HG'.out hn16 hl' Hgb'.out).mono ?_
  rintro e w3 ⟨gHC, cHC, gHCl, gHCz, rfl, hHC0, hw4⟩
  replace HM := Lib.hid (HM.out.below hw4)
  replace HT := Lib.hid (RowIs.below HT.out hw4)
  replace HG := Lib.hid (HG.out.below hw4)
  replace HG' := Lib.hid (HG'.out.below hw4)
  replace HA := Lib.hid (HA.out.below hw4)
  replace hB := bup hB hw4
  rw [hA'] at hHC0
  have HC := Lib.hid hHC0
  clear hHC0 gHCl gHCz
  go_wp2_with fail
  clear hw4
  obtain ⟨B, hBB⟩ : ∃ B, w3.heap.size = B := ⟨_, rfl⟩
  go_loopw [13, 14] (fun v i wr => ∃ j : Nat, j ≤ n ∧ i = .int .i64 j ∧ wr.ownsRow B 2 1 v j (intL S j) ∧ Below w3.heap.size w3 wr) (fun _ i _ => n - (intOf i).toNat)
  case atStart => exact ⟨0, Nat.zero_le _, rfl, World.ownsRow_nil _ _ _ _, Below.refl _ _⟩
  case round =>
    obtain ⟨j, hj, rfl, hown, hBr⟩ := hrel
    have hBs := hBr.size
    by_cases hlt : j < n
    · obtain ⟨bb, off, hbe, hbs, hc⟩ := Cells.at HA.out j hlt
      cases hbe
      have hck := (hBr.cell (p := ⟨gHA, 0 + j, none⟩) hbs).trans (hc j hlt)
      obtain ⟨bb', off', hbe', hbs', hc'⟩ := Cells.at HC.out j hlt
      cases hbe'
      have hck' := (hBr.cell (p := ⟨gHC, 0 + j, none⟩) hbs').trans (hc' j hlt)
      simp only [Nat.zero_add] at hck hck'
      have hx := HAb.out j
      have hx' := HAb'.out j
      have hwr : wrap64 (A j + A' j) = A j + A' j := IntWalk.wrap64_in _ ⟨by omega, by omega⟩
      have hgz : gHA < wr.heap.size := Nat.lt_of_lt_of_le hbs hBs
      have hgz' : gHC < wr.heap.size := Nat.lt_of_lt_of_le hbs' hBs
      have hnl := hown.lt
      have hga : gHA < B := by omega
      have hgc : gHC < B := by omega
      have hgz1 : gHA < (wr.alloc (.cells #[.int .i64 (IntKind.i64.wrap (A j + A' j))] 2)).heap.size := by simp; omega
      have hgz2 : gHC < (wr.alloc (.cells #[.int .i64 (IntKind.i64.wrap (A j + A' j))] 2)).heap.size := by simp; omega
      have hck1 : (wr.alloc (.cells #[.int .i64 (IntKind.i64.wrap (A j + A' j))] 2)).cell? ⟨gHA, j, none⟩ = some (.int .i64 (A j)) := Lib.cell?_alloc_some _ hck
      have hck2 : (wr.alloc (.cells #[.int .i64 (IntKind.i64.wrap (A j + A' j))] 2)).cell? ⟨gHC, j, none⟩ = some (.int .i64 (A' j)) := Lib.cell?_alloc_some _ hck'
      have HBr := Lib.hid hBr
      have Hown := Lib.hid hown
      clear hBr hc hc' hown
      go_wp2_with fail
      go_region_held_law (fun w' => w'.cell? ⟨gHA, j, none⟩ = some (.int .i64 (A j)) ∧ w'.cell? ⟨gHC, j, none⟩ = some (.int .i64 (A' j))) (go_keep) ((refine step_append_lies _ rfl _ _ 25 rfl B 2 i0 (.int .i64 0) 1 8 Tryz.underlying25 hi hz0 hz1 hz2 rfl (by decide) _ _ _ rfl (show World.ownsRow (wr.alloc (.cells #[.int .i64 (IntKind.i64.wrap (A j + A' j))] 2)).drew _ _ _ _ _ _ from Hown.out.alloc _) ⟨wr.heap.size, 0, none⟩ 1 1 [.int .i64 (IntKind.i64.wrap (A j + A' j))] rfl rfl (World.news_of_block (cs := #[.int .i64 (IntKind.i64.wrap (A j + A' j))]) (t := 2) (fr := (0, 0)) (show (wr.alloc (.cells #[.int .i64 (IntKind.i64.wrap (A j + A' j))] 2)).drew.heap[wr.heap.size]? = _ from heap_new_at wr _ _ rfl)) (by simp [Value.oneCell']) (by decide) (by unfold maxLen; omega) (by omega) (show B ≤ (wr.alloc (.cells #[.int .i64 (IntKind.i64.wrap (A j + A' j))] 2)).heap.size by simp; omega) _ rfl ?_; intro g1 cap1 w2 hown2 hgr2 hat hlt2; have k1 : w2.cell? ⟨gHA, j, none⟩ = some (.int .i64 (A j)) := (hgr2.cell_far _ hgz1 (fun h => by have := (hnl _ h.symm).1; simp only at this; omega)).trans hck1; have k2 : w2.cell? ⟨gHC, j, none⟩ = some (.int .i64 (A' j)) := (hgr2.cell_far _ hgz2 (fun h => by have := (hnl _ h.symm).1; simp only at this; omega)).trans hck2))
      go_wp2_with fail
      go_roundw
      case rel =>
        have hwr' : IntKind.i64.wrap (A j + A' j) = S j := by rw [HSi.out]; exact IntWalk.i64_in _ (by omega)
        refine ⟨j + 1, by omega, by go_num, ?_, (Below.drew (Below.alloc1 HBr.out _ (Nat.le_refl _))).grown hgr2 (show _ ≤ (wr.alloc _).heap.size by simp; omega) (fun q h => by have := (Hown.out.lt q h).1; omega)⟩
        rw [hwr'] at hown2
        rw [intL_succ]
        exact hown2
      case measure => simp [intOf]; omega
    · obtain rfl : j = n := by omega
      obtain ⟨gB, cB, rfl, hgz⟩ := own_form hown (by omega)
      obtain ⟨hIB, hgB, _⟩ := ints_of_own hown
      have HB0 := Lib.hid hIB
      clear hown hIB hBs
      have hBx := hBr
      replace HM := Lib.hid (HM.out.below hBr)
      replace HT := Lib.hid (RowIs.below HT.out hBr)
      replace HG := Lib.hid (HG.out.below hBr)
      replace HG' := Lib.hid (HG'.out.below hBr)
      replace HA := Lib.hid (HA.out.below hBr)
      replace HC := Lib.hid (HC.out.below hBr)
      replace hB := bup hB hBr
      have hC5 := Cost_c a (some ⟨gHA, 0, none⟩) j cap j cHA m A wr HM.out HA.out hn hn
      rw [HC1.out] at hC5
      try dsimp only [re2, re3, proofV, zeroP] at hC5
      have C5 := Lib.hid hC5
      clear hC5
      go_wp2_with fail
      clear hBx hBr
      refine C5.out.mono ?_
      rintro e w6 ⟨rfl, hw7⟩
      clear C5
      replace HM := Lib.hid (HM.out.below hw7)
      replace HT := Lib.hid (RowIs.below HT.out hw7)
      replace HG := Lib.hid (HG.out.below hw7)
      replace HG' := Lib.hid (HG'.out.below hw7)
      replace HA := Lib.hid (HA.out.below hw7)
      replace HC := Lib.hid (HC.out.below hw7)
      replace HB0 := Lib.hid (HB0.out.below hw7)
      replace hB := bup hB hw7
      obtain ⟨Y8, hY8⟩ : ∃ Y8, w6.alloc (.cells #[.int .i64 x1, .int .i64 x2] 29) = Y8 := ⟨_, rfl⟩
      have hy9 : Below w6.heap.size w6 Y8 := by rw [← hY8]; exact Below.alloc1 (Below.refl _ _) _ (Nat.le_refl _)
      replace HM := Lib.hid (HM.out.below hy9)
      replace HT := Lib.hid (RowIs.below HT.out hy9)
      replace HG := Lib.hid (HG.out.below hy9)
      replace HG' := Lib.hid (HG'.out.below hy9)
      replace HA := Lib.hid (HA.out.below hy9)
      replace HC := Lib.hid (HC.out.below hy9)
      replace HB0 := Lib.hid (HB0.out.below hy9)
      replace hB := bup hB hy9
      have RA := Lib.hid (show RowIs Y8 w6.heap.size #[.int .i64 x1, .int .i64 x2] 29 by rw [← hY8]; exact heap_new_at _ _ _ rfl)
      obtain ⟨bRA, hbRA⟩ : ∃ bRA, w6.heap.size = bRA := ⟨_, rfl⟩
      rw [hbRA] at RA
      have hC10 := Cost_c a (some ⟨gHC, 0, none⟩) j cap j cHC m A' Y8 HM.out HC.out hn hn
      rw [HC2.out] at hC10
      try dsimp only [re2, re3, proofV, zeroP] at hC10
      have C10 := Lib.hid hC10
      clear hC10
      go_wp2_with fail
      clear hw7 hbRA hY8 hy9
      refine C10.out.mono ?_
      rintro e w11 ⟨rfl, hw12⟩
      clear C10
      replace HM := Lib.hid (HM.out.below hw12)
      replace HT := Lib.hid (RowIs.below HT.out hw12)
      replace HG := Lib.hid (HG.out.below hw12)
      replace HG' := Lib.hid (HG'.out.below hw12)
      replace HA := Lib.hid (HA.out.below hw12)
      replace HC := Lib.hid (HC.out.below hw12)
      replace HB0 := Lib.hid (HB0.out.below hw12)
      replace RA := Lib.hid (RowIs.below RA.out hw12)
      replace hB := bup hB hw12
      obtain ⟨Y13, hY13⟩ : ∃ Y13, w11.alloc (.cells #[.int .i64 y1, .int .i64 y2] 29) = Y13 := ⟨_, rfl⟩
      have hy14 : Below w11.heap.size w11 Y13 := by rw [← hY13]; exact Below.alloc1 (Below.refl _ _) _ (Nat.le_refl _)
      replace HM := Lib.hid (HM.out.below hy14)
      replace HT := Lib.hid (RowIs.below HT.out hy14)
      replace HG := Lib.hid (HG.out.below hy14)
      replace HG' := Lib.hid (HG'.out.below hy14)
      replace HA := Lib.hid (HA.out.below hy14)
      replace HC := Lib.hid (HC.out.below hy14)
      replace HB0 := Lib.hid (HB0.out.below hy14)
      replace RA := Lib.hid (RowIs.below RA.out hy14)
      replace hB := bup hB hy14
      have RB := Lib.hid (show RowIs Y13 w11.heap.size #[.int .i64 y1, .int .i64 y2] 29 by rw [← hY13]; exact heap_new_at _ _ _ rfl)
      obtain ⟨bRB, hbRB⟩ : ∃ bRB, w11.heap.size = bRB := ⟨_, rfl⟩
      rw [hbRB] at RB
      have hC15 := Cost_c a (some ⟨gB, 0, none⟩) j cap j cB m S Y13 HM.out HB0.out hn hn
      rw [HC3.out] at hC15
      try dsimp only [re2, re3, proofV, zeroP] at hC15
      have C15 := Lib.hid hC15
      clear hC15
      go_wp2_with fail
      clear hw12 hbRB hY13 hy14
      refine C15.out.mono ?_
      rintro e w16 ⟨rfl, hw17⟩
      clear C15
      replace HM := Lib.hid (HM.out.below hw17)
      replace HT := Lib.hid (RowIs.below HT.out hw17)
      replace HG := Lib.hid (HG.out.below hw17)
      replace HG' := Lib.hid (HG'.out.below hw17)
      replace HA := Lib.hid (HA.out.below hw17)
      replace HC := Lib.hid (HC.out.below hw17)
      replace HB0 := Lib.hid (HB0.out.below hw17)
      replace RA := Lib.hid (RowIs.below RA.out hw17)
      replace RB := Lib.hid (RowIs.below RB.out hw17)
      replace hB := bup hB hw17
      obtain ⟨Y18, hY18⟩ : ∃ Y18, w16.alloc (.cells #[.int .i64 z1, .int .i64 z2] 29) = Y18 := ⟨_, rfl⟩
      have hy19 : Below w16.heap.size w16 Y18 := by rw [← hY18]; exact Below.alloc1 (Below.refl _ _) _ (Nat.le_refl _)
      replace HM := Lib.hid (HM.out.below hy19)
      replace HT := Lib.hid (RowIs.below HT.out hy19)
      replace HG := Lib.hid (HG.out.below hy19)
      replace HG' := Lib.hid (HG'.out.below hy19)
      replace HA := Lib.hid (HA.out.below hy19)
      replace HC := Lib.hid (HC.out.below hy19)
      replace HB0 := Lib.hid (HB0.out.below hy19)
      replace RA := Lib.hid (RowIs.below RA.out hy19)
      replace RB := Lib.hid (RowIs.below RB.out hy19)
      replace hB := bup hB hy19
      have RC := Lib.hid (show RowIs Y18 w16.heap.size #[.int .i64 z1, .int .i64 z2] 29 by rw [← hY18]; exact heap_new_at _ _ _ rfl)
      obtain ⟨bRC, hbRC⟩ : ∃ bRC, w16.heap.size = bRC := ⟨_, rfl⟩
      rw [hbRC] at RC
      cases hl1 : ltB z1 z2 x1 x2
      case true =>
        have hl2 : ltB z1 z2 y1 y2 = false := by have h := HB1.out; rw [hl1] at h; simpa using h
        cases hl3 : ltB x1 x2 z1 z2
        case true =>
          have hl4 : ltB y1 y2 z1 z2 = false := by have h := HB2.out; rw [hl3] at h; simpa using h
          have hC20 := small_c x1 x2 Y18 HS1.out
          try dsimp only [re2, re3, proofV, zeroP] at hC20
          have C20 := Lib.hid hC20
          clear hC20
          obtain ⟨v210, v211, _, _, v21z⟩ := ratrow2 RA.out
          obtain ⟨v220, v221, _, _, v22z⟩ := ratrow2 RB.out
          obtain ⟨v230, v231, _, _, v23z⟩ := ratrow2 RC.out
          go_wp2_with fail
          clear hw17 hbRC hY18 hy19 v210 v211 v21z v220 v221 v22z v230 v231 v23z
          refine C20.out.mono ?_
          rintro e w24 ⟨rfl, hw25⟩
          clear C20
          replace HM := Lib.hid (HM.out.below hw25)
          replace HT := Lib.hid (RowIs.below HT.out hw25)
          replace HG := Lib.hid (HG.out.below hw25)
          replace HG' := Lib.hid (HG'.out.below hw25)
          replace HA := Lib.hid (HA.out.below hw25)
          replace HC := Lib.hid (HC.out.below hw25)
          replace HB0 := Lib.hid (HB0.out.below hw25)
          replace RA := Lib.hid (RowIs.below RA.out hw25)
          replace RB := Lib.hid (RowIs.below RB.out hw25)
          replace RC := Lib.hid (RowIs.below RC.out hw25)
          replace hB := bup hB hw25
          have hC26 := small_c y1 y2 w24 HS2.out
          try dsimp only [re2, re3, proofV, zeroP] at hC26
          have C26 := Lib.hid hC26
          clear hC26
          obtain ⟨v270, v271, _, _, v27z⟩ := ratrow2 RA.out
          obtain ⟨v280, v281, _, _, v28z⟩ := ratrow2 RB.out
          obtain ⟨v290, v291, _, _, v29z⟩ := ratrow2 RC.out
          go_wp2_with fail
          clear hw25 v270 v271 v27z v280 v281 v28z v290 v291 v29z
          refine C26.out.mono ?_
          rintro e w30 ⟨rfl, hw31⟩
          clear C26
          replace HM := Lib.hid (HM.out.below hw31)
          replace HT := Lib.hid (RowIs.below HT.out hw31)
          replace HG := Lib.hid (HG.out.below hw31)
          replace HG' := Lib.hid (HG'.out.below hw31)
          replace HA := Lib.hid (HA.out.below hw31)
          replace HC := Lib.hid (HC.out.below hw31)
          replace HB0 := Lib.hid (HB0.out.below hw31)
          replace RA := Lib.hid (RowIs.below RA.out hw31)
          replace RB := Lib.hid (RowIs.below RB.out hw31)
          replace RC := Lib.hid (RowIs.below RC.out hw31)
          replace hB := bup hB hw31
          have hC32 := small_c z1 z2 w30 HS3.out
          try dsimp only [re2, re3, proofV, zeroP] at hC32
          have C32 := Lib.hid hC32
          clear hC32
          obtain ⟨v330, v331, _, _, v33z⟩ := ratrow2 RA.out
          obtain ⟨v340, v341, _, _, v34z⟩ := ratrow2 RB.out
          obtain ⟨v350, v351, _, _, v35z⟩ := ratrow2 RC.out
          go_wp2_with fail
          clear hw31 v330 v331 v33z v340 v341 v34z v350 v351 v35z
          refine C32.out.mono ?_
          rintro e w36 ⟨rfl, hw37⟩
          clear C32
          replace HM := Lib.hid (HM.out.below hw37)
          replace HT := Lib.hid (RowIs.below HT.out hw37)
          replace HG := Lib.hid (HG.out.below hw37)
          replace HG' := Lib.hid (HG'.out.below hw37)
          replace HA := Lib.hid (HA.out.below hw37)
          replace HC := Lib.hid (HC.out.below hw37)
          replace HB0 := Lib.hid (HB0.out.below hw37)
          replace RA := Lib.hid (RowIs.below RA.out hw37)
          replace RB := Lib.hid (RowIs.below RB.out hw37)
          replace RC := Lib.hid (RowIs.below RC.out hw37)
          replace hB := bup hB hw37
          have hC38 := less_small HS3.out HS1.out w36
          rw [hl1] at hC38
          try dsimp only [re2, re3, proofV, zeroP] at hC38
          have C38 := Lib.hid hC38
          clear hC38
          obtain ⟨v390, v391, _, _, v39z⟩ := ratrow2 RA.out
          obtain ⟨v400, v401, _, _, v40z⟩ := ratrow2 RB.out
          obtain ⟨v410, v411, _, _, v41z⟩ := ratrow2 RC.out
          go_wp2_with fail
          clear hw37 v390 v391 v39z v400 v401 v40z v410 v411 v41z
          refine C38.out.mono ?_
          rintro e w42 ⟨rfl, hw43⟩
          clear C38
          replace HM := Lib.hid (HM.out.below hw43)
          replace HT := Lib.hid (RowIs.below HT.out hw43)
          replace HG := Lib.hid (HG.out.below hw43)
          replace HG' := Lib.hid (HG'.out.below hw43)
          replace HA := Lib.hid (HA.out.below hw43)
          replace HC := Lib.hid (HC.out.below hw43)
          replace HB0 := Lib.hid (HB0.out.below hw43)
          replace RA := Lib.hid (RowIs.below RA.out hw43)
          replace RB := Lib.hid (RowIs.below RB.out hw43)
          replace RC := Lib.hid (RowIs.below RC.out hw43)
          replace hB := bup hB hw43
          have hC44 := less_small HS3.out HS2.out w42
          rw [hl2] at hC44
          try dsimp only [re2, re3, proofV, zeroP] at hC44
          have C44 := Lib.hid hC44
          clear hC44
          obtain ⟨v450, v451, _, _, v45z⟩ := ratrow2 RA.out
          obtain ⟨v460, v461, _, _, v46z⟩ := ratrow2 RB.out
          obtain ⟨v470, v471, _, _, v47z⟩ := ratrow2 RC.out
          go_wp2_with fail
          clear hw43 v450 v451 v45z v460 v461 v46z v470 v471 v47z
          refine C44.out.mono ?_
          rintro e w48 ⟨rfl, hw49⟩
          clear C44
          replace HM := Lib.hid (HM.out.below hw49)
          replace HT := Lib.hid (RowIs.below HT.out hw49)
          replace HG := Lib.hid (HG.out.below hw49)
          replace HG' := Lib.hid (HG'.out.below hw49)
          replace HA := Lib.hid (HA.out.below hw49)
          replace HC := Lib.hid (HC.out.below hw49)
          replace HB0 := Lib.hid (HB0.out.below hw49)
          replace RA := Lib.hid (RowIs.below RA.out hw49)
          replace RB := Lib.hid (RowIs.below RB.out hw49)
          replace RC := Lib.hid (RowIs.below RC.out hw49)
          replace hB := bup hB hw49
          have hC50 := less_small HS1.out HS3.out w48
          rw [hl3] at hC50
          try dsimp only [re2, re3, proofV, zeroP] at hC50
          have C50 := Lib.hid hC50
          clear hC50
          obtain ⟨v510, v511, _, _, v51z⟩ := ratrow2 RA.out
          obtain ⟨v520, v521, _, _, v52z⟩ := ratrow2 RB.out
          obtain ⟨v530, v531, _, _, v53z⟩ := ratrow2 RC.out
          go_wp2_with fail
          clear hw49 v510 v511 v51z v520 v521 v52z v530 v531 v53z
          refine C50.out.mono ?_
          rintro e w54 ⟨rfl, hw55⟩
          clear C50
          replace HM := Lib.hid (HM.out.below hw55)
          replace HT := Lib.hid (RowIs.below HT.out hw55)
          replace HG := Lib.hid (HG.out.below hw55)
          replace HG' := Lib.hid (HG'.out.below hw55)
          replace HA := Lib.hid (HA.out.below hw55)
          replace HC := Lib.hid (HC.out.below hw55)
          replace HB0 := Lib.hid (HB0.out.below hw55)
          replace RA := Lib.hid (RowIs.below RA.out hw55)
          replace RB := Lib.hid (RowIs.below RB.out hw55)
          replace RC := Lib.hid (RowIs.below RC.out hw55)
          replace hB := bup hB hw55
          have hC56 := less_small HS2.out HS3.out w54
          rw [hl4] at hC56
          try dsimp only [re2, re3, proofV, zeroP] at hC56
          have C56 := Lib.hid hC56
          clear hC56
          obtain ⟨v570, v571, _, _, v57z⟩ := ratrow2 RA.out
          obtain ⟨v580, v581, _, _, v58z⟩ := ratrow2 RB.out
          obtain ⟨v590, v591, _, _, v59z⟩ := ratrow2 RC.out
          go_wp2_with fail
          clear hw55 v570 v571 v57z v580 v581 v58z v590 v591 v59z
          refine C56.out.mono ?_
          rintro e w60 ⟨rfl, hw61⟩
          clear C56
          replace HM := Lib.hid (HM.out.below hw61)
          replace HT := Lib.hid (RowIs.below HT.out hw61)
          replace HG := Lib.hid (HG.out.below hw61)
          replace HG' := Lib.hid (HG'.out.below hw61)
          replace HA := Lib.hid (HA.out.below hw61)
          replace HC := Lib.hid (HC.out.below hw61)
          replace HB0 := Lib.hid (HB0.out.below hw61)
          replace RA := Lib.hid (RowIs.below RA.out hw61)
          replace RB := Lib.hid (RowIs.below RB.out hw61)
          replace RC := Lib.hid (RowIs.below RC.out hw61)
          replace hB := bup hB hw61
          obtain ⟨tc0, tc1, _, _, tz⟩ := ratrow2 HT.out
          go_wp2_with fail
          clear hw61 tc0 tc1 tz
          have hA0 := fun (x : World) (hx : Below w60.heap.size w60 x) => Deserves_c a (some ⟨gHA, 0, none⟩) j cap j cHA m A l c sure x (HM.out.below hx) (HA.out.below hx) hn hn
          simp only [HD1.out] at hA0
          have A0_ := Lib.hid hA0
          clear hA0
          have hA1 := fun (x : World) (hx : Below w60.heap.size w60 x) => Deserves_c a (some ⟨gHC, 0, none⟩) j cap j cHC m A' l c sure x (HM.out.below hx) (HC.out.below hx) hn hn
          simp only [HD2.out] at hA1
          have A1_ := Lib.hid hA1
          clear hA1
          have hA2 := fun (x : World) (hx : Below w60.heap.size w60 x) => Deserves_c a (some ⟨gB, 0, none⟩) j cap j cB m S l c sure x (HM.out.below hx) (HB0.out.below hx) hn hn
          simp only [HD3.out] at hA2
          have A2_ := Lib.hid hA2
          clear hA2
          obtain ⟨v620, v621, _, _, v62z⟩ := ratrow2 HT.out
          have hlc := fun (x : Later w60) => later_cell x
          refine wp_region_later (by kernel_rfl) (by kernel_rfl) ?_
          repeat (go_big_quiet_step ((first | (with_reducible refine calls_later (A0_.out _ (Later.h _))) | (with_reducible refine calls_later (A1_.out _ (Later.h _))) | (with_reducible refine calls_later (A2_.out _ (Later.h _))))))
          refine wpQuiet_nil ?_
          clear hlc A0_ A1_ A2_ v620 v621 v62z
          rintro ⟨w63, hw64⟩
          replace HM := Lib.hid (HM.out.below hw64)
          replace HT := Lib.hid (RowIs.below HT.out hw64)
          replace HG := Lib.hid (HG.out.below hw64)
          replace HG' := Lib.hid (HG'.out.below hw64)
          replace HA := Lib.hid (HA.out.below hw64)
          replace HC := Lib.hid (HC.out.below hw64)
          replace HB0 := Lib.hid (HB0.out.below hw64)
          replace RA := Lib.hid (RowIs.below RA.out hw64)
          replace RB := Lib.hid (RowIs.below RB.out hw64)
          replace RC := Lib.hid (RowIs.below RC.out hw64)
          replace hB := bup hB hw64
          cases e1 : d1 != 0
          case true =>
            go_wp2_with fail
            refine (works_c _).mono ?_
            rintro e wz ⟨rfl, hbz⟩
            go_wp2
            go_ret
            exact ⟨rfl, bup hB hbz⟩
          case false =>
          cases e2 : d2 != 0
          case true =>
            go_wp2_with fail
            refine (works_c _).mono ?_
            rintro e wz ⟨rfl, hbz⟩
            go_wp2
            go_ret
            exact ⟨rfl, bup hB hbz⟩
          case false =>
            have e3 : (d3 == 0) = true := by have h := HDD.out; rw [e1, e2] at h; simpa using h
            go_wp2_with fail
            refine (works_c _).mono ?_
            rintro e wz ⟨rfl, hbz⟩
            go_wp2
            go_ret
            exact ⟨rfl, bup hB hbz⟩
        case false =>
          have hC65 := small_c x1 x2 Y18 HS1.out
          try dsimp only [re2, re3, proofV, zeroP] at hC65
          have C65 := Lib.hid hC65
          clear hC65
          obtain ⟨v660, v661, _, _, v66z⟩ := ratrow2 RA.out
          obtain ⟨v670, v671, _, _, v67z⟩ := ratrow2 RB.out
          obtain ⟨v680, v681, _, _, v68z⟩ := ratrow2 RC.out
          go_wp2_with fail
          clear hw17 hbRC hY18 hy19 v660 v661 v66z v670 v671 v67z v680 v681 v68z
          refine C65.out.mono ?_
          rintro e w69 ⟨rfl, hw70⟩
          clear C65
          replace HM := Lib.hid (HM.out.below hw70)
          replace HT := Lib.hid (RowIs.below HT.out hw70)
          replace HG := Lib.hid (HG.out.below hw70)
          replace HG' := Lib.hid (HG'.out.below hw70)
          replace HA := Lib.hid (HA.out.below hw70)
          replace HC := Lib.hid (HC.out.below hw70)
          replace HB0 := Lib.hid (HB0.out.below hw70)
          replace RA := Lib.hid (RowIs.below RA.out hw70)
          replace RB := Lib.hid (RowIs.below RB.out hw70)
          replace RC := Lib.hid (RowIs.below RC.out hw70)
          replace hB := bup hB hw70
          have hC71 := small_c y1 y2 w69 HS2.out
          try dsimp only [re2, re3, proofV, zeroP] at hC71
          have C71 := Lib.hid hC71
          clear hC71
          obtain ⟨v720, v721, _, _, v72z⟩ := ratrow2 RA.out
          obtain ⟨v730, v731, _, _, v73z⟩ := ratrow2 RB.out
          obtain ⟨v740, v741, _, _, v74z⟩ := ratrow2 RC.out
          go_wp2_with fail
          clear hw70 v720 v721 v72z v730 v731 v73z v740 v741 v74z
          refine C71.out.mono ?_
          rintro e w75 ⟨rfl, hw76⟩
          clear C71
          replace HM := Lib.hid (HM.out.below hw76)
          replace HT := Lib.hid (RowIs.below HT.out hw76)
          replace HG := Lib.hid (HG.out.below hw76)
          replace HG' := Lib.hid (HG'.out.below hw76)
          replace HA := Lib.hid (HA.out.below hw76)
          replace HC := Lib.hid (HC.out.below hw76)
          replace HB0 := Lib.hid (HB0.out.below hw76)
          replace RA := Lib.hid (RowIs.below RA.out hw76)
          replace RB := Lib.hid (RowIs.below RB.out hw76)
          replace RC := Lib.hid (RowIs.below RC.out hw76)
          replace hB := bup hB hw76
          have hC77 := small_c z1 z2 w75 HS3.out
          try dsimp only [re2, re3, proofV, zeroP] at hC77
          have C77 := Lib.hid hC77
          clear hC77
          obtain ⟨v780, v781, _, _, v78z⟩ := ratrow2 RA.out
          obtain ⟨v790, v791, _, _, v79z⟩ := ratrow2 RB.out
          obtain ⟨v800, v801, _, _, v80z⟩ := ratrow2 RC.out
          go_wp2_with fail
          clear hw76 v780 v781 v78z v790 v791 v79z v800 v801 v80z
          refine C77.out.mono ?_
          rintro e w81 ⟨rfl, hw82⟩
          clear C77
          replace HM := Lib.hid (HM.out.below hw82)
          replace HT := Lib.hid (RowIs.below HT.out hw82)
          replace HG := Lib.hid (HG.out.below hw82)
          replace HG' := Lib.hid (HG'.out.below hw82)
          replace HA := Lib.hid (HA.out.below hw82)
          replace HC := Lib.hid (HC.out.below hw82)
          replace HB0 := Lib.hid (HB0.out.below hw82)
          replace RA := Lib.hid (RowIs.below RA.out hw82)
          replace RB := Lib.hid (RowIs.below RB.out hw82)
          replace RC := Lib.hid (RowIs.below RC.out hw82)
          replace hB := bup hB hw82
          have hC83 := less_small HS3.out HS1.out w81
          rw [hl1] at hC83
          try dsimp only [re2, re3, proofV, zeroP] at hC83
          have C83 := Lib.hid hC83
          clear hC83
          obtain ⟨v840, v841, _, _, v84z⟩ := ratrow2 RA.out
          obtain ⟨v850, v851, _, _, v85z⟩ := ratrow2 RB.out
          obtain ⟨v860, v861, _, _, v86z⟩ := ratrow2 RC.out
          go_wp2_with fail
          clear hw82 v840 v841 v84z v850 v851 v85z v860 v861 v86z
          refine C83.out.mono ?_
          rintro e w87 ⟨rfl, hw88⟩
          clear C83
          replace HM := Lib.hid (HM.out.below hw88)
          replace HT := Lib.hid (RowIs.below HT.out hw88)
          replace HG := Lib.hid (HG.out.below hw88)
          replace HG' := Lib.hid (HG'.out.below hw88)
          replace HA := Lib.hid (HA.out.below hw88)
          replace HC := Lib.hid (HC.out.below hw88)
          replace HB0 := Lib.hid (HB0.out.below hw88)
          replace RA := Lib.hid (RowIs.below RA.out hw88)
          replace RB := Lib.hid (RowIs.below RB.out hw88)
          replace RC := Lib.hid (RowIs.below RC.out hw88)
          replace hB := bup hB hw88
          have hC89 := less_small HS3.out HS2.out w87
          rw [hl2] at hC89
          try dsimp only [re2, re3, proofV, zeroP] at hC89
          have C89 := Lib.hid hC89
          clear hC89
          obtain ⟨v900, v901, _, _, v90z⟩ := ratrow2 RA.out
          obtain ⟨v910, v911, _, _, v91z⟩ := ratrow2 RB.out
          obtain ⟨v920, v921, _, _, v92z⟩ := ratrow2 RC.out
          go_wp2_with fail
          clear hw88 v900 v901 v90z v910 v911 v91z v920 v921 v92z
          refine C89.out.mono ?_
          rintro e w93 ⟨rfl, hw94⟩
          clear C89
          replace HM := Lib.hid (HM.out.below hw94)
          replace HT := Lib.hid (RowIs.below HT.out hw94)
          replace HG := Lib.hid (HG.out.below hw94)
          replace HG' := Lib.hid (HG'.out.below hw94)
          replace HA := Lib.hid (HA.out.below hw94)
          replace HC := Lib.hid (HC.out.below hw94)
          replace HB0 := Lib.hid (HB0.out.below hw94)
          replace RA := Lib.hid (RowIs.below RA.out hw94)
          replace RB := Lib.hid (RowIs.below RB.out hw94)
          replace RC := Lib.hid (RowIs.below RC.out hw94)
          replace hB := bup hB hw94
          have hC95 := less_small HS1.out HS3.out w93
          rw [hl3] at hC95
          try dsimp only [re2, re3, proofV, zeroP] at hC95
          have C95 := Lib.hid hC95
          clear hC95
          obtain ⟨v960, v961, _, _, v96z⟩ := ratrow2 RA.out
          obtain ⟨v970, v971, _, _, v97z⟩ := ratrow2 RB.out
          obtain ⟨v980, v981, _, _, v98z⟩ := ratrow2 RC.out
          go_wp2_with fail
          clear hw94 v960 v961 v96z v970 v971 v97z v980 v981 v98z
          refine C95.out.mono ?_
          rintro e w99 ⟨rfl, hw100⟩
          clear C95
          replace HM := Lib.hid (HM.out.below hw100)
          replace HT := Lib.hid (RowIs.below HT.out hw100)
          replace HG := Lib.hid (HG.out.below hw100)
          replace HG' := Lib.hid (HG'.out.below hw100)
          replace HA := Lib.hid (HA.out.below hw100)
          replace HC := Lib.hid (HC.out.below hw100)
          replace HB0 := Lib.hid (HB0.out.below hw100)
          replace RA := Lib.hid (RowIs.below RA.out hw100)
          replace RB := Lib.hid (RowIs.below RB.out hw100)
          replace RC := Lib.hid (RowIs.below RC.out hw100)
          replace hB := bup hB hw100
          obtain ⟨tc0, tc1, _, _, tz⟩ := ratrow2 HT.out
          go_wp2_with fail
          clear hw100 tc0 tc1 tz
          have hA0 := fun (x : World) (hx : Below w99.heap.size w99 x) => Deserves_c a (some ⟨gHA, 0, none⟩) j cap j cHA m A l c sure x (HM.out.below hx) (HA.out.below hx) hn hn
          simp only [HD1.out] at hA0
          have A0_ := Lib.hid hA0
          clear hA0
          have hA1 := fun (x : World) (hx : Below w99.heap.size w99 x) => Deserves_c a (some ⟨gHC, 0, none⟩) j cap j cHC m A' l c sure x (HM.out.below hx) (HC.out.below hx) hn hn
          simp only [HD2.out] at hA1
          have A1_ := Lib.hid hA1
          clear hA1
          have hA2 := fun (x : World) (hx : Below w99.heap.size w99 x) => Deserves_c a (some ⟨gB, 0, none⟩) j cap j cB m S l c sure x (HM.out.below hx) (HB0.out.below hx) hn hn
          simp only [HD3.out] at hA2
          have A2_ := Lib.hid hA2
          clear hA2
          obtain ⟨v1010, v1011, _, _, v101z⟩ := ratrow2 HT.out
          have hlc := fun (x : Later w99) => later_cell x
          refine wp_region_later (by kernel_rfl) (by kernel_rfl) ?_
          repeat (go_big_quiet_step ((first | (with_reducible refine calls_later (A0_.out _ (Later.h _))) | (with_reducible refine calls_later (A1_.out _ (Later.h _))) | (with_reducible refine calls_later (A2_.out _ (Later.h _))))))
          refine wpQuiet_nil ?_
          clear hlc A0_ A1_ A2_ v1010 v1011 v101z
          rintro ⟨w102, hw103⟩
          replace HM := Lib.hid (HM.out.below hw103)
          replace HT := Lib.hid (RowIs.below HT.out hw103)
          replace HG := Lib.hid (HG.out.below hw103)
          replace HG' := Lib.hid (HG'.out.below hw103)
          replace HA := Lib.hid (HA.out.below hw103)
          replace HC := Lib.hid (HC.out.below hw103)
          replace HB0 := Lib.hid (HB0.out.below hw103)
          replace RA := Lib.hid (RowIs.below RA.out hw103)
          replace RB := Lib.hid (RowIs.below RB.out hw103)
          replace RC := Lib.hid (RowIs.below RC.out hw103)
          replace hB := bup hB hw103
          cases e1 : d1 != 0
          case true =>
            go_wp2_with fail
            refine (works_c _).mono ?_
            rintro e wz ⟨rfl, hbz⟩
            go_wp2
            go_ret
            exact ⟨rfl, bup hB hbz⟩
          case false =>
          cases e2 : d2 != 0
          case true =>
            go_wp2_with fail
            refine (works_c _).mono ?_
            rintro e wz ⟨rfl, hbz⟩
            go_wp2
            go_ret
            exact ⟨rfl, bup hB hbz⟩
          case false =>
            have e3 : (d3 == 0) = true := by have h := HDD.out; rw [e1, e2] at h; simpa using h
            go_wp2_with fail
            refine (works_c _).mono ?_
            rintro e wz ⟨rfl, hbz⟩
            go_wp2
            go_ret
            exact ⟨rfl, bup hB hbz⟩
      case false =>
        cases hl3 : ltB x1 x2 z1 z2
        case true =>
          have hl4 : ltB y1 y2 z1 z2 = false := by have h := HB2.out; rw [hl3] at h; simpa using h
          have hC104 := small_c x1 x2 Y18 HS1.out
          try dsimp only [re2, re3, proofV, zeroP] at hC104
          have C104 := Lib.hid hC104
          clear hC104
          obtain ⟨v1050, v1051, _, _, v105z⟩ := ratrow2 RA.out
          obtain ⟨v1060, v1061, _, _, v106z⟩ := ratrow2 RB.out
          obtain ⟨v1070, v1071, _, _, v107z⟩ := ratrow2 RC.out
          go_wp2_with fail
          clear hw17 hbRC hY18 hy19 v1050 v1051 v105z v1060 v1061 v106z v1070 v1071 v107z
          refine C104.out.mono ?_
          rintro e w108 ⟨rfl, hw109⟩
          clear C104
          replace HM := Lib.hid (HM.out.below hw109)
          replace HT := Lib.hid (RowIs.below HT.out hw109)
          replace HG := Lib.hid (HG.out.below hw109)
          replace HG' := Lib.hid (HG'.out.below hw109)
          replace HA := Lib.hid (HA.out.below hw109)
          replace HC := Lib.hid (HC.out.below hw109)
          replace HB0 := Lib.hid (HB0.out.below hw109)
          replace RA := Lib.hid (RowIs.below RA.out hw109)
          replace RB := Lib.hid (RowIs.below RB.out hw109)
          replace RC := Lib.hid (RowIs.below RC.out hw109)
          replace hB := bup hB hw109
          have hC110 := small_c y1 y2 w108 HS2.out
          try dsimp only [re2, re3, proofV, zeroP] at hC110
          have C110 := Lib.hid hC110
          clear hC110
          obtain ⟨v1110, v1111, _, _, v111z⟩ := ratrow2 RA.out
          obtain ⟨v1120, v1121, _, _, v112z⟩ := ratrow2 RB.out
          obtain ⟨v1130, v1131, _, _, v113z⟩ := ratrow2 RC.out
          go_wp2_with fail
          clear hw109 v1110 v1111 v111z v1120 v1121 v112z v1130 v1131 v113z
          refine C110.out.mono ?_
          rintro e w114 ⟨rfl, hw115⟩
          clear C110
          replace HM := Lib.hid (HM.out.below hw115)
          replace HT := Lib.hid (RowIs.below HT.out hw115)
          replace HG := Lib.hid (HG.out.below hw115)
          replace HG' := Lib.hid (HG'.out.below hw115)
          replace HA := Lib.hid (HA.out.below hw115)
          replace HC := Lib.hid (HC.out.below hw115)
          replace HB0 := Lib.hid (HB0.out.below hw115)
          replace RA := Lib.hid (RowIs.below RA.out hw115)
          replace RB := Lib.hid (RowIs.below RB.out hw115)
          replace RC := Lib.hid (RowIs.below RC.out hw115)
          replace hB := bup hB hw115
          have hC116 := small_c z1 z2 w114 HS3.out
          try dsimp only [re2, re3, proofV, zeroP] at hC116
          have C116 := Lib.hid hC116
          clear hC116
          obtain ⟨v1170, v1171, _, _, v117z⟩ := ratrow2 RA.out
          obtain ⟨v1180, v1181, _, _, v118z⟩ := ratrow2 RB.out
          obtain ⟨v1190, v1191, _, _, v119z⟩ := ratrow2 RC.out
          go_wp2_with fail
          clear hw115 v1170 v1171 v117z v1180 v1181 v118z v1190 v1191 v119z
          refine C116.out.mono ?_
          rintro e w120 ⟨rfl, hw121⟩
          clear C116
          replace HM := Lib.hid (HM.out.below hw121)
          replace HT := Lib.hid (RowIs.below HT.out hw121)
          replace HG := Lib.hid (HG.out.below hw121)
          replace HG' := Lib.hid (HG'.out.below hw121)
          replace HA := Lib.hid (HA.out.below hw121)
          replace HC := Lib.hid (HC.out.below hw121)
          replace HB0 := Lib.hid (HB0.out.below hw121)
          replace RA := Lib.hid (RowIs.below RA.out hw121)
          replace RB := Lib.hid (RowIs.below RB.out hw121)
          replace RC := Lib.hid (RowIs.below RC.out hw121)
          replace hB := bup hB hw121
          have hC122 := less_small HS3.out HS1.out w120
          rw [hl1] at hC122
          try dsimp only [re2, re3, proofV, zeroP] at hC122
          have C122 := Lib.hid hC122
          clear hC122
          obtain ⟨v1230, v1231, _, _, v123z⟩ := ratrow2 RA.out
          obtain ⟨v1240, v1241, _, _, v124z⟩ := ratrow2 RB.out
          obtain ⟨v1250, v1251, _, _, v125z⟩ := ratrow2 RC.out
          go_wp2_with fail
          clear hw121 v1230 v1231 v123z v1240 v1241 v124z v1250 v1251 v125z
          refine C122.out.mono ?_
          rintro e w126 ⟨rfl, hw127⟩
          clear C122
          replace HM := Lib.hid (HM.out.below hw127)
          replace HT := Lib.hid (RowIs.below HT.out hw127)
          replace HG := Lib.hid (HG.out.below hw127)
          replace HG' := Lib.hid (HG'.out.below hw127)
          replace HA := Lib.hid (HA.out.below hw127)
          replace HC := Lib.hid (HC.out.below hw127)
          replace HB0 := Lib.hid (HB0.out.below hw127)
          replace RA := Lib.hid (RowIs.below RA.out hw127)
          replace RB := Lib.hid (RowIs.below RB.out hw127)
          replace RC := Lib.hid (RowIs.below RC.out hw127)
          replace hB := bup hB hw127
          have hC128 := less_small HS1.out HS3.out w126
          rw [hl3] at hC128
          try dsimp only [re2, re3, proofV, zeroP] at hC128
          have C128 := Lib.hid hC128
          clear hC128
          obtain ⟨v1290, v1291, _, _, v129z⟩ := ratrow2 RA.out
          obtain ⟨v1300, v1301, _, _, v130z⟩ := ratrow2 RB.out
          obtain ⟨v1310, v1311, _, _, v131z⟩ := ratrow2 RC.out
          go_wp2_with fail
          clear hw127 v1290 v1291 v129z v1300 v1301 v130z v1310 v1311 v131z
          refine C128.out.mono ?_
          rintro e w132 ⟨rfl, hw133⟩
          clear C128
          replace HM := Lib.hid (HM.out.below hw133)
          replace HT := Lib.hid (RowIs.below HT.out hw133)
          replace HG := Lib.hid (HG.out.below hw133)
          replace HG' := Lib.hid (HG'.out.below hw133)
          replace HA := Lib.hid (HA.out.below hw133)
          replace HC := Lib.hid (HC.out.below hw133)
          replace HB0 := Lib.hid (HB0.out.below hw133)
          replace RA := Lib.hid (RowIs.below RA.out hw133)
          replace RB := Lib.hid (RowIs.below RB.out hw133)
          replace RC := Lib.hid (RowIs.below RC.out hw133)
          replace hB := bup hB hw133
          have hC134 := less_small HS2.out HS3.out w132
          rw [hl4] at hC134
          try dsimp only [re2, re3, proofV, zeroP] at hC134
          have C134 := Lib.hid hC134
          clear hC134
          obtain ⟨v1350, v1351, _, _, v135z⟩ := ratrow2 RA.out
          obtain ⟨v1360, v1361, _, _, v136z⟩ := ratrow2 RB.out
          obtain ⟨v1370, v1371, _, _, v137z⟩ := ratrow2 RC.out
          go_wp2_with fail
          clear hw133 v1350 v1351 v135z v1360 v1361 v136z v1370 v1371 v137z
          refine C134.out.mono ?_
          rintro e w138 ⟨rfl, hw139⟩
          clear C134
          replace HM := Lib.hid (HM.out.below hw139)
          replace HT := Lib.hid (RowIs.below HT.out hw139)
          replace HG := Lib.hid (HG.out.below hw139)
          replace HG' := Lib.hid (HG'.out.below hw139)
          replace HA := Lib.hid (HA.out.below hw139)
          replace HC := Lib.hid (HC.out.below hw139)
          replace HB0 := Lib.hid (HB0.out.below hw139)
          replace RA := Lib.hid (RowIs.below RA.out hw139)
          replace RB := Lib.hid (RowIs.below RB.out hw139)
          replace RC := Lib.hid (RowIs.below RC.out hw139)
          replace hB := bup hB hw139
          obtain ⟨tc0, tc1, _, _, tz⟩ := ratrow2 HT.out
          go_wp2_with fail
          clear hw139 tc0 tc1 tz
          have hA0 := fun (x : World) (hx : Below w138.heap.size w138 x) => Deserves_c a (some ⟨gHA, 0, none⟩) j cap j cHA m A l c sure x (HM.out.below hx) (HA.out.below hx) hn hn
          simp only [HD1.out] at hA0
          have A0_ := Lib.hid hA0
          clear hA0
          have hA1 := fun (x : World) (hx : Below w138.heap.size w138 x) => Deserves_c a (some ⟨gHC, 0, none⟩) j cap j cHC m A' l c sure x (HM.out.below hx) (HC.out.below hx) hn hn
          simp only [HD2.out] at hA1
          have A1_ := Lib.hid hA1
          clear hA1
          have hA2 := fun (x : World) (hx : Below w138.heap.size w138 x) => Deserves_c a (some ⟨gB, 0, none⟩) j cap j cB m S l c sure x (HM.out.below hx) (HB0.out.below hx) hn hn
          simp only [HD3.out] at hA2
          have A2_ := Lib.hid hA2
          clear hA2
          obtain ⟨v1400, v1401, _, _, v140z⟩ := ratrow2 HT.out
          have hlc := fun (x : Later w138) => later_cell x
          refine wp_region_later (by kernel_rfl) (by kernel_rfl) ?_
          repeat (go_big_quiet_step ((first | (with_reducible refine calls_later (A0_.out _ (Later.h _))) | (with_reducible refine calls_later (A1_.out _ (Later.h _))) | (with_reducible refine calls_later (A2_.out _ (Later.h _))))))
          refine wpQuiet_nil ?_
          clear hlc A0_ A1_ A2_ v1400 v1401 v140z
          rintro ⟨w141, hw142⟩
          replace HM := Lib.hid (HM.out.below hw142)
          replace HT := Lib.hid (RowIs.below HT.out hw142)
          replace HG := Lib.hid (HG.out.below hw142)
          replace HG' := Lib.hid (HG'.out.below hw142)
          replace HA := Lib.hid (HA.out.below hw142)
          replace HC := Lib.hid (HC.out.below hw142)
          replace HB0 := Lib.hid (HB0.out.below hw142)
          replace RA := Lib.hid (RowIs.below RA.out hw142)
          replace RB := Lib.hid (RowIs.below RB.out hw142)
          replace RC := Lib.hid (RowIs.below RC.out hw142)
          replace hB := bup hB hw142
          cases e1 : d1 != 0
          case true =>
            go_wp2_with fail
            refine (works_c _).mono ?_
            rintro e wz ⟨rfl, hbz⟩
            go_wp2
            go_ret
            exact ⟨rfl, bup hB hbz⟩
          case false =>
          cases e2 : d2 != 0
          case true =>
            go_wp2_with fail
            refine (works_c _).mono ?_
            rintro e wz ⟨rfl, hbz⟩
            go_wp2
            go_ret
            exact ⟨rfl, bup hB hbz⟩
          case false =>
            have e3 : (d3 == 0) = true := by have h := HDD.out; rw [e1, e2] at h; simpa using h
            go_wp2_with fail
            refine (works_c _).mono ?_
            rintro e wz ⟨rfl, hbz⟩
            go_wp2
            go_ret
            exact ⟨rfl, bup hB hbz⟩
        case false =>
          have hC143 := small_c x1 x2 Y18 HS1.out
          try dsimp only [re2, re3, proofV, zeroP] at hC143
          have C143 := Lib.hid hC143
          clear hC143
          obtain ⟨v1440, v1441, _, _, v144z⟩ := ratrow2 RA.out
          obtain ⟨v1450, v1451, _, _, v145z⟩ := ratrow2 RB.out
          obtain ⟨v1460, v1461, _, _, v146z⟩ := ratrow2 RC.out
          go_wp2_with fail
          clear hw17 hbRC hY18 hy19 v1440 v1441 v144z v1450 v1451 v145z v1460 v1461 v146z
          refine C143.out.mono ?_
          rintro e w147 ⟨rfl, hw148⟩
          clear C143
          replace HM := Lib.hid (HM.out.below hw148)
          replace HT := Lib.hid (RowIs.below HT.out hw148)
          replace HG := Lib.hid (HG.out.below hw148)
          replace HG' := Lib.hid (HG'.out.below hw148)
          replace HA := Lib.hid (HA.out.below hw148)
          replace HC := Lib.hid (HC.out.below hw148)
          replace HB0 := Lib.hid (HB0.out.below hw148)
          replace RA := Lib.hid (RowIs.below RA.out hw148)
          replace RB := Lib.hid (RowIs.below RB.out hw148)
          replace RC := Lib.hid (RowIs.below RC.out hw148)
          replace hB := bup hB hw148
          have hC149 := small_c y1 y2 w147 HS2.out
          try dsimp only [re2, re3, proofV, zeroP] at hC149
          have C149 := Lib.hid hC149
          clear hC149
          obtain ⟨v1500, v1501, _, _, v150z⟩ := ratrow2 RA.out
          obtain ⟨v1510, v1511, _, _, v151z⟩ := ratrow2 RB.out
          obtain ⟨v1520, v1521, _, _, v152z⟩ := ratrow2 RC.out
          go_wp2_with fail
          clear hw148 v1500 v1501 v150z v1510 v1511 v151z v1520 v1521 v152z
          refine C149.out.mono ?_
          rintro e w153 ⟨rfl, hw154⟩
          clear C149
          replace HM := Lib.hid (HM.out.below hw154)
          replace HT := Lib.hid (RowIs.below HT.out hw154)
          replace HG := Lib.hid (HG.out.below hw154)
          replace HG' := Lib.hid (HG'.out.below hw154)
          replace HA := Lib.hid (HA.out.below hw154)
          replace HC := Lib.hid (HC.out.below hw154)
          replace HB0 := Lib.hid (HB0.out.below hw154)
          replace RA := Lib.hid (RowIs.below RA.out hw154)
          replace RB := Lib.hid (RowIs.below RB.out hw154)
          replace RC := Lib.hid (RowIs.below RC.out hw154)
          replace hB := bup hB hw154
          have hC155 := small_c z1 z2 w153 HS3.out
          try dsimp only [re2, re3, proofV, zeroP] at hC155
          have C155 := Lib.hid hC155
          clear hC155
          obtain ⟨v1560, v1561, _, _, v156z⟩ := ratrow2 RA.out
          obtain ⟨v1570, v1571, _, _, v157z⟩ := ratrow2 RB.out
          obtain ⟨v1580, v1581, _, _, v158z⟩ := ratrow2 RC.out
          go_wp2_with fail
          clear hw154 v1560 v1561 v156z v1570 v1571 v157z v1580 v1581 v158z
          refine C155.out.mono ?_
          rintro e w159 ⟨rfl, hw160⟩
          clear C155
          replace HM := Lib.hid (HM.out.below hw160)
          replace HT := Lib.hid (RowIs.below HT.out hw160)
          replace HG := Lib.hid (HG.out.below hw160)
          replace HG' := Lib.hid (HG'.out.below hw160)
          replace HA := Lib.hid (HA.out.below hw160)
          replace HC := Lib.hid (HC.out.below hw160)
          replace HB0 := Lib.hid (HB0.out.below hw160)
          replace RA := Lib.hid (RowIs.below RA.out hw160)
          replace RB := Lib.hid (RowIs.below RB.out hw160)
          replace RC := Lib.hid (RowIs.below RC.out hw160)
          replace hB := bup hB hw160
          have hC161 := less_small HS3.out HS1.out w159
          rw [hl1] at hC161
          try dsimp only [re2, re3, proofV, zeroP] at hC161
          have C161 := Lib.hid hC161
          clear hC161
          obtain ⟨v1620, v1621, _, _, v162z⟩ := ratrow2 RA.out
          obtain ⟨v1630, v1631, _, _, v163z⟩ := ratrow2 RB.out
          obtain ⟨v1640, v1641, _, _, v164z⟩ := ratrow2 RC.out
          go_wp2_with fail
          clear hw160 v1620 v1621 v162z v1630 v1631 v163z v1640 v1641 v164z
          refine C161.out.mono ?_
          rintro e w165 ⟨rfl, hw166⟩
          clear C161
          replace HM := Lib.hid (HM.out.below hw166)
          replace HT := Lib.hid (RowIs.below HT.out hw166)
          replace HG := Lib.hid (HG.out.below hw166)
          replace HG' := Lib.hid (HG'.out.below hw166)
          replace HA := Lib.hid (HA.out.below hw166)
          replace HC := Lib.hid (HC.out.below hw166)
          replace HB0 := Lib.hid (HB0.out.below hw166)
          replace RA := Lib.hid (RowIs.below RA.out hw166)
          replace RB := Lib.hid (RowIs.below RB.out hw166)
          replace RC := Lib.hid (RowIs.below RC.out hw166)
          replace hB := bup hB hw166
          have hC167 := less_small HS1.out HS3.out w165
          rw [hl3] at hC167
          try dsimp only [re2, re3, proofV, zeroP] at hC167
          have C167 := Lib.hid hC167
          clear hC167
          obtain ⟨v1680, v1681, _, _, v168z⟩ := ratrow2 RA.out
          obtain ⟨v1690, v1691, _, _, v169z⟩ := ratrow2 RB.out
          obtain ⟨v1700, v1701, _, _, v170z⟩ := ratrow2 RC.out
          go_wp2_with fail
          clear hw166 v1680 v1681 v168z v1690 v1691 v169z v1700 v1701 v170z
          refine C167.out.mono ?_
          rintro e w171 ⟨rfl, hw172⟩
          clear C167
          replace HM := Lib.hid (HM.out.below hw172)
          replace HT := Lib.hid (RowIs.below HT.out hw172)
          replace HG := Lib.hid (HG.out.below hw172)
          replace HG' := Lib.hid (HG'.out.below hw172)
          replace HA := Lib.hid (HA.out.below hw172)
          replace HC := Lib.hid (HC.out.below hw172)
          replace HB0 := Lib.hid (HB0.out.below hw172)
          replace RA := Lib.hid (RowIs.below RA.out hw172)
          replace RB := Lib.hid (RowIs.below RB.out hw172)
          replace RC := Lib.hid (RowIs.below RC.out hw172)
          replace hB := bup hB hw172
          obtain ⟨tc0, tc1, _, _, tz⟩ := ratrow2 HT.out
          go_wp2_with fail
          clear hw172 tc0 tc1 tz
          have hA0 := fun (x : World) (hx : Below w171.heap.size w171 x) => Deserves_c a (some ⟨gHA, 0, none⟩) j cap j cHA m A l c sure x (HM.out.below hx) (HA.out.below hx) hn hn
          simp only [HD1.out] at hA0
          have A0_ := Lib.hid hA0
          clear hA0
          have hA1 := fun (x : World) (hx : Below w171.heap.size w171 x) => Deserves_c a (some ⟨gHC, 0, none⟩) j cap j cHC m A' l c sure x (HM.out.below hx) (HC.out.below hx) hn hn
          simp only [HD2.out] at hA1
          have A1_ := Lib.hid hA1
          clear hA1
          have hA2 := fun (x : World) (hx : Below w171.heap.size w171 x) => Deserves_c a (some ⟨gB, 0, none⟩) j cap j cB m S l c sure x (HM.out.below hx) (HB0.out.below hx) hn hn
          simp only [HD3.out] at hA2
          have A2_ := Lib.hid hA2
          clear hA2
          obtain ⟨v1730, v1731, _, _, v173z⟩ := ratrow2 HT.out
          have hlc := fun (x : Later w171) => later_cell x
          refine wp_region_later (by kernel_rfl) (by kernel_rfl) ?_
          repeat (go_big_quiet_step ((first | (with_reducible refine calls_later (A0_.out _ (Later.h _))) | (with_reducible refine calls_later (A1_.out _ (Later.h _))) | (with_reducible refine calls_later (A2_.out _ (Later.h _))))))
          refine wpQuiet_nil ?_
          clear hlc A0_ A1_ A2_ v1730 v1731 v173z
          rintro ⟨w174, hw175⟩
          replace HM := Lib.hid (HM.out.below hw175)
          replace HT := Lib.hid (RowIs.below HT.out hw175)
          replace HG := Lib.hid (HG.out.below hw175)
          replace HG' := Lib.hid (HG'.out.below hw175)
          replace HA := Lib.hid (HA.out.below hw175)
          replace HC := Lib.hid (HC.out.below hw175)
          replace HB0 := Lib.hid (HB0.out.below hw175)
          replace RA := Lib.hid (RowIs.below RA.out hw175)
          replace RB := Lib.hid (RowIs.below RB.out hw175)
          replace RC := Lib.hid (RowIs.below RC.out hw175)
          replace hB := bup hB hw175
          cases e1 : d1 != 0
          case true =>
            go_wp2_with fail
            refine (works_c _).mono ?_
            rintro e wz ⟨rfl, hbz⟩
            go_wp2
            go_ret
            exact ⟨rfl, bup hB hbz⟩
          case false =>
          cases e2 : d2 != 0
          case true =>
            go_wp2_with fail
            refine (works_c _).mono ?_
            rintro e wz ⟨rfl, hbz⟩
            go_wp2
            go_ret
            exact ⟨rfl, bup hB hbz⟩
          case false =>
            have e3 : (d3 == 0) = true := by have h := HDD.out; rw [e1, e2] at h; simpa using h
            go_wp2_with fail
            refine (works_c _).mono ?_
            rintro e wz ⟨rfl, hbz⟩
            go_wp2
            go_ret
            exact ⟨rfl, bup hB hbz⟩

end Go.Proofs.YtehafggcncbnkaaGreat
