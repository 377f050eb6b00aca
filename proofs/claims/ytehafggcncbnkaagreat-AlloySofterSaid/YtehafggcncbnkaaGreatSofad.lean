/- The law AlloySofter answers true. Written by tools/lawsofter.py. -/
import Derived.WalkKit
import Derived.Test.YtehafggcncbnkaaGreatProg
import Derived.Test.YtehafggcncbnkaaGreatBasaa
import Derived.Test.YtehafggcncbnkaaGreatBasad
import Derived.Test.YtehafggcncbnkaaGreatBasao
import Derived.Test.YtehafggcncbnkaaGreatBasas
import Derived.Test.YtehafggcncbnkaaGreatSofaa
import Derived.Test.YtehafggcncbnkaaGreatSofab
import Derived.Test.YtehafggcncbnkaaGreatSofac
import Derived.Test.YtehafggcncbnkaaGreatBasau
import Derived.Test.YtehafggcncbnkaaGreatBasaq
import Derived.Test.YtehafggcncbnkaaGreatBasar
import Derived.Test.YtehafggcncbnkaaGreatBasat
import Derived.Test.YtehafggcncbnkaaGreatBasav
namespace Go.Proofs.YtehafggcncbnkaaGreat
open Go Go.RowKit

/-- A touch that asks for less is deserved still. -/
theorem soft_good {n : Nat} {m : Nat → M5} {l c l' c' : Int} {s : Bool} {f : Nat → Int} (hl : l ≤ l') (hc : c' ≤ c) (hf : ∀ i, i < n → 0 ≤ f i) (hg : goodB s n m l c f = true) : goodB s n m l' c' f = true := by
  obtain ⟨g1, g2⟩ := of_decide_eq_true hg
  have h0 := sumF_nonneg hf
  have h1 := Int.mul_le_mul_of_nonneg_right hl h0
  have h2 := Int.mul_le_mul_of_nonneg_right hc h0
  exact decide_eq_true ⟨by omega, by omega⟩

theorem short_one (w : World) (x : Int) (T : TypeId) : Shorts (w.alloc (.cells #[.int .u16 x] T)) (some ⟨w.heap.size, 0, none⟩) 1 (fun _ => x) :=
  .inr ⟨w.heap.size, 0, rfl, by simp, fun i hi => by
    obtain rfl : i = 0 := by omega
    exact RowIs.cell (heap_new_at w (.cells #[.int .u16 x] T) _ rfl) 0⟩

set_option maxRecDepth 100000 in
set_option maxHeartbeats 16000000 in
theorem law_softer_c (a b : Option Addr) (n cap len cap2 : Nat) (m : Nat → M5) (g : Nat → Int) (l c le co z : Int) (sure : Bool) (w : World) (hm : Metals w a n m) (hg : Shorts w b len g) (hgb : ∀ i, i < len → 0 ≤ g i ∧ g i ≤ 65535) (hle : 0 ≤ le ∧ le ≤ 65535) (hco : 0 ≤ co ∧ co ≤ 65535) (hz : 0 ≤ z ∧ z ≤ 255) :
    Calls Tryz.prog 10 #[.slice a n cap, .agg #[.int .i64 l, .int .i64 c], .bool sure, .slice b len cap2, .int .u16 le, .int .u16 co, .int .u8 z] w fun e w' => e = .returned (.bool true) ∧ Below w.heap.size w w' := by
  obtain ⟨W, hW⟩ : ∃ W, w.alloc (.cells #[.int .i64 l, .int .i64 c] 24) = W := ⟨_, rfl⟩
  have hB : Below w.heap.size w W := by rw [← hW]; exact (Below.alloc1 (Below.refl _ _) _ (Nat.le_refl _))
  have HT := Lib.hid (show RowIs W (w.heap.size) #[.int .i64 l, .int .i64 c] 24 by rw [← hW]; exact heap_new_at _ _ _ rfl)
  have HM := Lib.hid (hm.below hB)
  obtain ⟨bt, hbt⟩ : ∃ bt, w.heap.size = bt := ⟨_, rfl⟩
  rw [hbt] at HT
  have HG := Lib.hid (hg.below hB)
  clear hm hg
  have HFi := Lib.hid (fine_c a n cap m l c W HM.out)
  by_cases hfine : n ≤ 12 ∧ bothE n m l c = 0
  case neg =>
    have hd : decide (n ≤ 12 ∧ bothE n m l c = 0) = false := decide_eq_false hfine
    rw [hd] at HFi
    obtain ⟨tc0, tc1, _, _, tz⟩ := ratrow2 HT.out
    go_enter Tryz.func10, Tryz.ntmps10
    go_wp2_with fail
    refine HFi.out.mono ?_
    rintro e w1 ⟨rfl, hb1⟩
    go_wp2_with fail
    refine (works_c _).mono ?_
    rintro e wz ⟨rfl, hbz⟩
    go_wp2
    go_ret
    exact ⟨rfl, bup hB (bup hb1 hbz)⟩
  case pos =>
  have hd : decide (n ≤ 12 ∧ bothE n m l c = 0) = true := decide_eq_true hfine
  rw [hd] at HFi
  by_cases hl : len ≤ 20
  case neg =>
    have hlt0 : decide ((20 : Int) < (len : Int)) = true := by simp; omega
    obtain ⟨tc0, tc1, _, _, tz⟩ := ratrow2 HT.out
    go_enter Tryz.func10, Tryz.ntmps10
    go_wp2_with fail
    refine HFi.out.mono ?_
    rintro e w1 ⟨rfl, hb1⟩
    go_wp2_with fail
    refine (works_c _).mono ?_
    rintro e wz ⟨rfl, hbz⟩
    go_wp2
    go_ret
    exact ⟨rfl, bup hB (bup hb1 hbz)⟩
  case pos =>
  have hlt0 : decide ((20 : Int) < (len : Int)) = false := by simp; omega
  have hbo := hfine.2
  have hmet := (both_ok hbo).1
  have hF := fine_of hmet
  have hn16 : 1 ≤ n ∧ n ≤ 6 := ⟨hF.1, hF.2.1⟩
  have hn12 : n ≤ 12 := by omega
  have hn : n ≤ 1048576 := by omega
  obtain ⟨A, hA⟩ : ∃ A, mixedF n len g = A := ⟨_, rfl⟩
  have hAb : ∀ i, 0 ≤ A i ∧ A i ≤ 65535 := by rw [← hA]; exact mixed_bd (by omega) hgb
  have hAp : 0 < sumF A n := by rw [← hA]; exact mixed_pos hn16.1 (by omega) hgb
  have hA6 : ∀ i, i < n → 0 ≤ A i ∧ A i ≤ 1000000 := fun i _ => by have := hAb i; omega
  have hAn : ∀ i, i < n → 0 ≤ A i := fun i _ => (hAb i).1
  obtain ⟨ba, oa, ha0, hba, -⟩ := Metals.at HM.out 0 (by omega)
  subst ha0
  obtain ⟨-, ht1, ht2, ht3, ht4⟩ := both_ok hbo
  obtain ⟨l', hl1⟩ : ∃ x, min (1000 : Int) (l + le) = x := ⟨_, rfl⟩
  obtain ⟨c', hc1⟩ : ∃ x, max (0 : Int) (c - co) = x := ⟨_, rfl⟩
  have hll : l ≤ l' := by omega
  have hcc : c' ≤ c := by omega
  have hbo' : bothE n m l' c' = 0 := by
    unfold bothE touchE
    rw [if_neg (by omega), if_neg (by omega)]
  obtain ⟨k, hk⟩ : ∃ k : Nat, z % (n : Int) = (k : Int) := ⟨(z % (n : Int)).toNat, by have := Int.emod_nonneg z (show (n : Int) ≠ 0 by omega); omega⟩
  have hkn : k < n := by have := Int.emod_lt_of_pos z (show (0 : Int) < n by omega); omega
  obtain ⟨q, hq⟩ : ∃ q, knownM 1 (fun _ => le) m k = q := ⟨_, rfl⟩
  have hqb := known_bd (len := 1) (f := fun _ => le) hF (fun _ _ => hle) k hkn
  rw [hq] at hqb
  have hFm := hF.2.2 k hkn
  have hFY : Fine n (putM m k q) := ⟨hF.1, hF.2.1, fun i hi => by
    unfold putM
    split
    · rename_i e
      subst e
      obtain ⟨e1, e2, e3, e4, e5⟩ := hqb
      rw [e1, ← e2, ← e3]
      omega
    · exact hF.2.2 i hi⟩
  have hboY : bothE n (putM m k q) l c = 0 := by
    unfold bothE
    rw [if_neg (by rw [fine_metals hFY]; simp)]
    unfold bothE at hbo
    rw [if_neg (by omega)] at hbo
    exact hbo
  have iY : goodB true n m l c A = true → goodB true n (putM m k q) l c A = true := fun hg => good_mono hAn (fun i hi => by
    unfold putM
    split
    · rename_i e
      subst e
      simp only [bad, good, if_true]
      omega
    · exact ⟨Int.le_refl _, Int.le_refl _⟩) hg
  have i1 : goodB sure n m l c A = true → goodB sure n m l' c' A = true := soft_good hll hcc hAn
  have D1 := deserves_of (s := sure) hbo hA6 hAp
  have D2 := deserves_of (s := sure) hbo' hA6 hAp
  have D3 := deserves_of (s := true) hbo hA6 hAp
  have D4 := deserves_of (s := true) hboY hA6 hAp
  have E2 : deservesE n m l c sure n A = 0 → deservesE n m l' c' sure n A = 0 := fun h => by
    rw [D1] at h
    rw [D2]
    cases e : goodB sure n m l c A with
    | true => rw [i1 e]; rfl
    | false => rw [e] at h; simp at h
  have E4 : deservesE n m l c true n A = 0 → deservesE n (putM m k q) l c true n A = 0 := fun h => by
    rw [D3] at h
    rw [D4]
    cases e : goodB true n m l c A with
    | true => rw [iY e]; rfl
    | false => rw [e] at h; simp at h
  obtain ⟨d1, hd1⟩ : ∃ d, deservesE n m l c sure n A = d := ⟨_, rfl⟩
  obtain ⟨d2, hd2⟩ : ∃ d, deservesE n m l' c' sure n A = d := ⟨_, rfl⟩
  obtain ⟨d3, hd3⟩ : ∃ d, deservesE n m l c true n A = d := ⟨_, rfl⟩
  obtain ⟨d4, hd4⟩ : ∃ d, deservesE n (putM m k q) l c true n A = d := ⟨_, rfl⟩
  rw [hd1, hd2] at E2
  rw [hd3, hd4] at E4
  have LC : ∃ (is1 is2 : Bool) (x1 x2 y1 y2 : Int), leastR n m l c sure = (x1, x2, if is1 then 0 else 17) ∧ leastR n m l' c' sure = (y1, y2, if is2 then 0 else 17) ∧
      (if is1 then smallB x1 x2 = true else (x1, x2) = ((0 : Int), (0 : Int))) ∧ (if is2 then smallB y1 y2 = true else (y1, y2) = ((0 : Int), (0 : Int))) ∧ (is1 = true → is2 = true ∧ ltB x1 x2 y1 y2 = false) ∧
      (is1 = true → ∃ s1 s2 t1 t2 u1 u2 v1 v2 : Int, shareR n m l c sure k = ((s1, s2), (t1, t2), 0) ∧ shareR n m l' c' sure k = ((u1, u2), (v1, v2), 0) ∧ smallB s1 s2 = true ∧ smallB t1 t2 = true ∧ smallB u1 u2 = true ∧ smallB v1 v2 = true ∧
        ltB s1 s2 u1 u2 = false ∧ ltB v1 v2 t1 t2 = false ∧ ltB t1 t2 s1 s2 = false) := by
    rcases least_cases hbo sure with ⟨a1, -, a3⟩ | ⟨fa, -, a2, a3⟩
    · rcases least_cases hbo' sure with ⟨b1, -, b3⟩ | ⟨fb, -, b2, b3⟩
      · exact ⟨false, false, 0, 0, 0, 0, a1, b1, rfl, rfl, fun h => (by cases h), fun h => (by cases h)⟩
      · exact ⟨false, true, 0, 0, _, _, a1, b2, rfl, low_small hF b3, fun h => (by cases h), fun h => (by cases h)⟩
    · have hfa : ∀ i, i < n → 0 ≤ fa i := fun i _ => (a3.mix.1 i).1
      have hga := soft_good hll hcc hfa a3.good
      rcases least_cases hbo' sure with ⟨b1, -, b3⟩ | ⟨fb, -, b2, b3⟩
      · have := b3 fa hfa a3.mix.2.2
        rw [hga] at this
        cases this
      · refine ⟨true, true, _, _, _, _, a2, b2, low_small hF a3, low_small hF b3, fun _ => ⟨rfl, low_le (fun _ => rfl) a3 b3 hga⟩, fun _ => ?_⟩
        rcases share_cases hbo sure hkn with ⟨-, -, c3⟩ | ⟨fs, ft, c1, c2⟩
        · have := c3 fa hfa a3.mix.2.2
          rw [a3.good] at this
          cases this
        rcases share_cases hbo' sure hkn with ⟨-, -, e3⟩ | ⟨gs, gt, e1, e2⟩
        · have := e3 fa hfa a3.mix.2.2
          rw [hga] at this
          cases this
        have r1 := fun i (_ : i < n) => c2.mixf.1 i
        have r2 := fun i (_ : i < n) => c2.mixh.1 i
        have r3 := fun i (_ : i < n) => e2.mixf.1 i
        have r4 := fun i (_ : i < n) => e2.mixh.1 i
        refine ⟨_, _, _, _, _, _, _, _, c1, e1, (share_small hn16.2 hkn r1 c2.mixf.2.2).1, (share_small hn16.2 hkn r2 c2.mixh.2.2).1, (share_small hn16.2 hkn r3 e2.mixf.2.2).1, (share_small hn16.2 hkn r4 e2.mixh.2.2).1, ?_, ?_, ?_⟩
        · rw [ltB_rat c2.mixf.2.2 e2.mixf.2.2]
          have := e2.low fs (fun i hi => (r1 i hi).1) (soft_good hll hcc (fun i hi => (r1 i hi).1) c2.goodf)
          exact decide_eq_false (by omega)
        · rw [ltB_rat e2.mixh.2.2 c2.mixh.2.2]
          have := e2.high ft (fun i hi => (r2 i hi).1) (soft_good hll hcc (fun i hi => (r2 i hi).1) c2.goodh)
          exact decide_eq_false (by omega)
        · rw [ltB_rat c2.mixh.2.2 c2.mixf.2.2]
          have := c2.low ft (fun i hi => (r2 i hi).1) c2.goodh
          exact decide_eq_false (by omega)
  obtain ⟨is1, is2, x1, x2, y1, y2, L1, L2, p1, p2, p3, p4⟩ := LC
  have Hd1 := Lib.hid hd1
  have Hd2 := Lib.hid hd2
  have Hd3 := Lib.hid hd3
  have Hd4 := Lib.hid hd4
  have Hgb := Lib.hid hgb
  have HFn := Lib.hid hF
  have Hq := Lib.hid hq
  have hmodT : Int.tmod z (n : Int) = (k : Int) := by rw [Int.tmod_eq_emod_of_nonneg hz.1]; exact hk
  obtain ⟨i0, hi, hz0, hz1, hz2⟩ := info_parts infoMetal
  have ml1 : min (1000 : Int) (wrap64 (l + le)) = l' := by rw [IntWalk.wrap64_in _ ⟨by omega, by omega⟩]; exact hl1
  have mc1 : max (0 : Int) (wrap64 (c - co)) = c' := by rw [IntWalk.wrap64_in _ ⟨by omega, by omega⟩]; exact hc1
  clear hgb hAb hA6 hAp hAn hd1 hd2 hd3 hd4 D1 D2 D3 D4 i1 iY hFY hboY hqb hFm hq hF hbo
  obtain ⟨tc0, tc1, _, _, tz⟩ := ratrow2 HT.out
  go_enter Tryz.func10, Tryz.ntmps10
  go_wp2_with fail
  refine HFi.out.mono ?_
  rintro e w1 ⟨rfl, hb1⟩
  clear tc0 tc1 tz hW hbt
  replace HM := Lib.hid (HM.out.below hb1)
  replace HT := Lib.hid (RowIs.below HT.out hb1)
  replace HG := Lib.hid (HG.out.below hb1)
  replace hB := bup hB hb1
  obtain ⟨Y1, hY1⟩ : ∃ Y1, w1.alloc (.cells #[.int .i64 l', .int .i64 c'] 24) = Y1 := ⟨_, rfl⟩
  have hyY1 : Below w1.heap.size w1 Y1 := by rw [← hY1]; exact Below.alloc1 (Below.refl _ _) _ (Nat.le_refl _)
  obtain ⟨tc0, tc1, _, _, tz⟩ := ratrow2 HT.out
  replace HM := Lib.hid (HM.out.below hyY1)
  replace HT := Lib.hid (RowIs.below HT.out hyY1)
  replace HG := Lib.hid (HG.out.below hyY1)
  replace hB := bup hB hyY1
  have HX := Lib.hid (show RowIs Y1 w1.heap.size #[.int .i64 l', .int .i64 c'] 24 by rw [← hY1]; exact heap_new_at _ _ _ rfl)
  go_wp2_with fail
  obtain ⟨bx, hbx⟩ : ∃ bx, w1.heap.size = bx := ⟨_, rfl⟩
  rw [hbx] at HX ⊢
  clear hyY1 hY1 hbx hb1 tc0 tc1 tz
  refine (mixed_c b n len cap2 g Y1 HG.out hn16 hl Hgb.out).mono ?_
  rintro e w2 ⟨gHA, cHA, gHAl, gHAz, rfl, hHA0, hw3⟩
  replace HM := Lib.hid (HM.out.below hw3)
  replace HT := Lib.hid (RowIs.below HT.out hw3)
  replace HG := Lib.hid (HG.out.below hw3)
  replace HX := Lib.hid (RowIs.below HX.out hw3)
  replace hB := bup hB hw3
  rw [hA] at hHA0
  have HA := Lib.hid hHA0
  clear hHA0 gHAl gHAz
  have hC4 := lawLeast_c (some ⟨ba, oa, none⟩) n cap m l c sure is1 (x1, x2) w2 HM.out hn12 L1 p1
  try dsimp only [re2, re3, proofV, zeroP] at hC4
  have C4 := Lib.hid hC4
  clear hC4
  obtain ⟨tc0, tc1, _, _, tz⟩ := ratrow2 HT.out
  go_wp2_with fail
  clear hw3 tc0 tc1 tz
  refine C4.out.mono ?_
  rintro e w5 ⟨rfl, hw6⟩
  clear C4
  replace HM := Lib.hid (HM.out.below hw6)
  replace HT := Lib.hid (RowIs.below HT.out hw6)
  replace HG := Lib.hid (HG.out.below hw6)
  replace HX := Lib.hid (RowIs.below HX.out hw6)
  replace HA := Lib.hid (HA.out.below hw6)
  replace hB := bup hB hw6
  simp only [leastV]
  obtain ⟨Y7, hY7⟩ : ∃ Y7, w5.alloc (.cells #[.int .i64 x1, .int .i64 x2] 29) = Y7 := ⟨_, rfl⟩
  have hy8 : Below w5.heap.size w5 Y7 := by rw [← hY7]; exact Below.alloc1 (Below.refl _ _) _ (Nat.le_refl _)
  replace HM := Lib.hid (HM.out.below hy8)
  replace HT := Lib.hid (RowIs.below HT.out hy8)
  replace HG := Lib.hid (HG.out.below hy8)
  replace HX := Lib.hid (RowIs.below HX.out hy8)
  replace HA := Lib.hid (HA.out.below hy8)
  replace hB := bup hB hy8
  have RA := Lib.hid (show RowIs Y7 w5.heap.size #[.int .i64 x1, .int .i64 x2] 29 by rw [← hY7]; exact heap_new_at _ _ _ rfl)
  obtain ⟨bRA, hbRA⟩ : ∃ bRA, w5.heap.size = bRA := ⟨_, rfl⟩
  rw [hbRA] at RA
  have hC9 := lawLeast_c (some ⟨ba, oa, none⟩) n cap m l' c' sure is2 (y1, y2) Y7 HM.out hn12 L2 p2
  try dsimp only [re2, re3, proofV, zeroP] at hC9
  have C9 := Lib.hid hC9
  clear hC9
  obtain ⟨xc0, xc1, _, _, xz⟩ := ratrow2 HX.out
  go_wp2_with fail
  clear hw6 hbRA hY7 hy8 xc0 xc1 xz
  refine C9.out.mono ?_
  rintro e w10 ⟨rfl, hw11⟩
  clear C9
  replace HM := Lib.hid (HM.out.below hw11)
  replace HT := Lib.hid (RowIs.below HT.out hw11)
  replace HG := Lib.hid (HG.out.below hw11)
  replace HX := Lib.hid (RowIs.below HX.out hw11)
  replace HA := Lib.hid (HA.out.below hw11)
  replace RA := Lib.hid (RowIs.below RA.out hw11)
  replace hB := bup hB hw11
  simp only [leastV]
  obtain ⟨Y12, hY12⟩ : ∃ Y12, w10.alloc (.cells #[.int .i64 y1, .int .i64 y2] 29) = Y12 := ⟨_, rfl⟩
  have hy13 : Below w10.heap.size w10 Y12 := by rw [← hY12]; exact Below.alloc1 (Below.refl _ _) _ (Nat.le_refl _)
  replace HM := Lib.hid (HM.out.below hy13)
  replace HT := Lib.hid (RowIs.below HT.out hy13)
  replace HG := Lib.hid (HG.out.below hy13)
  replace HX := Lib.hid (RowIs.below HX.out hy13)
  replace HA := Lib.hid (HA.out.below hy13)
  replace RA := Lib.hid (RowIs.below RA.out hy13)
  replace hB := bup hB hy13
  have RB := Lib.hid (show RowIs Y12 w10.heap.size #[.int .i64 y1, .int .i64 y2] 29 by rw [← hY12]; exact heap_new_at _ _ _ rfl)
  obtain ⟨bRB, hbRB⟩ : ∃ bRB, w10.heap.size = bRB := ⟨_, rfl⟩
  rw [hbRB] at RB
  cases his : is1
  case true =>
    obtain ⟨hi2, lt1⟩ := p3 his
    obtain ⟨s1, s2, t1, t2, u1, u2, v1, v2, sh1, sh2, z1, z2, z3, z4, lt2, lt3, lt4⟩ := p4 his
    subst his hi2
    clear p3 p4
    simp only [if_true] at p1 p2
    cases e1 : d1 != 0
    case true =>
      have e1b : (d1 == 0) = false := by simpa using e1
      have hC14 := less_small p1 p2 Y12
      rw [lt1] at hC14
      try dsimp only [re2, re3, proofV, zeroP] at hC14
      have C14 := Lib.hid hC14
      clear hC14
      obtain ⟨v150, v151, _, _, v15z⟩ := ratrow2 RA.out
      obtain ⟨v160, v161, _, _, v16z⟩ := ratrow2 RB.out
      go_wp2_with fail
      clear hw11 hbRB hY12 hy13 v150 v151 v15z v160 v161 v16z
      refine C14.out.mono ?_
      rintro e w17 ⟨rfl, hw18⟩
      clear C14
      replace HM := Lib.hid (HM.out.below hw18)
      replace HT := Lib.hid (RowIs.below HT.out hw18)
      replace HG := Lib.hid (HG.out.below hw18)
      replace HX := Lib.hid (RowIs.below HX.out hw18)
      replace HA := Lib.hid (HA.out.below hw18)
      replace RA := Lib.hid (RowIs.below RA.out hw18)
      replace RB := Lib.hid (RowIs.below RB.out hw18)
      replace hB := bup hB hw18
      have hC19 := Deserves_c (some ⟨ba, oa, none⟩) (some ⟨gHA, 0, none⟩) n cap n cHA m A l c sure w17 HM.out HA.out hn hn
      rw [Hd1.out] at hC19
      try dsimp only [re2, re3, proofV, zeroP] at hC19
      have C19 := Lib.hid hC19
      clear hC19
      obtain ⟨tc0, tc1, _, _, tz⟩ := ratrow2 HT.out
      go_wp2_with fail
      clear hw18 tc0 tc1 tz
      refine C19.out.mono ?_
      rintro e w20 ⟨rfl, hw21⟩
      clear C19
      replace HM := Lib.hid (HM.out.below hw21)
      replace HT := Lib.hid (RowIs.below HT.out hw21)
      replace HG := Lib.hid (HG.out.below hw21)
      replace HX := Lib.hid (RowIs.below HX.out hw21)
      replace HA := Lib.hid (HA.out.below hw21)
      replace RA := Lib.hid (RowIs.below RA.out hw21)
      replace RB := Lib.hid (RowIs.below RB.out hw21)
      replace hB := bup hB hw21
      have hC22 := Share_c (some ⟨ba, oa, none⟩) n cap m l c sure k w20 HM.out hn (by omega)
      rw [sh1] at hC22
      try dsimp only [re2, re3, proofV, zeroP] at hC22
      have C22 := Lib.hid hC22
      clear hC22
      obtain ⟨tc0, tc1, _, _, tz⟩ := ratrow2 HT.out
      go_wp2_with fail
      clear hw21 tc0 tc1 tz
      refine C22.out.mono ?_
      rintro e w23 ⟨rfl, hw24⟩
      clear C22
      replace HM := Lib.hid (HM.out.below hw24)
      replace HT := Lib.hid (RowIs.below HT.out hw24)
      replace HG := Lib.hid (HG.out.below hw24)
      replace HX := Lib.hid (RowIs.below HX.out hw24)
      replace HA := Lib.hid (HA.out.below hw24)
      replace RA := Lib.hid (RowIs.below RA.out hw24)
      replace RB := Lib.hid (RowIs.below RB.out hw24)
      replace hB := bup hB hw24
      obtain ⟨Y25, hY25⟩ : ∃ Y25, (w23.alloc (.cells #[.int .i64 s1, .int .i64 s2] 29)).alloc (.cells #[.int .i64 t1, .int .i64 t2] 29) = Y25 := ⟨_, rfl⟩
      have hy26 : Below w23.heap.size w23 Y25 := by rw [← hY25]; exact Below.alloc1 (Below.alloc1 (Below.refl _ _) _ (Nat.le_refl _)) _ (Nat.le_refl _)
      replace HM := Lib.hid (HM.out.below hy26)
      replace HT := Lib.hid (RowIs.below HT.out hy26)
      replace HG := Lib.hid (HG.out.below hy26)
      replace HX := Lib.hid (RowIs.below HX.out hy26)
      replace HA := Lib.hid (HA.out.below hy26)
      replace RA := Lib.hid (RowIs.below RA.out hy26)
      replace RB := Lib.hid (RowIs.below RB.out hy26)
      replace hB := bup hB hy26
      have RC := Lib.hid (show RowIs Y25 w23.heap.size #[.int .i64 s1, .int .i64 s2] 29 by rw [← hY25]; exact RowIs.alloc (heap_new_at _ _ _ rfl) _)
      have RD := Lib.hid (show RowIs Y25 (w23.heap.size + 1) #[.int .i64 t1, .int .i64 t2] 29 by rw [← hY25]; exact heap_new_at _ _ _ (by simp))
      obtain ⟨bRC, hbRC⟩ : ∃ bRC, w23.heap.size = bRC := ⟨_, rfl⟩
      rw [hbRC] at RC RD
      have hC27 := Share_c (some ⟨ba, oa, none⟩) n cap m l' c' sure k Y25 HM.out hn (by omega)
      rw [sh2] at hC27
      try dsimp only [re2, re3, proofV, zeroP] at hC27
      have C27 := Lib.hid hC27
      clear hC27
      obtain ⟨xc0, xc1, _, _, xz⟩ := ratrow2 HX.out
      go_wp2_with fail
      clear hw24 hY25 hy26 hbRC xc0 xc1 xz
      refine C27.out.mono ?_
      rintro e w28 ⟨rfl, hw29⟩
      clear C27
      replace HM := Lib.hid (HM.out.below hw29)
      replace HT := Lib.hid (RowIs.below HT.out hw29)
      replace HG := Lib.hid (HG.out.below hw29)
      replace HX := Lib.hid (RowIs.below HX.out hw29)
      replace HA := Lib.hid (HA.out.below hw29)
      replace RA := Lib.hid (RowIs.below RA.out hw29)
      replace RB := Lib.hid (RowIs.below RB.out hw29)
      replace RC := Lib.hid (RowIs.below RC.out hw29)
      replace RD := Lib.hid (RowIs.below RD.out hw29)
      replace hB := bup hB hw29
      obtain ⟨Y30, hY30⟩ : ∃ Y30, (w28.alloc (.cells #[.int .i64 u1, .int .i64 u2] 29)).alloc (.cells #[.int .i64 v1, .int .i64 v2] 29) = Y30 := ⟨_, rfl⟩
      have hy31 : Below w28.heap.size w28 Y30 := by rw [← hY30]; exact Below.alloc1 (Below.alloc1 (Below.refl _ _) _ (Nat.le_refl _)) _ (Nat.le_refl _)
      replace HM := Lib.hid (HM.out.below hy31)
      replace HT := Lib.hid (RowIs.below HT.out hy31)
      replace HG := Lib.hid (HG.out.below hy31)
      replace HX := Lib.hid (RowIs.below HX.out hy31)
      replace HA := Lib.hid (HA.out.below hy31)
      replace RA := Lib.hid (RowIs.below RA.out hy31)
      replace RB := Lib.hid (RowIs.below RB.out hy31)
      replace RC := Lib.hid (RowIs.below RC.out hy31)
      replace RD := Lib.hid (RowIs.below RD.out hy31)
      replace hB := bup hB hy31
      have RE := Lib.hid (show RowIs Y30 w28.heap.size #[.int .i64 u1, .int .i64 u2] 29 by rw [← hY30]; exact RowIs.alloc (heap_new_at _ _ _ rfl) _)
      have RF := Lib.hid (show RowIs Y30 (w28.heap.size + 1) #[.int .i64 v1, .int .i64 v2] 29 by rw [← hY30]; exact heap_new_at _ _ _ (by simp))
      obtain ⟨bRE, hbRE⟩ : ∃ bRE, w28.heap.size = bRE := ⟨_, rfl⟩
      rw [hbRE] at RE RF
      have hC32 := small_c s1 s2 Y30 z1
      try dsimp only [re2, re3, proofV, zeroP] at hC32
      have C32 := Lib.hid hC32
      clear hC32
      obtain ⟨v330, v331, _, _, v33z⟩ := ratrow2 RC.out
      obtain ⟨v340, v341, _, _, v34z⟩ := ratrow2 RD.out
      obtain ⟨v350, v351, _, _, v35z⟩ := ratrow2 RE.out
      obtain ⟨v360, v361, _, _, v36z⟩ := ratrow2 RF.out
      go_wp2_with fail
      clear hw29 hY30 hy31 hbRE v330 v331 v33z v340 v341 v34z v350 v351 v35z v360 v361 v36z
      refine C32.out.mono ?_
      rintro e w37 ⟨rfl, hw38⟩
      clear C32
      replace HM := Lib.hid (HM.out.below hw38)
      replace HT := Lib.hid (RowIs.below HT.out hw38)
      replace HG := Lib.hid (HG.out.below hw38)
      replace HX := Lib.hid (RowIs.below HX.out hw38)
      replace HA := Lib.hid (HA.out.below hw38)
      replace RA := Lib.hid (RowIs.below RA.out hw38)
      replace RB := Lib.hid (RowIs.below RB.out hw38)
      replace RC := Lib.hid (RowIs.below RC.out hw38)
      replace RD := Lib.hid (RowIs.below RD.out hw38)
      replace RE := Lib.hid (RowIs.below RE.out hw38)
      replace RF := Lib.hid (RowIs.below RF.out hw38)
      replace hB := bup hB hw38
      have hC39 := small_c t1 t2 w37 z2
      try dsimp only [re2, re3, proofV, zeroP] at hC39
      have C39 := Lib.hid hC39
      clear hC39
      obtain ⟨v400, v401, _, _, v40z⟩ := ratrow2 RC.out
      obtain ⟨v410, v411, _, _, v41z⟩ := ratrow2 RD.out
      obtain ⟨v420, v421, _, _, v42z⟩ := ratrow2 RE.out
      obtain ⟨v430, v431, _, _, v43z⟩ := ratrow2 RF.out
      go_wp2_with fail
      clear hw38 v400 v401 v40z v410 v411 v41z v420 v421 v42z v430 v431 v43z
      refine C39.out.mono ?_
      rintro e w44 ⟨rfl, hw45⟩
      clear C39
      replace HM := Lib.hid (HM.out.below hw45)
      replace HT := Lib.hid (RowIs.below HT.out hw45)
      replace HG := Lib.hid (HG.out.below hw45)
      replace HX := Lib.hid (RowIs.below HX.out hw45)
      replace HA := Lib.hid (HA.out.below hw45)
      replace RA := Lib.hid (RowIs.below RA.out hw45)
      replace RB := Lib.hid (RowIs.below RB.out hw45)
      replace RC := Lib.hid (RowIs.below RC.out hw45)
      replace RD := Lib.hid (RowIs.below RD.out hw45)
      replace RE := Lib.hid (RowIs.below RE.out hw45)
      replace RF := Lib.hid (RowIs.below RF.out hw45)
      replace hB := bup hB hw45
      have hC46 := small_c u1 u2 w44 z3
      try dsimp only [re2, re3, proofV, zeroP] at hC46
      have C46 := Lib.hid hC46
      clear hC46
      obtain ⟨v470, v471, _, _, v47z⟩ := ratrow2 RC.out
      obtain ⟨v480, v481, _, _, v48z⟩ := ratrow2 RD.out
      obtain ⟨v490, v491, _, _, v49z⟩ := ratrow2 RE.out
      obtain ⟨v500, v501, _, _, v50z⟩ := ratrow2 RF.out
      go_wp2_with fail
      clear hw45 v470 v471 v47z v480 v481 v48z v490 v491 v49z v500 v501 v50z
      refine C46.out.mono ?_
      rintro e w51 ⟨rfl, hw52⟩
      clear C46
      replace HM := Lib.hid (HM.out.below hw52)
      replace HT := Lib.hid (RowIs.below HT.out hw52)
      replace HG := Lib.hid (HG.out.below hw52)
      replace HX := Lib.hid (RowIs.below HX.out hw52)
      replace HA := Lib.hid (HA.out.below hw52)
      replace RA := Lib.hid (RowIs.below RA.out hw52)
      replace RB := Lib.hid (RowIs.below RB.out hw52)
      replace RC := Lib.hid (RowIs.below RC.out hw52)
      replace RD := Lib.hid (RowIs.below RD.out hw52)
      replace RE := Lib.hid (RowIs.below RE.out hw52)
      replace RF := Lib.hid (RowIs.below RF.out hw52)
      replace hB := bup hB hw52
      have hC53 := small_c v1 v2 w51 z4
      try dsimp only [re2, re3, proofV, zeroP] at hC53
      have C53 := Lib.hid hC53
      clear hC53
      obtain ⟨v540, v541, _, _, v54z⟩ := ratrow2 RC.out
      obtain ⟨v550, v551, _, _, v55z⟩ := ratrow2 RD.out
      obtain ⟨v560, v561, _, _, v56z⟩ := ratrow2 RE.out
      obtain ⟨v570, v571, _, _, v57z⟩ := ratrow2 RF.out
      go_wp2_with fail
      clear hw52 v540 v541 v54z v550 v551 v55z v560 v561 v56z v570 v571 v57z
      refine C53.out.mono ?_
      rintro e w58 ⟨rfl, hw59⟩
      clear C53
      replace HM := Lib.hid (HM.out.below hw59)
      replace HT := Lib.hid (RowIs.below HT.out hw59)
      replace HG := Lib.hid (HG.out.below hw59)
      replace HX := Lib.hid (RowIs.below HX.out hw59)
      replace HA := Lib.hid (HA.out.below hw59)
      replace RA := Lib.hid (RowIs.below RA.out hw59)
      replace RB := Lib.hid (RowIs.below RB.out hw59)
      replace RC := Lib.hid (RowIs.below RC.out hw59)
      replace RD := Lib.hid (RowIs.below RD.out hw59)
      replace RE := Lib.hid (RowIs.below RE.out hw59)
      replace RF := Lib.hid (RowIs.below RF.out hw59)
      replace hB := bup hB hw59
      have hC60 := less_small z1 z3 w58
      rw [lt2] at hC60
      try dsimp only [re2, re3, proofV, zeroP] at hC60
      have C60 := Lib.hid hC60
      clear hC60
      obtain ⟨v610, v611, _, _, v61z⟩ := ratrow2 RC.out
      obtain ⟨v620, v621, _, _, v62z⟩ := ratrow2 RD.out
      obtain ⟨v630, v631, _, _, v63z⟩ := ratrow2 RE.out
      obtain ⟨v640, v641, _, _, v64z⟩ := ratrow2 RF.out
      go_wp2_with fail
      clear hw59 v610 v611 v61z v620 v621 v62z v630 v631 v63z v640 v641 v64z
      refine C60.out.mono ?_
      rintro e w65 ⟨rfl, hw66⟩
      clear C60
      replace HM := Lib.hid (HM.out.below hw66)
      replace HT := Lib.hid (RowIs.below HT.out hw66)
      replace HG := Lib.hid (HG.out.below hw66)
      replace HX := Lib.hid (RowIs.below HX.out hw66)
      replace HA := Lib.hid (HA.out.below hw66)
      replace RA := Lib.hid (RowIs.below RA.out hw66)
      replace RB := Lib.hid (RowIs.below RB.out hw66)
      replace RC := Lib.hid (RowIs.below RC.out hw66)
      replace RD := Lib.hid (RowIs.below RD.out hw66)
      replace RE := Lib.hid (RowIs.below RE.out hw66)
      replace RF := Lib.hid (RowIs.below RF.out hw66)
      replace hB := bup hB hw66
      have hC67 := less_small z4 z2 w65
      rw [lt3] at hC67
      try dsimp only [re2, re3, proofV, zeroP] at hC67
      have C67 := Lib.hid hC67
      clear hC67
      obtain ⟨v680, v681, _, _, v68z⟩ := ratrow2 RC.out
      obtain ⟨v690, v691, _, _, v69z⟩ := ratrow2 RD.out
      obtain ⟨v700, v701, _, _, v70z⟩ := ratrow2 RE.out
      obtain ⟨v710, v711, _, _, v71z⟩ := ratrow2 RF.out
      go_wp2_with fail
      clear hw66 v680 v681 v68z v690 v691 v69z v700 v701 v70z v710 v711 v71z
      refine C67.out.mono ?_
      rintro e w72 ⟨rfl, hw73⟩
      clear C67
      replace HM := Lib.hid (HM.out.below hw73)
      replace HT := Lib.hid (RowIs.below HT.out hw73)
      replace HG := Lib.hid (HG.out.below hw73)
      replace HX := Lib.hid (RowIs.below HX.out hw73)
      replace HA := Lib.hid (HA.out.below hw73)
      replace RA := Lib.hid (RowIs.below RA.out hw73)
      replace RB := Lib.hid (RowIs.below RB.out hw73)
      replace RC := Lib.hid (RowIs.below RC.out hw73)
      replace RD := Lib.hid (RowIs.below RD.out hw73)
      replace RE := Lib.hid (RowIs.below RE.out hw73)
      replace RF := Lib.hid (RowIs.below RF.out hw73)
      replace hB := bup hB hw73
      have hC74 := less_small z2 z1 w72
      rw [lt4] at hC74
      try dsimp only [re2, re3, proofV, zeroP] at hC74
      have C74 := Lib.hid hC74
      clear hC74
      obtain ⟨v750, v751, _, _, v75z⟩ := ratrow2 RC.out
      obtain ⟨v760, v761, _, _, v76z⟩ := ratrow2 RD.out
      obtain ⟨v770, v771, _, _, v77z⟩ := ratrow2 RE.out
      obtain ⟨v780, v781, _, _, v78z⟩ := ratrow2 RF.out
      go_wp2_with fail
      clear hw73 v750 v751 v75z v760 v761 v76z v770 v771 v77z v780 v781 v78z
      refine C74.out.mono ?_
      rintro e w79 ⟨rfl, hw80⟩
      clear C74
      replace HM := Lib.hid (HM.out.below hw80)
      replace HT := Lib.hid (RowIs.below HT.out hw80)
      replace HG := Lib.hid (HG.out.below hw80)
      replace HX := Lib.hid (RowIs.below HX.out hw80)
      replace HA := Lib.hid (HA.out.below hw80)
      replace RA := Lib.hid (RowIs.below RA.out hw80)
      replace RB := Lib.hid (RowIs.below RB.out hw80)
      replace RC := Lib.hid (RowIs.below RC.out hw80)
      replace RD := Lib.hid (RowIs.below RD.out hw80)
      replace RE := Lib.hid (RowIs.below RE.out hw80)
      replace RF := Lib.hid (RowIs.below RF.out hw80)
      replace hB := bup hB hw80
      have HM0 := HM
      have HA0 := HA
      have HT0 := HT
      have hB0 := hB
      obtain ⟨BY, hBY⟩ : ∃ BY, w79.heap.size = BY := ⟨_, rfl⟩
      have hbl : Below w79.heap.size w79 (w79.alloc (.cells #[] 68)) := Below.alloc1 (Below.refl _ _) _ (Nat.le_refl _)
      have hol := own_lit w79 (base := BY) (N := BY) 68 5 (by omega) (by omega)
      go_wp2_with (at_builtin; refine wpList_append_own _ rfl _ _ 22 rfl BY 68 i0 (.agg #[.int .i64 0, .int .i64 0, .int .i64 0, .int .i64 0, .int .i64 0]) 5 40 Tryz.underlying22 hi hz0 hz1 hz2 rfl (by decide) _ 0 [] rfl hol ⟨ba, oa, none⟩ n cap (mCells m n) rfl (mCells_len m n) (fun j u h => mCells_at (HM.out.below hbl) j u h) (mCells_one m n) (by unfold maxLen; omega) (by omega) (by simp; omega) ?_; intro v' w2 hown2 hgr2 _; simp only [Nat.zero_add, List.nil_append] at hown2; obtain ⟨gY, cY, rfl, hgYz⟩ := own_form hown2 (by omega))
      clear hw80
      have hbw : Below w79.heap.size w79 w2 := hbl.grown hgr2 (by first | (simp; done) | (simp; omega)) (fun q h => by have := (hol.lt q h).1; omega)
      have hgYb := (hown2.lt gY rfl).1
      have HO := Lib.hid hown2
      clear hown2 hgr2 hol hbl
      replace HM := Lib.hid (HM.out.below hbw)
      replace HT := Lib.hid (RowIs.below HT.out hbw)
      replace HG := Lib.hid (HG.out.below hbw)
      replace HX := Lib.hid (RowIs.below HX.out hbw)
      replace HA := Lib.hid (HA.out.below hbw)
      replace RA := Lib.hid (RowIs.below RA.out hbw)
      replace RB := Lib.hid (RowIs.below RB.out hbw)
      replace RC := Lib.hid (RowIs.below RC.out hbw)
      replace RD := Lib.hid (RowIs.below RD.out hbw)
      replace RE := Lib.hid (RowIs.below RE.out hbw)
      replace RF := Lib.hid (RowIs.below RF.out hbw)
      replace hB := bup hB hbw
      obtain ⟨Z81, hZ81⟩ : ∃ Z81, w2.alloc (.cells #[.int .u16 le] 64) = Z81 := ⟨_, rfl⟩
      have hbZ81 : Below w2.heap.size w2 Z81 := by rw [← hZ81]; exact Below.alloc1 (Below.refl _ _) _ (Nat.le_refl _)
      have hsZ81 : Shorts Z81 (some ⟨w2.heap.size, 0, none⟩) 1 (fun _ => le) := by rw [← hZ81]; exact short_one w2 le _
      rw [hZ81]
      replace HM := Lib.hid (HM.out.below hbZ81)
      replace HT := Lib.hid (RowIs.below HT.out hbZ81)
      replace HG := Lib.hid (HG.out.below hbZ81)
      replace HX := Lib.hid (RowIs.below HX.out hbZ81)
      replace HA := Lib.hid (HA.out.below hbZ81)
      replace RA := Lib.hid (RowIs.below RA.out hbZ81)
      replace RB := Lib.hid (RowIs.below RB.out hbZ81)
      replace RC := Lib.hid (RowIs.below RC.out hbZ81)
      replace RD := Lib.hid (RowIs.below RD.out hbZ81)
      replace RE := Lib.hid (RowIs.below RE.out hbZ81)
      replace RF := Lib.hid (RowIs.below RF.out hbZ81)
      replace hB := bup hB hbZ81
      replace HO := Lib.hid (own_below HO.out hbZ81)
      refine (known_c (some ⟨ba, oa, none⟩) (some ⟨w2.heap.size, 0, none⟩) n cap 1 1 m (fun _ => le) Z81 HM.out HFn.out hsZ81 (by omega) (fun _ _ => hle)).mono ?_
      rintro e w82 ⟨gK, cK, gKl, gKz, rfl, hK0, hw83⟩
      replace HM := Lib.hid (HM.out.below hw83)
      replace HT := Lib.hid (RowIs.below HT.out hw83)
      replace HG := Lib.hid (HG.out.below hw83)
      replace HX := Lib.hid (RowIs.below HX.out hw83)
      replace HA := Lib.hid (HA.out.below hw83)
      replace RA := Lib.hid (RowIs.below RA.out hw83)
      replace RB := Lib.hid (RowIs.below RB.out hw83)
      replace RC := Lib.hid (RowIs.below RC.out hw83)
      replace RD := Lib.hid (RowIs.below RD.out hw83)
      replace RE := Lib.hid (RowIs.below RE.out hw83)
      replace RF := Lib.hid (RowIs.below RF.out hw83)
      replace hB := bup hB hw83
      replace HO := Lib.hid (own_below HO.out hw83)
      obtain ⟨bK, oK, hKe, hKs, k0, k1, k2, k3, k4⟩ := Metals.at hK0 k hkn
      cases hKe
      rw [Hq.out] at k0 k1 k2 k3 k4
      simp only [Nat.zero_add] at k0 k1 k2 k3 k4
      have y0 := (HO.out.cellAt (k * 5 + 0) (by omega)).trans (mCells_get m hkn (b := 0) (by omega))
      have f0 := HO.out.frozenAt (k * 5 + 0)
      have y1 := (HO.out.cellAt (k * 5 + 1) (by omega)).trans (mCells_get m hkn (b := 1) (by omega))
      have f1 := HO.out.frozenAt (k * 5 + 1)
      have y2 := (HO.out.cellAt (k * 5 + 2) (by omega)).trans (mCells_get m hkn (b := 2) (by omega))
      have f2 := HO.out.frozenAt (k * 5 + 2)
      have y3 := (HO.out.cellAt (k * 5 + 3) (by omega)).trans (mCells_get m hkn (b := 3) (by omega))
      have f3 := HO.out.frozenAt (k * 5 + 3)
      have y4 := (HO.out.cellAt (k * 5 + 4) (by omega)).trans (mCells_get m hkn (b := 4) (by omega))
      have f4 := HO.out.frozenAt (k * 5 + 4)
      simp only [M5.cells, List.getElem?_cons_zero, List.getElem?_cons_succ, Nat.add_zero] at y0 y1 y2 y3 y4 f0
      have hgYz2 : gY < w82.heap.size := ((HO.out.lt gY rfl)).2
      obtain ⟨V, hV⟩ : ∃ V, put5 w82 gY k q = V := ⟨_, rfl⟩
      have hbV : Below w79.heap.size w79 V := by rw [← hV]; exact put_below (bup hbw (bup hbZ81 hw83)) (by omega) k q
      have HYm := Lib.hid (show Metals V (some ⟨gY, 0, none⟩) n (putM m k q) by rw [← hV]; exact (metals_of_own (put_own HO.out hkn q)).1)
      unfold put5 at hV
      replace HM := Lib.hid (HM0.out.below hbV)
      replace HA := Lib.hid (HA0.out.below hbV)
      replace HT := Lib.hid (RowIs.below HT0.out hbV)
      replace hB := bup hB0 hbV
      have hC84 := Deserves_c (some ⟨ba, oa, none⟩) (some ⟨gHA, 0, none⟩) n cap n cHA m A l c true V HM.out HA.out hn hn
      rw [Hd3.out] at hC84
      try dsimp only [re2, re3, proofV, zeroP] at hC84
      have C84 := Lib.hid hC84
      clear hC84
      obtain ⟨uc0, uc1, _, _, uz⟩ := ratrow2 HT.out
      go_wp2_with fail
      clear k0 k1 k2 k3 k4 y0 y1 y2 y3 y4 f0 f1 f2 f3 f4 hV hbV
      refine C84.out.mono ?_
      rintro e w85 ⟨rfl, hw86⟩
      clear C84 uc0 uc1 uz
      replace HM := Lib.hid (HM.out.below hw86)
      replace HT := Lib.hid (RowIs.below HT.out hw86)
      replace HA := Lib.hid (HA.out.below hw86)
      replace HYm := Lib.hid (HYm.out.below hw86)
      replace hB := bup hB hw86
      cases e3 : d3 != 0
      case true =>
        go_wp2_with fail
        refine (works_c _).mono ?_
        rintro e wz ⟨rfl, hbz⟩
        go_wp2
        go_ret
        exact ⟨rfl, bup hB hbz⟩
      case false =>
        have e4 : d4 = 0 := E4 (by simpa using e3)
        have hC9 := Deserves_c (some ⟨gY, 0, none⟩) (some ⟨gHA, 0, none⟩) n cY n cHA (putM m k q) A l c true w85 HYm.out HA.out hn hn
        rw [Hd4.out, e4] at hC9
        have C9 := Lib.hid hC9
        clear hC9
        obtain ⟨uc0, uc1, _, _, uz⟩ := ratrow2 HT.out
        go_wp2_with fail
        refine C9.out.mono ?_
        rintro e wq9 ⟨rfl, hq9⟩
        go_wp2_with fail
        refine (works_c _).mono ?_
        rintro e wz ⟨rfl, hbz⟩
        go_wp2
        go_ret
        exact ⟨rfl, bup hB (bup hq9 hbz)⟩
    case false =>
      have e1b : (d1 == 0) = true := by simpa using e1
      have e2 : d2 = 0 := E2 (by simpa using e1)
      have hC87 := less_small p1 p2 Y12
      rw [lt1] at hC87
      try dsimp only [re2, re3, proofV, zeroP] at hC87
      have C87 := Lib.hid hC87
      clear hC87
      obtain ⟨v880, v881, _, _, v88z⟩ := ratrow2 RA.out
      obtain ⟨v890, v891, _, _, v89z⟩ := ratrow2 RB.out
      go_wp2_with fail
      clear hw11 hbRB hY12 hy13 v880 v881 v88z v890 v891 v89z
      refine C87.out.mono ?_
      rintro e w90 ⟨rfl, hw91⟩
      clear C87
      replace HM := Lib.hid (HM.out.below hw91)
      replace HT := Lib.hid (RowIs.below HT.out hw91)
      replace HG := Lib.hid (HG.out.below hw91)
      replace HX := Lib.hid (RowIs.below HX.out hw91)
      replace HA := Lib.hid (HA.out.below hw91)
      replace RA := Lib.hid (RowIs.below RA.out hw91)
      replace RB := Lib.hid (RowIs.below RB.out hw91)
      replace hB := bup hB hw91
      have hC92 := Deserves_c (some ⟨ba, oa, none⟩) (some ⟨gHA, 0, none⟩) n cap n cHA m A l c sure w90 HM.out HA.out hn hn
      rw [Hd1.out] at hC92
      try dsimp only [re2, re3, proofV, zeroP] at hC92
      have C92 := Lib.hid hC92
      clear hC92
      obtain ⟨tc0, tc1, _, _, tz⟩ := ratrow2 HT.out
      go_wp2_with fail
      clear hw91 tc0 tc1 tz
      refine C92.out.mono ?_
      rintro e w93 ⟨rfl, hw94⟩
      clear C92
      replace HM := Lib.hid (HM.out.below hw94)
      replace HT := Lib.hid (RowIs.below HT.out hw94)
      replace HG := Lib.hid (HG.out.below hw94)
      replace HX := Lib.hid (RowIs.below HX.out hw94)
      replace HA := Lib.hid (HA.out.below hw94)
      replace RA := Lib.hid (RowIs.below RA.out hw94)
      replace RB := Lib.hid (RowIs.below RB.out hw94)
      replace hB := bup hB hw94
      have hC95 := Deserves_c (some ⟨ba, oa, none⟩) (some ⟨gHA, 0, none⟩) n cap n cHA m A l' c' sure w93 HM.out HA.out hn hn
      rw [Hd2.out] at hC95
      try dsimp only [re2, re3, proofV, zeroP] at hC95
      have C95 := Lib.hid hC95
      clear hC95
      obtain ⟨xc0, xc1, _, _, xz⟩ := ratrow2 HX.out
      go_wp2_with fail
      clear hw94 xc0 xc1 xz
      refine C95.out.mono ?_
      rintro e w96 ⟨rfl, hw97⟩
      clear C95
      replace HM := Lib.hid (HM.out.below hw97)
      replace HT := Lib.hid (RowIs.below HT.out hw97)
      replace HG := Lib.hid (HG.out.below hw97)
      replace HX := Lib.hid (RowIs.below HX.out hw97)
      replace HA := Lib.hid (HA.out.below hw97)
      replace RA := Lib.hid (RowIs.below RA.out hw97)
      replace RB := Lib.hid (RowIs.below RB.out hw97)
      replace hB := bup hB hw97
      have hC98 := Share_c (some ⟨ba, oa, none⟩) n cap m l c sure k w96 HM.out hn (by omega)
      rw [sh1] at hC98
      try dsimp only [re2, re3, proofV, zeroP] at hC98
      have C98 := Lib.hid hC98
      clear hC98
      obtain ⟨tc0, tc1, _, _, tz⟩ := ratrow2 HT.out
      go_wp2_with fail
      clear hw97 tc0 tc1 tz
      refine C98.out.mono ?_
      rintro e w99 ⟨rfl, hw100⟩
      clear C98
      replace HM := Lib.hid (HM.out.below hw100)
      replace HT := Lib.hid (RowIs.below HT.out hw100)
      replace HG := Lib.hid (HG.out.below hw100)
      replace HX := Lib.hid (RowIs.below HX.out hw100)
      replace HA := Lib.hid (HA.out.below hw100)
      replace RA := Lib.hid (RowIs.below RA.out hw100)
      replace RB := Lib.hid (RowIs.below RB.out hw100)
      replace hB := bup hB hw100
      obtain ⟨Y101, hY101⟩ : ∃ Y101, (w99.alloc (.cells #[.int .i64 s1, .int .i64 s2] 29)).alloc (.cells #[.int .i64 t1, .int .i64 t2] 29) = Y101 := ⟨_, rfl⟩
      have hy102 : Below w99.heap.size w99 Y101 := by rw [← hY101]; exact Below.alloc1 (Below.alloc1 (Below.refl _ _) _ (Nat.le_refl _)) _ (Nat.le_refl _)
      replace HM := Lib.hid (HM.out.below hy102)
      replace HT := Lib.hid (RowIs.below HT.out hy102)
      replace HG := Lib.hid (HG.out.below hy102)
      replace HX := Lib.hid (RowIs.below HX.out hy102)
      replace HA := Lib.hid (HA.out.below hy102)
      replace RA := Lib.hid (RowIs.below RA.out hy102)
      replace RB := Lib.hid (RowIs.below RB.out hy102)
      replace hB := bup hB hy102
      have RC := Lib.hid (show RowIs Y101 w99.heap.size #[.int .i64 s1, .int .i64 s2] 29 by rw [← hY101]; exact RowIs.alloc (heap_new_at _ _ _ rfl) _)
      have RD := Lib.hid (show RowIs Y101 (w99.heap.size + 1) #[.int .i64 t1, .int .i64 t2] 29 by rw [← hY101]; exact heap_new_at _ _ _ (by simp))
      obtain ⟨bRC, hbRC⟩ : ∃ bRC, w99.heap.size = bRC := ⟨_, rfl⟩
      rw [hbRC] at RC RD
      have hC103 := Share_c (some ⟨ba, oa, none⟩) n cap m l' c' sure k Y101 HM.out hn (by omega)
      rw [sh2] at hC103
      try dsimp only [re2, re3, proofV, zeroP] at hC103
      have C103 := Lib.hid hC103
      clear hC103
      obtain ⟨xc0, xc1, _, _, xz⟩ := ratrow2 HX.out
      go_wp2_with fail
      clear hw100 hY101 hy102 hbRC xc0 xc1 xz
      refine C103.out.mono ?_
      rintro e w104 ⟨rfl, hw105⟩
      clear C103
      replace HM := Lib.hid (HM.out.below hw105)
      replace HT := Lib.hid (RowIs.below HT.out hw105)
      replace HG := Lib.hid (HG.out.below hw105)
      replace HX := Lib.hid (RowIs.below HX.out hw105)
      replace HA := Lib.hid (HA.out.below hw105)
      replace RA := Lib.hid (RowIs.below RA.out hw105)
      replace RB := Lib.hid (RowIs.below RB.out hw105)
      replace RC := Lib.hid (RowIs.below RC.out hw105)
      replace RD := Lib.hid (RowIs.below RD.out hw105)
      replace hB := bup hB hw105
      obtain ⟨Y106, hY106⟩ : ∃ Y106, (w104.alloc (.cells #[.int .i64 u1, .int .i64 u2] 29)).alloc (.cells #[.int .i64 v1, .int .i64 v2] 29) = Y106 := ⟨_, rfl⟩
      have hy107 : Below w104.heap.size w104 Y106 := by rw [← hY106]; exact Below.alloc1 (Below.alloc1 (Below.refl _ _) _ (Nat.le_refl _)) _ (Nat.le_refl _)
      replace HM := Lib.hid (HM.out.below hy107)
      replace HT := Lib.hid (RowIs.below HT.out hy107)
      replace HG := Lib.hid (HG.out.below hy107)
      replace HX := Lib.hid (RowIs.below HX.out hy107)
      replace HA := Lib.hid (HA.out.below hy107)
      replace RA := Lib.hid (RowIs.below RA.out hy107)
      replace RB := Lib.hid (RowIs.below RB.out hy107)
      replace RC := Lib.hid (RowIs.below RC.out hy107)
      replace RD := Lib.hid (RowIs.below RD.out hy107)
      replace hB := bup hB hy107
      have RE := Lib.hid (show RowIs Y106 w104.heap.size #[.int .i64 u1, .int .i64 u2] 29 by rw [← hY106]; exact RowIs.alloc (heap_new_at _ _ _ rfl) _)
      have RF := Lib.hid (show RowIs Y106 (w104.heap.size + 1) #[.int .i64 v1, .int .i64 v2] 29 by rw [← hY106]; exact heap_new_at _ _ _ (by simp))
      obtain ⟨bRE, hbRE⟩ : ∃ bRE, w104.heap.size = bRE := ⟨_, rfl⟩
      rw [hbRE] at RE RF
      have hC108 := small_c s1 s2 Y106 z1
      try dsimp only [re2, re3, proofV, zeroP] at hC108
      have C108 := Lib.hid hC108
      clear hC108
      obtain ⟨v1090, v1091, _, _, v109z⟩ := ratrow2 RC.out
      obtain ⟨v1100, v1101, _, _, v110z⟩ := ratrow2 RD.out
      obtain ⟨v1110, v1111, _, _, v111z⟩ := ratrow2 RE.out
      obtain ⟨v1120, v1121, _, _, v112z⟩ := ratrow2 RF.out
      go_wp2_with fail
      clear hw105 hY106 hy107 hbRE v1090 v1091 v109z v1100 v1101 v110z v1110 v1111 v111z v1120 v1121 v112z
      refine C108.out.mono ?_
      rintro e w113 ⟨rfl, hw114⟩
      clear C108
      replace HM := Lib.hid (HM.out.below hw114)
      replace HT := Lib.hid (RowIs.below HT.out hw114)
      replace HG := Lib.hid (HG.out.below hw114)
      replace HX := Lib.hid (RowIs.below HX.out hw114)
      replace HA := Lib.hid (HA.out.below hw114)
      replace RA := Lib.hid (RowIs.below RA.out hw114)
      replace RB := Lib.hid (RowIs.below RB.out hw114)
      replace RC := Lib.hid (RowIs.below RC.out hw114)
      replace RD := Lib.hid (RowIs.below RD.out hw114)
      replace RE := Lib.hid (RowIs.below RE.out hw114)
      replace RF := Lib.hid (RowIs.below RF.out hw114)
      replace hB := bup hB hw114
      have hC115 := small_c t1 t2 w113 z2
      try dsimp only [re2, re3, proofV, zeroP] at hC115
      have C115 := Lib.hid hC115
      clear hC115
      obtain ⟨v1160, v1161, _, _, v116z⟩ := ratrow2 RC.out
      obtain ⟨v1170, v1171, _, _, v117z⟩ := ratrow2 RD.out
      obtain ⟨v1180, v1181, _, _, v118z⟩ := ratrow2 RE.out
      obtain ⟨v1190, v1191, _, _, v119z⟩ := ratrow2 RF.out
      go_wp2_with fail
      clear hw114 v1160 v1161 v116z v1170 v1171 v117z v1180 v1181 v118z v1190 v1191 v119z
      refine C115.out.mono ?_
      rintro e w120 ⟨rfl, hw121⟩
      clear C115
      replace HM := Lib.hid (HM.out.below hw121)
      replace HT := Lib.hid (RowIs.below HT.out hw121)
      replace HG := Lib.hid (HG.out.below hw121)
      replace HX := Lib.hid (RowIs.below HX.out hw121)
      replace HA := Lib.hid (HA.out.below hw121)
      replace RA := Lib.hid (RowIs.below RA.out hw121)
      replace RB := Lib.hid (RowIs.below RB.out hw121)
      replace RC := Lib.hid (RowIs.below RC.out hw121)
      replace RD := Lib.hid (RowIs.below RD.out hw121)
      replace RE := Lib.hid (RowIs.below RE.out hw121)
      replace RF := Lib.hid (RowIs.below RF.out hw121)
      replace hB := bup hB hw121
      have hC122 := small_c u1 u2 w120 z3
      try dsimp only [re2, re3, proofV, zeroP] at hC122
      have C122 := Lib.hid hC122
      clear hC122
      obtain ⟨v1230, v1231, _, _, v123z⟩ := ratrow2 RC.out
      obtain ⟨v1240, v1241, _, _, v124z⟩ := ratrow2 RD.out
      obtain ⟨v1250, v1251, _, _, v125z⟩ := ratrow2 RE.out
      obtain ⟨v1260, v1261, _, _, v126z⟩ := ratrow2 RF.out
      go_wp2_with fail
      clear hw121 v1230 v1231 v123z v1240 v1241 v124z v1250 v1251 v125z v1260 v1261 v126z
      refine C122.out.mono ?_
      rintro e w127 ⟨rfl, hw128⟩
      clear C122
      replace HM := Lib.hid (HM.out.below hw128)
      replace HT := Lib.hid (RowIs.below HT.out hw128)
      replace HG := Lib.hid (HG.out.below hw128)
      replace HX := Lib.hid (RowIs.below HX.out hw128)
      replace HA := Lib.hid (HA.out.below hw128)
      replace RA := Lib.hid (RowIs.below RA.out hw128)
      replace RB := Lib.hid (RowIs.below RB.out hw128)
      replace RC := Lib.hid (RowIs.below RC.out hw128)
      replace RD := Lib.hid (RowIs.below RD.out hw128)
      replace RE := Lib.hid (RowIs.below RE.out hw128)
      replace RF := Lib.hid (RowIs.below RF.out hw128)
      replace hB := bup hB hw128
      have hC129 := small_c v1 v2 w127 z4
      try dsimp only [re2, re3, proofV, zeroP] at hC129
      have C129 := Lib.hid hC129
      clear hC129
      obtain ⟨v1300, v1301, _, _, v130z⟩ := ratrow2 RC.out
      obtain ⟨v1310, v1311, _, _, v131z⟩ := ratrow2 RD.out
      obtain ⟨v1320, v1321, _, _, v132z⟩ := ratrow2 RE.out
      obtain ⟨v1330, v1331, _, _, v133z⟩ := ratrow2 RF.out
      go_wp2_with fail
      clear hw128 v1300 v1301 v130z v1310 v1311 v131z v1320 v1321 v132z v1330 v1331 v133z
      refine C129.out.mono ?_
      rintro e w134 ⟨rfl, hw135⟩
      clear C129
      replace HM := Lib.hid (HM.out.below hw135)
      replace HT := Lib.hid (RowIs.below HT.out hw135)
      replace HG := Lib.hid (HG.out.below hw135)
      replace HX := Lib.hid (RowIs.below HX.out hw135)
      replace HA := Lib.hid (HA.out.below hw135)
      replace RA := Lib.hid (RowIs.below RA.out hw135)
      replace RB := Lib.hid (RowIs.below RB.out hw135)
      replace RC := Lib.hid (RowIs.below RC.out hw135)
      replace RD := Lib.hid (RowIs.below RD.out hw135)
      replace RE := Lib.hid (RowIs.below RE.out hw135)
      replace RF := Lib.hid (RowIs.below RF.out hw135)
      replace hB := bup hB hw135
      have hC136 := less_small z1 z3 w134
      rw [lt2] at hC136
      try dsimp only [re2, re3, proofV, zeroP] at hC136
      have C136 := Lib.hid hC136
      clear hC136
      obtain ⟨v1370, v1371, _, _, v137z⟩ := ratrow2 RC.out
      obtain ⟨v1380, v1381, _, _, v138z⟩ := ratrow2 RD.out
      obtain ⟨v1390, v1391, _, _, v139z⟩ := ratrow2 RE.out
      obtain ⟨v1400, v1401, _, _, v140z⟩ := ratrow2 RF.out
      go_wp2_with fail
      clear hw135 v1370 v1371 v137z v1380 v1381 v138z v1390 v1391 v139z v1400 v1401 v140z
      refine C136.out.mono ?_
      rintro e w141 ⟨rfl, hw142⟩
      clear C136
      replace HM := Lib.hid (HM.out.below hw142)
      replace HT := Lib.hid (RowIs.below HT.out hw142)
      replace HG := Lib.hid (HG.out.below hw142)
      replace HX := Lib.hid (RowIs.below HX.out hw142)
      replace HA := Lib.hid (HA.out.below hw142)
      replace RA := Lib.hid (RowIs.below RA.out hw142)
      replace RB := Lib.hid (RowIs.below RB.out hw142)
      replace RC := Lib.hid (RowIs.below RC.out hw142)
      replace RD := Lib.hid (RowIs.below RD.out hw142)
      replace RE := Lib.hid (RowIs.below RE.out hw142)
      replace RF := Lib.hid (RowIs.below RF.out hw142)
      replace hB := bup hB hw142
      have hC143 := less_small z4 z2 w141
      rw [lt3] at hC143
      try dsimp only [re2, re3, proofV, zeroP] at hC143
      have C143 := Lib.hid hC143
      clear hC143
      obtain ⟨v1440, v1441, _, _, v144z⟩ := ratrow2 RC.out
      obtain ⟨v1450, v1451, _, _, v145z⟩ := ratrow2 RD.out
      obtain ⟨v1460, v1461, _, _, v146z⟩ := ratrow2 RE.out
      obtain ⟨v1470, v1471, _, _, v147z⟩ := ratrow2 RF.out
      go_wp2_with fail
      clear hw142 v1440 v1441 v144z v1450 v1451 v145z v1460 v1461 v146z v1470 v1471 v147z
      refine C143.out.mono ?_
      rintro e w148 ⟨rfl, hw149⟩
      clear C143
      replace HM := Lib.hid (HM.out.below hw149)
      replace HT := Lib.hid (RowIs.below HT.out hw149)
      replace HG := Lib.hid (HG.out.below hw149)
      replace HX := Lib.hid (RowIs.below HX.out hw149)
      replace HA := Lib.hid (HA.out.below hw149)
      replace RA := Lib.hid (RowIs.below RA.out hw149)
      replace RB := Lib.hid (RowIs.below RB.out hw149)
      replace RC := Lib.hid (RowIs.below RC.out hw149)
      replace RD := Lib.hid (RowIs.below RD.out hw149)
      replace RE := Lib.hid (RowIs.below RE.out hw149)
      replace RF := Lib.hid (RowIs.below RF.out hw149)
      replace hB := bup hB hw149
      have hC150 := less_small z2 z1 w148
      rw [lt4] at hC150
      try dsimp only [re2, re3, proofV, zeroP] at hC150
      have C150 := Lib.hid hC150
      clear hC150
      obtain ⟨v1510, v1511, _, _, v151z⟩ := ratrow2 RC.out
      obtain ⟨v1520, v1521, _, _, v152z⟩ := ratrow2 RD.out
      obtain ⟨v1530, v1531, _, _, v153z⟩ := ratrow2 RE.out
      obtain ⟨v1540, v1541, _, _, v154z⟩ := ratrow2 RF.out
      go_wp2_with fail
      clear hw149 v1510 v1511 v151z v1520 v1521 v152z v1530 v1531 v153z v1540 v1541 v154z
      refine C150.out.mono ?_
      rintro e w155 ⟨rfl, hw156⟩
      clear C150
      replace HM := Lib.hid (HM.out.below hw156)
      replace HT := Lib.hid (RowIs.below HT.out hw156)
      replace HG := Lib.hid (HG.out.below hw156)
      replace HX := Lib.hid (RowIs.below HX.out hw156)
      replace HA := Lib.hid (HA.out.below hw156)
      replace RA := Lib.hid (RowIs.below RA.out hw156)
      replace RB := Lib.hid (RowIs.below RB.out hw156)
      replace RC := Lib.hid (RowIs.below RC.out hw156)
      replace RD := Lib.hid (RowIs.below RD.out hw156)
      replace RE := Lib.hid (RowIs.below RE.out hw156)
      replace RF := Lib.hid (RowIs.below RF.out hw156)
      replace hB := bup hB hw156
      have HM0 := HM
      have HA0 := HA
      have HT0 := HT
      have hB0 := hB
      obtain ⟨BY, hBY⟩ : ∃ BY, w155.heap.size = BY := ⟨_, rfl⟩
      have hbl : Below w155.heap.size w155 (w155.alloc (.cells #[] 68)) := Below.alloc1 (Below.refl _ _) _ (Nat.le_refl _)
      have hol := own_lit w155 (base := BY) (N := BY) 68 5 (by omega) (by omega)
      go_wp2_with (at_builtin; refine wpList_append_own _ rfl _ _ 22 rfl BY 68 i0 (.agg #[.int .i64 0, .int .i64 0, .int .i64 0, .int .i64 0, .int .i64 0]) 5 40 Tryz.underlying22 hi hz0 hz1 hz2 rfl (by decide) _ 0 [] rfl hol ⟨ba, oa, none⟩ n cap (mCells m n) rfl (mCells_len m n) (fun j u h => mCells_at (HM.out.below hbl) j u h) (mCells_one m n) (by unfold maxLen; omega) (by omega) (by simp; omega) ?_; intro v' w2 hown2 hgr2 _; simp only [Nat.zero_add, List.nil_append] at hown2; obtain ⟨gY, cY, rfl, hgYz⟩ := own_form hown2 (by omega))
      clear hw156
      have hbw : Below w155.heap.size w155 w2 := hbl.grown hgr2 (by first | (simp; done) | (simp; omega)) (fun q h => by have := (hol.lt q h).1; omega)
      have hgYb := (hown2.lt gY rfl).1
      have HO := Lib.hid hown2
      clear hown2 hgr2 hol hbl
      replace HM := Lib.hid (HM.out.below hbw)
      replace HT := Lib.hid (RowIs.below HT.out hbw)
      replace HG := Lib.hid (HG.out.below hbw)
      replace HX := Lib.hid (RowIs.below HX.out hbw)
      replace HA := Lib.hid (HA.out.below hbw)
      replace RA := Lib.hid (RowIs.below RA.out hbw)
      replace RB := Lib.hid (RowIs.below RB.out hbw)
      replace RC := Lib.hid (RowIs.below RC.out hbw)
      replace RD := Lib.hid (RowIs.below RD.out hbw)
      replace RE := Lib.hid (RowIs.below RE.out hbw)
      replace RF := Lib.hid (RowIs.below RF.out hbw)
      replace hB := bup hB hbw
      obtain ⟨Z157, hZ157⟩ : ∃ Z157, w2.alloc (.cells #[.int .u16 le] 64) = Z157 := ⟨_, rfl⟩
      have hbZ157 : Below w2.heap.size w2 Z157 := by rw [← hZ157]; exact Below.alloc1 (Below.refl _ _) _ (Nat.le_refl _)
      have hsZ157 : Shorts Z157 (some ⟨w2.heap.size, 0, none⟩) 1 (fun _ => le) := by rw [← hZ157]; exact short_one w2 le _
      rw [hZ157]
      replace HM := Lib.hid (HM.out.below hbZ157)
      replace HT := Lib.hid (RowIs.below HT.out hbZ157)
      replace HG := Lib.hid (HG.out.below hbZ157)
      replace HX := Lib.hid (RowIs.below HX.out hbZ157)
      replace HA := Lib.hid (HA.out.below hbZ157)
      replace RA := Lib.hid (RowIs.below RA.out hbZ157)
      replace RB := Lib.hid (RowIs.below RB.out hbZ157)
      replace RC := Lib.hid (RowIs.below RC.out hbZ157)
      replace RD := Lib.hid (RowIs.below RD.out hbZ157)
      replace RE := Lib.hid (RowIs.below RE.out hbZ157)
      replace RF := Lib.hid (RowIs.below RF.out hbZ157)
      replace hB := bup hB hbZ157
      replace HO := Lib.hid (own_below HO.out hbZ157)
      refine (known_c (some ⟨ba, oa, none⟩) (some ⟨w2.heap.size, 0, none⟩) n cap 1 1 m (fun _ => le) Z157 HM.out HFn.out hsZ157 (by omega) (fun _ _ => hle)).mono ?_
      rintro e w158 ⟨gK, cK, gKl, gKz, rfl, hK0, hw159⟩
      replace HM := Lib.hid (HM.out.below hw159)
      replace HT := Lib.hid (RowIs.below HT.out hw159)
      replace HG := Lib.hid (HG.out.below hw159)
      replace HX := Lib.hid (RowIs.below HX.out hw159)
      replace HA := Lib.hid (HA.out.below hw159)
      replace RA := Lib.hid (RowIs.below RA.out hw159)
      replace RB := Lib.hid (RowIs.below RB.out hw159)
      replace RC := Lib.hid (RowIs.below RC.out hw159)
      replace RD := Lib.hid (RowIs.below RD.out hw159)
      replace RE := Lib.hid (RowIs.below RE.out hw159)
      replace RF := Lib.hid (RowIs.below RF.out hw159)
      replace hB := bup hB hw159
      replace HO := Lib.hid (own_below HO.out hw159)
      obtain ⟨bK, oK, hKe, hKs, k0, k1, k2, k3, k4⟩ := Metals.at hK0 k hkn
      cases hKe
      rw [Hq.out] at k0 k1 k2 k3 k4
      simp only [Nat.zero_add] at k0 k1 k2 k3 k4
      have y0 := (HO.out.cellAt (k * 5 + 0) (by omega)).trans (mCells_get m hkn (b := 0) (by omega))
      have f0 := HO.out.frozenAt (k * 5 + 0)
      have y1 := (HO.out.cellAt (k * 5 + 1) (by omega)).trans (mCells_get m hkn (b := 1) (by omega))
      have f1 := HO.out.frozenAt (k * 5 + 1)
      have y2 := (HO.out.cellAt (k * 5 + 2) (by omega)).trans (mCells_get m hkn (b := 2) (by omega))
      have f2 := HO.out.frozenAt (k * 5 + 2)
      have y3 := (HO.out.cellAt (k * 5 + 3) (by omega)).trans (mCells_get m hkn (b := 3) (by omega))
      have f3 := HO.out.frozenAt (k * 5 + 3)
      have y4 := (HO.out.cellAt (k * 5 + 4) (by omega)).trans (mCells_get m hkn (b := 4) (by omega))
      have f4 := HO.out.frozenAt (k * 5 + 4)
      simp only [M5.cells, List.getElem?_cons_zero, List.getElem?_cons_succ, Nat.add_zero] at y0 y1 y2 y3 y4 f0
      have hgYz2 : gY < w158.heap.size := ((HO.out.lt gY rfl)).2
      obtain ⟨V, hV⟩ : ∃ V, put5 w158 gY k q = V := ⟨_, rfl⟩
      have hbV : Below w155.heap.size w155 V := by rw [← hV]; exact put_below (bup hbw (bup hbZ157 hw159)) (by omega) k q
      have HYm := Lib.hid (show Metals V (some ⟨gY, 0, none⟩) n (putM m k q) by rw [← hV]; exact (metals_of_own (put_own HO.out hkn q)).1)
      unfold put5 at hV
      replace HM := Lib.hid (HM0.out.below hbV)
      replace HA := Lib.hid (HA0.out.below hbV)
      replace HT := Lib.hid (RowIs.below HT0.out hbV)
      replace hB := bup hB0 hbV
      have hC160 := Deserves_c (some ⟨ba, oa, none⟩) (some ⟨gHA, 0, none⟩) n cap n cHA m A l c true V HM.out HA.out hn hn
      rw [Hd3.out] at hC160
      try dsimp only [re2, re3, proofV, zeroP] at hC160
      have C160 := Lib.hid hC160
      clear hC160
      obtain ⟨uc0, uc1, _, _, uz⟩ := ratrow2 HT.out
      go_wp2_with fail
      clear k0 k1 k2 k3 k4 y0 y1 y2 y3 y4 f0 f1 f2 f3 f4 hV hbV
      refine C160.out.mono ?_
      rintro e w161 ⟨rfl, hw162⟩
      clear C160 uc0 uc1 uz
      replace HM := Lib.hid (HM.out.below hw162)
      replace HT := Lib.hid (RowIs.below HT.out hw162)
      replace HA := Lib.hid (HA.out.below hw162)
      replace HYm := Lib.hid (HYm.out.below hw162)
      replace hB := bup hB hw162
      cases e3 : d3 != 0
      case true =>
        go_wp2_with fail
        refine (works_c _).mono ?_
        rintro e wz ⟨rfl, hbz⟩
        go_wp2
        go_ret
        exact ⟨rfl, bup hB hbz⟩
      case false =>
        have e4 : d4 = 0 := E4 (by simpa using e3)
        have hC9 := Deserves_c (some ⟨gY, 0, none⟩) (some ⟨gHA, 0, none⟩) n cY n cHA (putM m k q) A l c true w161 HYm.out HA.out hn hn
        rw [Hd4.out, e4] at hC9
        have C9 := Lib.hid hC9
        clear hC9
        obtain ⟨uc0, uc1, _, _, uz⟩ := ratrow2 HT.out
        go_wp2_with fail
        refine C9.out.mono ?_
        rintro e wq9 ⟨rfl, hq9⟩
        go_wp2_with fail
        refine (works_c _).mono ?_
        rintro e wz ⟨rfl, hbz⟩
        go_wp2
        go_ret
        exact ⟨rfl, bup hB (bup hq9 hbz)⟩
  case false =>
    subst his
    clear p3 p4
    cases e1 : d1 != 0
    case true =>
      have e1b : (d1 == 0) = false := by simpa using e1
      have hC163 := Deserves_c (some ⟨ba, oa, none⟩) (some ⟨gHA, 0, none⟩) n cap n cHA m A l c sure Y12 HM.out HA.out hn hn
      rw [Hd1.out] at hC163
      try dsimp only [re2, re3, proofV, zeroP] at hC163
      have C163 := Lib.hid hC163
      clear hC163
      obtain ⟨tc0, tc1, _, _, tz⟩ := ratrow2 HT.out
      obtain ⟨v1640, v1641, _, _, v164z⟩ := ratrow2 RA.out
      obtain ⟨v1650, v1651, _, _, v165z⟩ := ratrow2 RB.out
      go_wp2_with fail
      clear hw11 hbRB hY12 hy13 tc0 tc1 tz v1640 v1641 v164z v1650 v1651 v165z
      refine C163.out.mono ?_
      rintro e w166 ⟨rfl, hw167⟩
      clear C163
      replace HM := Lib.hid (HM.out.below hw167)
      replace HT := Lib.hid (RowIs.below HT.out hw167)
      replace HG := Lib.hid (HG.out.below hw167)
      replace HX := Lib.hid (RowIs.below HX.out hw167)
      replace HA := Lib.hid (HA.out.below hw167)
      replace RA := Lib.hid (RowIs.below RA.out hw167)
      replace RB := Lib.hid (RowIs.below RB.out hw167)
      replace hB := bup hB hw167
      have HM0 := HM
      have HA0 := HA
      have HT0 := HT
      have hB0 := hB
      obtain ⟨BY, hBY⟩ : ∃ BY, w166.heap.size = BY := ⟨_, rfl⟩
      have hbl : Below w166.heap.size w166 (w166.alloc (.cells #[] 68)) := Below.alloc1 (Below.refl _ _) _ (Nat.le_refl _)
      have hol := own_lit w166 (base := BY) (N := BY) 68 5 (by omega) (by omega)
      go_wp2_with (at_builtin; refine wpList_append_own _ rfl _ _ 22 rfl BY 68 i0 (.agg #[.int .i64 0, .int .i64 0, .int .i64 0, .int .i64 0, .int .i64 0]) 5 40 Tryz.underlying22 hi hz0 hz1 hz2 rfl (by decide) _ 0 [] rfl hol ⟨ba, oa, none⟩ n cap (mCells m n) rfl (mCells_len m n) (fun j u h => mCells_at (HM.out.below hbl) j u h) (mCells_one m n) (by unfold maxLen; omega) (by omega) (by simp; omega) ?_; intro v' w2 hown2 hgr2 _; simp only [Nat.zero_add, List.nil_append] at hown2; obtain ⟨gY, cY, rfl, hgYz⟩ := own_form hown2 (by omega))
      clear hw167
      have hbw : Below w166.heap.size w166 w2 := hbl.grown hgr2 (by first | (simp; done) | (simp; omega)) (fun q h => by have := (hol.lt q h).1; omega)
      have hgYb := (hown2.lt gY rfl).1
      have HO := Lib.hid hown2
      clear hown2 hgr2 hol hbl
      replace HM := Lib.hid (HM.out.below hbw)
      replace HT := Lib.hid (RowIs.below HT.out hbw)
      replace HG := Lib.hid (HG.out.below hbw)
      replace HX := Lib.hid (RowIs.below HX.out hbw)
      replace HA := Lib.hid (HA.out.below hbw)
      replace RA := Lib.hid (RowIs.below RA.out hbw)
      replace RB := Lib.hid (RowIs.below RB.out hbw)
      replace hB := bup hB hbw
      obtain ⟨Z168, hZ168⟩ : ∃ Z168, w2.alloc (.cells #[.int .u16 le] 64) = Z168 := ⟨_, rfl⟩
      have hbZ168 : Below w2.heap.size w2 Z168 := by rw [← hZ168]; exact Below.alloc1 (Below.refl _ _) _ (Nat.le_refl _)
      have hsZ168 : Shorts Z168 (some ⟨w2.heap.size, 0, none⟩) 1 (fun _ => le) := by rw [← hZ168]; exact short_one w2 le _
      rw [hZ168]
      replace HM := Lib.hid (HM.out.below hbZ168)
      replace HT := Lib.hid (RowIs.below HT.out hbZ168)
      replace HG := Lib.hid (HG.out.below hbZ168)
      replace HX := Lib.hid (RowIs.below HX.out hbZ168)
      replace HA := Lib.hid (HA.out.below hbZ168)
      replace RA := Lib.hid (RowIs.below RA.out hbZ168)
      replace RB := Lib.hid (RowIs.below RB.out hbZ168)
      replace hB := bup hB hbZ168
      replace HO := Lib.hid (own_below HO.out hbZ168)
      refine (known_c (some ⟨ba, oa, none⟩) (some ⟨w2.heap.size, 0, none⟩) n cap 1 1 m (fun _ => le) Z168 HM.out HFn.out hsZ168 (by omega) (fun _ _ => hle)).mono ?_
      rintro e w169 ⟨gK, cK, gKl, gKz, rfl, hK0, hw170⟩
      replace HM := Lib.hid (HM.out.below hw170)
      replace HT := Lib.hid (RowIs.below HT.out hw170)
      replace HG := Lib.hid (HG.out.below hw170)
      replace HX := Lib.hid (RowIs.below HX.out hw170)
      replace HA := Lib.hid (HA.out.below hw170)
      replace RA := Lib.hid (RowIs.below RA.out hw170)
      replace RB := Lib.hid (RowIs.below RB.out hw170)
      replace hB := bup hB hw170
      replace HO := Lib.hid (own_below HO.out hw170)
      obtain ⟨bK, oK, hKe, hKs, k0, k1, k2, k3, k4⟩ := Metals.at hK0 k hkn
      cases hKe
      rw [Hq.out] at k0 k1 k2 k3 k4
      simp only [Nat.zero_add] at k0 k1 k2 k3 k4
      have y0 := (HO.out.cellAt (k * 5 + 0) (by omega)).trans (mCells_get m hkn (b := 0) (by omega))
      have f0 := HO.out.frozenAt (k * 5 + 0)
      have y1 := (HO.out.cellAt (k * 5 + 1) (by omega)).trans (mCells_get m hkn (b := 1) (by omega))
      have f1 := HO.out.frozenAt (k * 5 + 1)
      have y2 := (HO.out.cellAt (k * 5 + 2) (by omega)).trans (mCells_get m hkn (b := 2) (by omega))
      have f2 := HO.out.frozenAt (k * 5 + 2)
      have y3 := (HO.out.cellAt (k * 5 + 3) (by omega)).trans (mCells_get m hkn (b := 3) (by omega))
      have f3 := HO.out.frozenAt (k * 5 + 3)
      have y4 := (HO.out.cellAt (k * 5 + 4) (by omega)).trans (mCells_get m hkn (b := 4) (by omega))
      have f4 := HO.out.frozenAt (k * 5 + 4)
      simp only [M5.cells, List.getElem?_cons_zero, List.getElem?_cons_succ, Nat.add_zero] at y0 y1 y2 y3 y4 f0
      have hgYz2 : gY < w169.heap.size := ((HO.out.lt gY rfl)).2
      obtain ⟨V, hV⟩ : ∃ V, put5 w169 gY k q = V := ⟨_, rfl⟩
      have hbV : Below w166.heap.size w166 V := by rw [← hV]; exact put_below (bup hbw (bup hbZ168 hw170)) (by omega) k q
      have HYm := Lib.hid (show Metals V (some ⟨gY, 0, none⟩) n (putM m k q) by rw [← hV]; exact (metals_of_own (put_own HO.out hkn q)).1)
      unfold put5 at hV
      replace HM := Lib.hid (HM0.out.below hbV)
      replace HA := Lib.hid (HA0.out.below hbV)
      replace HT := Lib.hid (RowIs.below HT0.out hbV)
      replace hB := bup hB0 hbV
      have hC171 := Deserves_c (some ⟨ba, oa, none⟩) (some ⟨gHA, 0, none⟩) n cap n cHA m A l c true V HM.out HA.out hn hn
      rw [Hd3.out] at hC171
      try dsimp only [re2, re3, proofV, zeroP] at hC171
      have C171 := Lib.hid hC171
      clear hC171
      obtain ⟨uc0, uc1, _, _, uz⟩ := ratrow2 HT.out
      go_wp2_with fail
      clear k0 k1 k2 k3 k4 y0 y1 y2 y3 y4 f0 f1 f2 f3 f4 hV hbV
      refine C171.out.mono ?_
      rintro e w172 ⟨rfl, hw173⟩
      clear C171 uc0 uc1 uz
      replace HM := Lib.hid (HM.out.below hw173)
      replace HT := Lib.hid (RowIs.below HT.out hw173)
      replace HA := Lib.hid (HA.out.below hw173)
      replace HYm := Lib.hid (HYm.out.below hw173)
      replace hB := bup hB hw173
      cases e3 : d3 != 0
      case true =>
        go_wp2_with fail
        refine (works_c _).mono ?_
        rintro e wz ⟨rfl, hbz⟩
        go_wp2
        go_ret
        exact ⟨rfl, bup hB hbz⟩
      case false =>
        have e4 : d4 = 0 := E4 (by simpa using e3)
        have hC9 := Deserves_c (some ⟨gY, 0, none⟩) (some ⟨gHA, 0, none⟩) n cY n cHA (putM m k q) A l c true w172 HYm.out HA.out hn hn
        rw [Hd4.out, e4] at hC9
        have C9 := Lib.hid hC9
        clear hC9
        obtain ⟨uc0, uc1, _, _, uz⟩ := ratrow2 HT.out
        go_wp2_with fail
        refine C9.out.mono ?_
        rintro e wq9 ⟨rfl, hq9⟩
        go_wp2_with fail
        refine (works_c _).mono ?_
        rintro e wz ⟨rfl, hbz⟩
        go_wp2
        go_ret
        exact ⟨rfl, bup hB (bup hq9 hbz)⟩
    case false =>
      have e1b : (d1 == 0) = true := by simpa using e1
      have e2 : d2 = 0 := E2 (by simpa using e1)
      have hC174 := Deserves_c (some ⟨ba, oa, none⟩) (some ⟨gHA, 0, none⟩) n cap n cHA m A l c sure Y12 HM.out HA.out hn hn
      rw [Hd1.out] at hC174
      try dsimp only [re2, re3, proofV, zeroP] at hC174
      have C174 := Lib.hid hC174
      clear hC174
      obtain ⟨tc0, tc1, _, _, tz⟩ := ratrow2 HT.out
      obtain ⟨v1750, v1751, _, _, v175z⟩ := ratrow2 RA.out
      obtain ⟨v1760, v1761, _, _, v176z⟩ := ratrow2 RB.out
      go_wp2_with fail
      clear hw11 hbRB hY12 hy13 tc0 tc1 tz v1750 v1751 v175z v1760 v1761 v176z
      refine C174.out.mono ?_
      rintro e w177 ⟨rfl, hw178⟩
      clear C174
      replace HM := Lib.hid (HM.out.below hw178)
      replace HT := Lib.hid (RowIs.below HT.out hw178)
      replace HG := Lib.hid (HG.out.below hw178)
      replace HX := Lib.hid (RowIs.below HX.out hw178)
      replace HA := Lib.hid (HA.out.below hw178)
      replace RA := Lib.hid (RowIs.below RA.out hw178)
      replace RB := Lib.hid (RowIs.below RB.out hw178)
      replace hB := bup hB hw178
      have hC179 := Deserves_c (some ⟨ba, oa, none⟩) (some ⟨gHA, 0, none⟩) n cap n cHA m A l' c' sure w177 HM.out HA.out hn hn
      rw [Hd2.out] at hC179
      try dsimp only [re2, re3, proofV, zeroP] at hC179
      have C179 := Lib.hid hC179
      clear hC179
      obtain ⟨xc0, xc1, _, _, xz⟩ := ratrow2 HX.out
      go_wp2_with fail
      clear hw178 xc0 xc1 xz
      refine C179.out.mono ?_
      rintro e w180 ⟨rfl, hw181⟩
      clear C179
      replace HM := Lib.hid (HM.out.below hw181)
      replace HT := Lib.hid (RowIs.below HT.out hw181)
      replace HG := Lib.hid (HG.out.below hw181)
      replace HX := Lib.hid (RowIs.below HX.out hw181)
      replace HA := Lib.hid (HA.out.below hw181)
      replace RA := Lib.hid (RowIs.below RA.out hw181)
      replace RB := Lib.hid (RowIs.below RB.out hw181)
      replace hB := bup hB hw181
      have HM0 := HM
      have HA0 := HA
      have HT0 := HT
      have hB0 := hB
      obtain ⟨BY, hBY⟩ : ∃ BY, w180.heap.size = BY := ⟨_, rfl⟩
      have hbl : Below w180.heap.size w180 (w180.alloc (.cells #[] 68)) := Below.alloc1 (Below.refl _ _) _ (Nat.le_refl _)
      have hol := own_lit w180 (base := BY) (N := BY) 68 5 (by omega) (by omega)
      go_wp2_with (at_builtin; refine wpList_append_own _ rfl _ _ 22 rfl BY 68 i0 (.agg #[.int .i64 0, .int .i64 0, .int .i64 0, .int .i64 0, .int .i64 0]) 5 40 Tryz.underlying22 hi hz0 hz1 hz2 rfl (by decide) _ 0 [] rfl hol ⟨ba, oa, none⟩ n cap (mCells m n) rfl (mCells_len m n) (fun j u h => mCells_at (HM.out.below hbl) j u h) (mCells_one m n) (by unfold maxLen; omega) (by omega) (by simp; omega) ?_; intro v' w2 hown2 hgr2 _; simp only [Nat.zero_add, List.nil_append] at hown2; obtain ⟨gY, cY, rfl, hgYz⟩ := own_form hown2 (by omega))
      clear hw181
      have hbw : Below w180.heap.size w180 w2 := hbl.grown hgr2 (by first | (simp; done) | (simp; omega)) (fun q h => by have := (hol.lt q h).1; omega)
      have hgYb := (hown2.lt gY rfl).1
      have HO := Lib.hid hown2
      clear hown2 hgr2 hol hbl
      replace HM := Lib.hid (HM.out.below hbw)
      replace HT := Lib.hid (RowIs.below HT.out hbw)
      replace HG := Lib.hid (HG.out.below hbw)
      replace HX := Lib.hid (RowIs.below HX.out hbw)
      replace HA := Lib.hid (HA.out.below hbw)
      replace RA := Lib.hid (RowIs.below RA.out hbw)
      replace RB := Lib.hid (RowIs.below RB.out hbw)
      replace hB := bup hB hbw
      obtain ⟨Z182, hZ182⟩ : ∃ Z182, w2.alloc (.cells #[.int .u16 le] 64) = Z182 := ⟨_, rfl⟩
      have hbZ182 : Below w2.heap.size w2 Z182 := by rw [← hZ182]; exact Below.alloc1 (Below.refl _ _) _ (Nat.le_refl _)
      have hsZ182 : Shorts Z182 (some ⟨w2.heap.size, 0, none⟩) 1 (fun _ => le) := by rw [← hZ182]; exact short_one w2 le _
      rw [hZ182]
      replace HM := Lib.hid (HM.out.below hbZ182)
      replace HT := Lib.hid (RowIs.below HT.out hbZ182)
      replace HG := Lib.hid (HG.out.below hbZ182)
      replace HX := Lib.hid (RowIs.below HX.out hbZ182)
      replace HA := Lib.hid (HA.out.below hbZ182)
      replace RA := Lib.hid (RowIs.below RA.out hbZ182)
      replace RB := Lib.hid (RowIs.below RB.out hbZ182)
      replace hB := bup hB hbZ182
      replace HO := Lib.hid (own_below HO.out hbZ182)
      refine (known_c (some ⟨ba, oa, none⟩) (some ⟨w2.heap.size, 0, none⟩) n cap 1 1 m (fun _ => le) Z182 HM.out HFn.out hsZ182 (by omega) (fun _ _ => hle)).mono ?_
      rintro e w183 ⟨gK, cK, gKl, gKz, rfl, hK0, hw184⟩
      replace HM := Lib.hid (HM.out.below hw184)
      replace HT := Lib.hid (RowIs.below HT.out hw184)
      replace HG := Lib.hid (HG.out.below hw184)
      replace HX := Lib.hid (RowIs.below HX.out hw184)
      replace HA := Lib.hid (HA.out.below hw184)
      replace RA := Lib.hid (RowIs.below RA.out hw184)
      replace RB := Lib.hid (RowIs.below RB.out hw184)
      replace hB := bup hB hw184
      replace HO := Lib.hid (own_below HO.out hw184)
      obtain ⟨bK, oK, hKe, hKs, k0, k1, k2, k3, k4⟩ := Metals.at hK0 k hkn
      cases hKe
      rw [Hq.out] at k0 k1 k2 k3 k4
      simp only [Nat.zero_add] at k0 k1 k2 k3 k4
      have y0 := (HO.out.cellAt (k * 5 + 0) (by omega)).trans (mCells_get m hkn (b := 0) (by omega))
      have f0 := HO.out.frozenAt (k * 5 + 0)
      have y1 := (HO.out.cellAt (k * 5 + 1) (by omega)).trans (mCells_get m hkn (b := 1) (by omega))
      have f1 := HO.out.frozenAt (k * 5 + 1)
      have y2 := (HO.out.cellAt (k * 5 + 2) (by omega)).trans (mCells_get m hkn (b := 2) (by omega))
      have f2 := HO.out.frozenAt (k * 5 + 2)
      have y3 := (HO.out.cellAt (k * 5 + 3) (by omega)).trans (mCells_get m hkn (b := 3) (by omega))
      have f3 := HO.out.frozenAt (k * 5 + 3)
      have y4 := (HO.out.cellAt (k * 5 + 4) (by omega)).trans (mCells_get m hkn (b := 4) (by omega))
      have f4 := HO.out.frozenAt (k * 5 + 4)
      simp only [M5.cells, List.getElem?_cons_zero, List.getElem?_cons_succ, Nat.add_zero] at y0 y1 y2 y3 y4 f0
      have hgYz2 : gY < w183.heap.size := ((HO.out.lt gY rfl)).2
      obtain ⟨V, hV⟩ : ∃ V, put5 w183 gY k q = V := ⟨_, rfl⟩
      have hbV : Below w180.heap.size w180 V := by rw [← hV]; exact put_below (bup hbw (bup hbZ182 hw184)) (by omega) k q
      have HYm := Lib.hid (show Metals V (some ⟨gY, 0, none⟩) n (putM m k q) by rw [← hV]; exact (metals_of_own (put_own HO.out hkn q)).1)
      unfold put5 at hV
      replace HM := Lib.hid (HM0.out.below hbV)
      replace HA := Lib.hid (HA0.out.below hbV)
      replace HT := Lib.hid (RowIs.below HT0.out hbV)
      replace hB := bup hB0 hbV
      have hC185 := Deserves_c (some ⟨ba, oa, none⟩) (some ⟨gHA, 0, none⟩) n cap n cHA m A l c true V HM.out HA.out hn hn
      rw [Hd3.out] at hC185
      try dsimp only [re2, re3, proofV, zeroP] at hC185
      have C185 := Lib.hid hC185
      clear hC185
      obtain ⟨uc0, uc1, _, _, uz⟩ := ratrow2 HT.out
      go_wp2_with fail
      clear k0 k1 k2 k3 k4 y0 y1 y2 y3 y4 f0 f1 f2 f3 f4 hV hbV
      refine C185.out.mono ?_
      rintro e w186 ⟨rfl, hw187⟩
      clear C185 uc0 uc1 uz
      replace HM := Lib.hid (HM.out.below hw187)
      replace HT := Lib.hid (RowIs.below HT.out hw187)
      replace HA := Lib.hid (HA.out.below hw187)
      replace HYm := Lib.hid (HYm.out.below hw187)
      replace hB := bup hB hw187
      cases e3 : d3 != 0
      case true =>
        go_wp2_with fail
        refine (works_c _).mono ?_
        rintro e wz ⟨rfl, hbz⟩
        go_wp2
        go_ret
        exact ⟨rfl, bup hB hbz⟩
      case false =>
        have e4 : d4 = 0 := E4 (by simpa using e3)
        have hC9 := Deserves_c (some ⟨gY, 0, none⟩) (some ⟨gHA, 0, none⟩) n cY n cHA (putM m k q) A l c true w186 HYm.out HA.out hn hn
        rw [Hd4.out, e4] at hC9
        have C9 := Lib.hid hC9
        clear hC9
        obtain ⟨uc0, uc1, _, _, uz⟩ := ratrow2 HT.out
        go_wp2_with fail
        refine C9.out.mono ?_
        rintro e wq9 ⟨rfl, hq9⟩
        go_wp2_with fail
        refine (works_c _).mono ?_
        rintro e wz ⟨rfl, hbz⟩
        go_wp2
        go_ret
        exact ⟨rfl, bup hB (bup hq9 hbz)⟩

end Go.Proofs.YtehafggcncbnkaaGreat
