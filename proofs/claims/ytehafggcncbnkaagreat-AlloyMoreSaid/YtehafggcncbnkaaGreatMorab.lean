/- The law AlloySurely answers true. Written by tools/lawsurely.py. -/
import Derived.Deep.RegionHeld3
import Derived.Deep.DeepCutAuto
import Derived.Deep.CutRange
import Derived.Test.YtehafggcncbnkaaGreatProg
import Derived.Test.YtehafggcncbnkaaGreatBasaa
import Derived.Test.YtehafggcncbnkaaGreatBasad
import Derived.Test.YtehafggcncbnkaaGreatBasas
import Derived.Test.YtehafggcncbnkaaGreatMoraa
import Derived.Test.YtehafggcncbnkaaGreatBasau
import Derived.Test.YtehafggcncbnkaaGreatBasaq
import Derived.Test.YtehafggcncbnkaaGreatBasar
import Derived.Test.YtehafggcncbnkaaGreatBasat
import Derived.Test.YtehafggcncbnkaaGreatBasav
import Derived.Test.YtehafggcncbnkaaGreatBasai
namespace Go.Proofs.YtehafggcncbnkaaGreat
open Go Go.RowKit

/-- With less bad lead and more good copper a mixture deserves what it did. -/
theorem good_mono {n : Nat} {m m' : Nat → M5} {l c : Int} {s s' : Bool} {f : Nat → Int} (hf : ∀ i, i < n → 0 ≤ f i) (h : ∀ i, i < n → bad s' (m' i) ≤ bad s (m i) ∧ good s (m i) ≤ good s' (m' i)) (hg : goodB s n m l c f = true) : goodB s' n m' l c f = true := by
  obtain ⟨g1, g2⟩ := of_decide_eq_true hg
  have h1 := sumF_nonneg (f := fun i => f i * bad s (m i) - f i * bad s' (m' i)) (n := n) fun i hi => by
    have := Int.mul_le_mul_of_nonneg_left (h i hi).1 (hf i hi)
    omega
  have h2 := sumF_nonneg (f := fun i => f i * good s' (m' i) - f i * good s (m i)) (n := n) fun i hi => by
    have := Int.mul_le_mul_of_nonneg_left (h i hi).2 (hf i hi)
    omega
  have e1 := sumF_lin 1 (-1) (fun i => f i * bad s (m i)) (fun i => f i * bad s' (m' i)) n
  have e2 := sumF_lin 1 (-1) (fun i => f i * good s' (m' i)) (fun i => f i * good s (m i)) n
  rw [sumC (g := fun i => 1 * (f i * bad s (m i)) + -1 * (f i * bad s' (m' i))) fun i _ => by omega, e1] at h1
  rw [sumC (g := fun i => 1 * (f i * good s' (m' i)) + -1 * (f i * good s (m i))) fun i _ => by omega, e2] at h2
  refine decide_eq_true ?_
  unfold leadF copperF at *
  omega

theorem fine_metals {n : Nat} {m : Nat → M5} (h : Fine n m) : metalsE n m = 0 := by
  have hb : ∀ k, k ≤ n → anyBad m k = false := by
    intro k
    induction k with
    | zero => intro _; rfl
    | succ k ih =>
      intro hk
      have := h.2.2 k (by omega)
      unfold anyBad
      rw [ih (by omega)]
      have : badB (m k) = false := by unfold badB rangeB; simp; omega
      rw [this]
      rfl
  unfold metalsE
  rw [if_neg (by have := h.1; have := h.2.1; omega), hb n (Nat.le_refl _)]
  rfl

theorem known_bd {n len : Nat} {f : Nat → Int} {m : Nat → M5} (hF : Fine n m) (hf : ∀ i, i < len → 0 ≤ f i ∧ f i ≤ 65535) (i : Nat) (hi : i < n) :
    (knownM len f m i).p = (m i).p ∧ (knownM len f m i).l0 = (knownM len f m i).l1 ∧ (knownM len f m i).c0 = (knownM len f m i).c1 ∧ ((m i).l0 ≤ (knownM len f m i).l0 ∧ (knownM len f m i).l0 ≤ (m i).l1) ∧ ((m i).c0 ≤ (knownM len f m i).c0 ∧ (knownM len f m i).c0 ≤ (m i).c1) := by
  have h := hF.2.2 i hi
  have hx := mixG_bd (B := 65535) (by omega) hf i
  exact ⟨rfl, rfl, rfl, truth_bd ⟨h.2.2.1, h.2.2.2.1, h.2.2.2.2.1⟩ hx.1, truth_bd ⟨h.2.2.2.2.2.1, h.2.2.2.2.2.2.1, h.2.2.2.2.2.2.2⟩ (Int.tdiv_nonneg hx.1 (by omega))⟩
theorem known_fine {n len : Nat} {f : Nat → Int} {m : Nat → M5} (hF : Fine n m) (hf : ∀ i, i < len → 0 ≤ f i ∧ f i ≤ 65535) : Fine n (knownM len f m) :=
  ⟨hF.1, hF.2.1, fun i hi => by
    have h := hF.2.2 i hi
    obtain ⟨e1, e2, e3, e4, e5⟩ := known_bd hF hf i hi
    rw [e1, ← e2, ← e3]
    omega⟩

/-- The least cost with more mixtures is no more. -/
theorem low_le {n : Nat} {m m' : Nat → M5} {l c l' c' : Int} {s s' : Bool} {f f' : Nat → Int} (hp : ∀ x : Nat → Int, priceF m' x n = priceF m x n) (h : Low n m l c s f) (h' : Low n m' l' c' s' f') (hg : goodB s' n m' l' c' f = true) :
    ltB (costOf n m f).1 (costOf n m f).2 (costOf n m' f').1 (costOf n m' f').2 = false := by
  have := h'.low f (fun i _ => (h.mix.1 i).1) hg
  rw [hp, hp] at this
  show ltB (ratN _ _) (ratD _ _) (ratN _ _) (ratD _ _) = false
  rw [ltB_rat h.mix.2.2 h'.mix.2.2, hp]
  exact decide_eq_false (by omega)

set_option maxRecDepth 100000 in
set_option maxHeartbeats 16000000 in
theorem law_surely_c (a b b' : Option Addr) (n cap len cap2 len' cap2' : Nat) (m : Nat → M5) (g g' : Nat → Int) (l c : Int) (w : World) (hm : Metals w a n m) (hg : Shorts w b len g) (hgb : ∀ i, i < len → 0 ≤ g i ∧ g i ≤ 65535) (hg' : Shorts w b' len' g') (hgb' : ∀ i, i < len' → 0 ≤ g' i ∧ g' i ≤ 65535) :
    Calls Tryz.prog 9 #[.slice a n cap, .agg #[.int .i64 l, .int .i64 c], .slice b len cap2, .slice b' len' cap2'] w fun e w' => e = .returned (.bool true) ∧ Below w.heap.size w w' := by
  obtain ⟨W, hW⟩ : ∃ W, w.alloc (.cells #[.int .i64 l, .int .i64 c] 24) = W := ⟨_, rfl⟩
  have hB : Below w.heap.size w W := by rw [← hW]; exact (Below.alloc1 (Below.refl _ _) _ (Nat.le_refl _))
  have HT := Lib.hid (show RowIs W (w.heap.size) #[.int .i64 l, .int .i64 c] 24 by rw [← hW]; exact heap_new_at _ _ _ rfl)
  have HM := Lib.hid (hm.below hB)
  obtain ⟨bt, hbt⟩ : ∃ bt, w.heap.size = bt := ⟨_, rfl⟩
  rw [hbt] at HT
  have HG := Lib.hid (hg.below hB)
  have HG' := Lib.hid (hg'.below hB)
  clear hm hg hg'
  have HFi := Lib.hid (fine_c a n cap m l c W HM.out)
  by_cases hfine : n ≤ 12 ∧ bothE n m l c = 0
  case neg =>
    have hd : decide (n ≤ 12 ∧ bothE n m l c = 0) = false := decide_eq_false hfine
    rw [hd] at HFi
    obtain ⟨tc0, tc1, _, _, tz⟩ := ratrow2 HT.out
    go_enter Tryz.func9, Tryz.ntmps9
    go_wp2_with fail
    refine HFi.out.mono ?_
    rintro e w1 ⟨rfl, hb1⟩
    go_wp2_with fail
    refine (works_c _).mono ?_
    rintro e wz ⟨rfl, hbz⟩
    go_wp2
    go_ret
    exact ⟨rfl, bup hB (bup hb1 hbz)⟩
  case pos =>
  have hd : decide (n ≤ 12 ∧ bothE n m l c = 0) = true := decide_eq_true hfine
  rw [hd] at HFi
  by_cases hl : len ≤ 20
  case neg =>
    have hlt0 : decide ((20 : Int) < (len : Int)) = true := by simp; omega
    obtain ⟨tc0, tc1, _, _, tz⟩ := ratrow2 HT.out
    go_enter Tryz.func9, Tryz.ntmps9
    go_wp2_with fail
    refine HFi.out.mono ?_
    rintro e w1 ⟨rfl, hb1⟩
    go_wp2_with fail
    refine (works_c _).mono ?_
    rintro e wz ⟨rfl, hbz⟩
    go_wp2
    go_ret
    exact ⟨rfl, bup hB (bup hb1 hbz)⟩
  case pos =>
  have hlt0 : decide ((20 : Int) < (len : Int)) = false := by simp; omega
  by_cases hl' : len' ≤ 20
  case neg =>
    have hlt1 : decide ((20 : Int) < (len' : Int)) = true := by simp; omega
    obtain ⟨tc0, tc1, _, _, tz⟩ := ratrow2 HT.out
    go_enter Tryz.func9, Tryz.ntmps9
    go_wp2_with fail
    refine HFi.out.mono ?_
    rintro e w1 ⟨rfl, hb1⟩
    go_wp2_with fail
    refine (works_c _).mono ?_
    rintro e wz ⟨rfl, hbz⟩
    go_wp2
    go_ret
    exact ⟨rfl, bup hB (bup hb1 hbz)⟩
  case pos =>
  have hlt1 : decide ((20 : Int) < (len' : Int)) = false := by simp; omega
  have hbo := hfine.2
  have hmet := (both_ok hbo).1
  have hF := fine_of hmet
  have hn16 : 1 ≤ n ∧ n ≤ 6 := ⟨hF.1, hF.2.1⟩
  have hn12 : n ≤ 12 := by omega
  have hn : n ≤ 1048576 := by omega
  obtain ⟨A, hA⟩ : ∃ A, mixedF n len g = A := ⟨_, rfl⟩
  have hAb : ∀ i, 0 ≤ A i ∧ A i ≤ 65535 := by rw [← hA]; exact mixed_bd (by omega) hgb
  have hAp : 0 < sumF A n := by rw [← hA]; exact mixed_pos hn16.1 (by omega) hgb
  have hA6 : ∀ i, i < n → 0 ≤ A i ∧ A i ≤ 1000000 := fun i _ => by have := hAb i; omega
  have hAn : ∀ i, i < n → 0 ≤ A i := fun i _ => (hAb i).1
  obtain ⟨X, hX⟩ : ∃ X, knownM len' g' m = X := ⟨_, rfl⟩
  have hFX : Fine n X := by rw [← hX]; exact known_fine hF hgb'
  have hbX := known_bd hF hgb'
  rw [hX] at hbX
  have hboX : bothE n X l c = 0 := by
    unfold bothE
    rw [if_neg (by rw [fine_metals hFX]; simp)]
    unfold bothE at hbo
    rw [if_neg (by omega)] at hbo
    exact hbo
  have hpX : ∀ x : Nat → Int, priceF X x n = priceF m x n := fun x => sumC fun i hi => by rw [(hbX i hi).1]
  have i1 : ∀ x : Nat → Int, (∀ i, i < n → 0 ≤ x i) → goodB true n m l c x = true → goodB true n X l c x = true := fun x hx hg => good_mono hx (fun i hi => by
    have := hbX i hi
    simp only [bad, good, if_true]
    omega) hg
  have i2 : ∀ x : Nat → Int, (∀ i, i < n → 0 ≤ x i) → goodB true n X l c x = true → goodB false n m l c x = true := fun x hx hg => good_mono hx (fun i hi => by
    have := hbX i hi
    simp only [bad, good, if_true, Bool.false_eq_true, if_false]
    omega) hg
  have i3 : goodB false n X l c A = goodB true n X l c A := by
    unfold goodB leadF copperF
    have e1 : ∀ i, i < n → A i * bad false (X i) = A i * bad true (X i) := fun i hi => by simp only [bad, if_true, Bool.false_eq_true, if_false]; rw [(hbX i hi).2.1]
    have e2 : ∀ i, i < n → A i * good false (X i) = A i * good true (X i) := fun i hi => by simp only [good, if_true, Bool.false_eq_true, if_false]; rw [(hbX i hi).2.2.1]
    rw [sumC e1, sumC e2]
  have D1 := Lib.hid (deserves_of (s := true) hbo hA6 hAp)
  have D2 := Lib.hid (deserves_of (s := false) hbo hA6 hAp)
  have D3 := Lib.hid (deserves_of (s := true) hboX hA6 hAp)
  have D4 := deserves_of (s := false) hboX hA6 hAp
  rw [i3] at D4
  replace D4 := Lib.hid D4
  obtain ⟨d1, hd1⟩ : ∃ d, deservesE n m l c true n A = d := ⟨_, rfl⟩
  obtain ⟨d2, hd2⟩ : ∃ d, deservesE n m l c false n A = d := ⟨_, rfl⟩
  obtain ⟨d3, hd3⟩ : ∃ d, deservesE n X l c true n A = d := ⟨_, rfl⟩
  rw [hd1] at D1
  rw [hd2] at D2
  rw [hd3] at D3
  have E1 := Lib.hid hd1
  have E2 := Lib.hid hd2
  have E3 := Lib.hid hd3
  clear hd1 hd2 hd3
  have j1 := i1 A hAn
  have j2 := i2 A hAn
  have J1 := Lib.hid j1
  have J2 := Lib.hid j2
  have Hgb := Lib.hid hgb
  have Hgb' := Lib.hid hgb'
  have ca := least_cases hbo true
  have cb := least_cases hbo false
  have cc := least_cases hboX true
  have LC : ∃ (is1 is2 is3 : Bool) (x1 x2 y1 y2 z1 z2 : Int), leastR n m l c true = (x1, x2, if is1 then 0 else 17) ∧ leastR n m l c false = (y1, y2, if is2 then 0 else 17) ∧ leastR n X l c true = (z1, z2, if is3 then 0 else 17) ∧
      (if is1 then smallB x1 x2 = true else (x1, x2) = ((0 : Int), (0 : Int))) ∧ (if is2 then smallB y1 y2 = true else (y1, y2) = ((0 : Int), (0 : Int))) ∧ (if is3 then smallB z1 z2 = true else (z1, z2) = ((0 : Int), (0 : Int))) ∧
      (is1 = true → is3 = true ∧ ltB x1 x2 z1 z2 = false) ∧ (is3 = true → is2 = true ∧ ltB z1 z2 y1 y2 = false) := by
    rcases cb with ⟨b1, -, b3⟩ | ⟨fb, -, b2, b3⟩
    · have nc : ¬ ∃ f, Low n X l c true f := fun ⟨f, hf⟩ => by
        have := b3 f (fun i _ => (hf.mix.1 i).1) hf.mix.2.2
        rw [i2 f (fun i _ => (hf.mix.1 i).1) hf.good] at this
        cases this
      have na : ¬ ∃ f, Low n m l c true f := fun ⟨f, hf⟩ => by
        have := b3 f (fun i _ => (hf.mix.1 i).1) hf.mix.2.2
        rw [i2 f (fun i _ => (hf.mix.1 i).1) (i1 f (fun i _ => (hf.mix.1 i).1) hf.good)] at this
        cases this
      rcases cc with ⟨c1, -, c3⟩ | ⟨fc, -, c2, c3⟩
      · rcases ca with ⟨a1, -, a3⟩ | ⟨fa, -, a2, a3⟩
        · exact ⟨false, false, false, 0, 0, 0, 0, 0, 0, a1, b1, c1, rfl, rfl, rfl, fun h => (by cases h), fun h => (by cases h)⟩
        · exact absurd ⟨fa, a3⟩ na
      · exact absurd ⟨fc, c3⟩ nc
    · have sb := low_small hF b3
      rcases cc with ⟨c1, -, c3⟩ | ⟨fc, -, c2, c3⟩
      · have na : ¬ ∃ f, Low n m l c true f := fun ⟨f, hf⟩ => by
          have := c3 f (fun i _ => (hf.mix.1 i).1) hf.mix.2.2
          rw [i1 f (fun i _ => (hf.mix.1 i).1) hf.good] at this
          cases this
        rcases ca with ⟨a1, -, a3⟩ | ⟨fa, -, a2, a3⟩
        · exact ⟨false, true, false, 0, 0, _, _, 0, 0, a1, b2, c1, rfl, sb, rfl, fun h => (by cases h), fun h => (by cases h)⟩
        · exact absurd ⟨fa, a3⟩ na
      · have sc := low_small hFX c3
        have lcb := low_le (fun x => (hpX x).symm) c3 b3 (i2 fc (fun i _ => (c3.mix.1 i).1) c3.good)
        rcases ca with ⟨a1, -, a3⟩ | ⟨fa, -, a2, a3⟩
        · exact ⟨false, true, true, 0, 0, _, _, _, _, a1, b2, c2, rfl, sb, sc, fun h => (by cases h), fun _ => ⟨rfl, lcb⟩⟩
        · exact ⟨true, true, true, _, _, _, _, _, _, a2, b2, c2, low_small hF a3, sb, sc, fun _ => ⟨rfl, low_le hpX a3 c3 (i1 fa (fun i _ => (a3.mix.1 i).1) a3.good)⟩, fun _ => ⟨rfl, lcb⟩⟩
  obtain ⟨is1, is2, is3, x1, x2, y1, y2, z1, z2, L1, L2, L3, s1, s2, s3, k1, k2⟩ := LC
  clear ca cb cc hgb hgb' hAb hA6 hAp hAn i1 i2 i3 j1 j2 hpX hbX
  obtain ⟨tc0, tc1, _, _, tz⟩ := ratrow2 HT.out
  go_enter Tryz.func9, Tryz.ntmps9
  go_wp2_with fail
  refine HFi.out.mono ?_
  rintro e w1 ⟨rfl, hb1⟩
  clear tc0 tc1 tz hW hbt
  replace HM := Lib.hid (HM.out.below hb1)
  replace HT := Lib.hid (RowIs.below HT.out hb1)
  replace HG := Lib.hid (HG.out.below hb1)
  replace HG' := Lib.hid (HG'.out.below hb1)
  replace hB := bup hB hb1
  go_wp2_with fail
  clear hb1
  refine (mixed_c b n len cap2 g w1 HG.out hn16 hl Hgb.out).mono ?_
  rintro e w1 ⟨gHA, cHA, gHAl, gHAz, rfl, hHA0, hw2⟩
  replace HM := Lib.hid (HM.out.below hw2)
  replace HT := Lib.hid (RowIs.below HT.out hw2)
  replace HG := Lib.hid (HG.out.below hw2)
  replace HG' := Lib.hid (HG'.out.below hw2)
  replace hB := bup hB hw2
  rw [hA] at hHA0
  have HA := Lib.hid hHA0
  clear hHA0 gHAl gHAz
  go_wp2_with fail
  clear hw2
  refine (known_c a b' n cap len' cap2' m g' w1 HM.out hF HG'.out hl' Hgb'.out).mono ?_
  rintro e w3 ⟨gX, cX, gXl, gXz, rfl, hX0, hw4⟩
  replace HM := Lib.hid (HM.out.below hw4)
  replace HT := Lib.hid (RowIs.below HT.out hw4)
  replace HG := Lib.hid (HG.out.below hw4)
  replace HG' := Lib.hid (HG'.out.below hw4)
  replace HA := Lib.hid (HA.out.below hw4)
  replace hB := bup hB hw4
  rw [hX] at hX0
  have HX := Lib.hid hX0
  clear hX0 gXl gXz
  obtain ⟨tc0, tc1, _, _, tz⟩ := ratrow2 HT.out
  go_wp2_with fail
  clear hw4 tc0 tc1 tz
  have hA0 := fun (x : World) (hx : Below w3.heap.size w3 x) => Deserves_c a (some ⟨gHA, 0, none⟩) n cap n cHA m A l c true x (HM.out.below hx) (HA.out.below hx) hn hn
  simp only [E1.out] at hA0
  have A0 := Lib.hid hA0
  clear hA0
  have hA1 := fun (x : World) (hx : Below w3.heap.size w3 x) => Deserves_c a (some ⟨gHA, 0, none⟩) n cap n cHA m A l c false x (HM.out.below hx) (HA.out.below hx) hn hn
  simp only [E2.out] at hA1
  have A1 := Lib.hid hA1
  clear hA1
  have hA2 := fun (x : World) (hx : Below w3.heap.size w3 x) => Deserves_c (some ⟨gX, 0, none⟩) (some ⟨gHA, 0, none⟩) n cX n cHA X A l c true x (HX.out.below hx) (HA.out.below hx) hn hn
  simp only [E3.out] at hA2
  have A2 := Lib.hid hA2
  clear hA2
  obtain ⟨v50, v51, _, _, v5z⟩ := ratrow2 HT.out
  have hlc := fun (x : Later w3) => later_cell x
  refine wp_region_later (by kernel_rfl) (by kernel_rfl) ?_
  repeat (go_big_quiet_step ((first | (with_reducible refine calls_later (A0.out _ (Later.h _))) | (with_reducible refine calls_later (A1.out _ (Later.h _))) | (with_reducible refine calls_later (A2.out _ (Later.h _))))))
  refine wpQuiet_nil ?_
  clear hlc A0 A1 A2 v50 v51 v5z
  rintro ⟨w6, hw7⟩
  replace HM := Lib.hid (HM.out.below hw7)
  replace HT := Lib.hid (RowIs.below HT.out hw7)
  replace HG := Lib.hid (HG.out.below hw7)
  replace HG' := Lib.hid (HG'.out.below hw7)
  replace HA := Lib.hid (HA.out.below hw7)
  replace HX := Lib.hid (HX.out.below hw7)
  replace hB := bup hB hw7
  obtain ⟨tc0, tc1, _, _, tz⟩ := ratrow2 HT.out
  have C6 := Lib.hid (fun (x : World) (hx : Below w6.heap.size w6 x) => Deserves_c (some ⟨gX, 0, none⟩) (some ⟨gHA, 0, none⟩) n cX n cHA X A l c false x (HX.out.below hx) (HA.out.below hx) hn hn)
  simp only [Exit.then]
  apply_assumption
  refine wp_seq_k ?_
  intro K6 hK6
  go_cut [98] from 57 to 98 (fun e wx => e = .bool false ∧ Below w6.heap.size w6 wx)
  case first =>
    have D4' := D4.out
    cases g1 : goodB true n m l c A
    case true =>
      have g3 := J1.out g1
      have g2 := J2.out g3
      have u1a : (d1 != 0) = false := by rw [D1.out, g1]; rfl
      have u1b : (d1 == 0) = true := by rw [D1.out, g1]; rfl
      have u1c : (d1 != 17) = true := by rw [D1.out, g1]; rfl
      have u2a : (d2 != 0) = false := by rw [D2.out, g2]; rfl
      have u2b : (d2 == 0) = true := by rw [D2.out, g2]; rfl
      have u2c : (d2 != 17) = true := by rw [D2.out, g2]; rfl
      have u3a : (d3 != 0) = false := by rw [D3.out, g3]; rfl
      have u3b : (d3 == 0) = true := by rw [D3.out, g3]; rfl
      have u3c : (d3 != 17) = true := by rw [D3.out, g3]; rfl
      rw [g3] at D4'
      have u4 : (0 != d3) = false := by rw [D3.out, g3]; rfl
      have D4' : deservesE n X l c false n A = 0 := D4'
      go_wp2_with fail
      refine (C6.out _ (Below.refl _ _)).mono ?_
      rintro e wq ⟨rfl, hbq⟩
      rw [D4']
      go_wp2_with fail
      go_meet
      exact ⟨rfl, hbq⟩
    case false =>
      cases g3 : goodB true n X l c A
      case true =>
        have g2 := J2.out g3
        have u1a : (d1 != 0) = true := by rw [D1.out, g1]; rfl
        have u1b : (d1 == 0) = false := by rw [D1.out, g1]; rfl
        have u1c : (d1 != 17) = false := by rw [D1.out, g1]; rfl
        have u2a : (d2 != 0) = false := by rw [D2.out, g2]; rfl
        have u2b : (d2 == 0) = true := by rw [D2.out, g2]; rfl
        have u2c : (d2 != 17) = true := by rw [D2.out, g2]; rfl
        have u3a : (d3 != 0) = false := by rw [D3.out, g3]; rfl
        have u3b : (d3 == 0) = true := by rw [D3.out, g3]; rfl
        have u3c : (d3 != 17) = true := by rw [D3.out, g3]; rfl
        rw [g3] at D4'
        have u4 : (0 != d3) = false := by rw [D3.out, g3]; rfl
        have D4' : deservesE n X l c false n A = 0 := D4'
        go_wp2_with fail
        refine (C6.out _ (Below.refl _ _)).mono ?_
        rintro e wq ⟨rfl, hbq⟩
        rw [D4']
        go_wp2_with fail
        go_meet
        exact ⟨rfl, hbq⟩
      case false =>
        cases g2 : goodB false n m l c A
        case true =>
          have u1a : (d1 != 0) = true := by rw [D1.out, g1]; rfl
          have u1b : (d1 == 0) = false := by rw [D1.out, g1]; rfl
          have u1c : (d1 != 17) = false := by rw [D1.out, g1]; rfl
          have u2a : (d2 != 0) = false := by rw [D2.out, g2]; rfl
          have u2b : (d2 == 0) = true := by rw [D2.out, g2]; rfl
          have u2c : (d2 != 17) = true := by rw [D2.out, g2]; rfl
          have u3a : (d3 != 0) = true := by rw [D3.out, g3]; rfl
          have u3b : (d3 == 0) = false := by rw [D3.out, g3]; rfl
          have u3c : (d3 != 17) = false := by rw [D3.out, g3]; rfl
          rw [g3] at D4'
          have u4 : (17 != d3) = false := by rw [D3.out, g3]; rfl
          have D4' : deservesE n X l c false n A = 17 := D4'
          go_wp2_with fail
          refine (C6.out _ (Below.refl _ _)).mono ?_
          rintro e wq ⟨rfl, hbq⟩
          rw [D4']
          go_wp2_with fail
          go_meet
          exact ⟨rfl, hbq⟩
        case false =>
          have u1a : (d1 != 0) = true := by rw [D1.out, g1]; rfl
          have u1b : (d1 == 0) = false := by rw [D1.out, g1]; rfl
          have u1c : (d1 != 17) = false := by rw [D1.out, g1]; rfl
          have u2a : (d2 != 0) = true := by rw [D2.out, g2]; rfl
          have u2b : (d2 == 0) = false := by rw [D2.out, g2]; rfl
          have u2c : (d2 != 17) = false := by rw [D2.out, g2]; rfl
          have u3a : (d3 != 0) = true := by rw [D3.out, g3]; rfl
          have u3b : (d3 == 0) = false := by rw [D3.out, g3]; rfl
          have u3c : (d3 != 17) = false := by rw [D3.out, g3]; rfl
          rw [g3] at D4'
          have u4 : (17 != d3) = false := by rw [D3.out, g3]; rfl
          have D4' : deservesE n X l c false n A = 17 := D4'
          go_wp2_with fail
          refine (C6.out _ (Below.refl _ _)).mono ?_
          rintro e wq ⟨rfl, hbq⟩
          rw [D4']
          go_wp2_with fail
          go_meet
          exact ⟨rfl, hbq⟩
  case rest =>
  obtain ⟨rfl, hcb⟩ := hcut
  clear C6 tc0 tc1 tz
  obtain ⟨w8, hww⟩ : ∃ x, x = wc := ⟨_, rfl⟩
  subst hww
  replace HM := Lib.hid (HM.out.below hcb)
  replace HT := Lib.hid (RowIs.below HT.out hcb)
  replace HG := Lib.hid (HG.out.below hcb)
  replace HG' := Lib.hid (HG'.out.below hcb)
  replace HA := Lib.hid (HA.out.below hcb)
  replace HX := Lib.hid (HX.out.below hcb)
  replace hB := bup hB hcb
  cases is1 with
  | true =>
    obtain rfl : is3 = true := (k1 (by simp)).1
    obtain rfl : is2 = true := (k2 (by simp)).1
    have hC9 := lawLeast_c a n cap m l c true true (x1, x2) w8 HM.out hn12 L1 (by simpa using s1)
    try dsimp only [re2, re3, proofV, zeroP] at hC9
    have C9 := Lib.hid hC9
    clear hC9
    obtain ⟨tc0, tc1, _, _, tz⟩ := ratrow2 HT.out
    go_wp2_with fail
    clear hw7 hcb tc0 tc1 tz
    refine C9.out.mono ?_
    rintro e w10 ⟨rfl, hw11⟩
    clear C9
    replace HM := Lib.hid (HM.out.below hw11)
    replace HT := Lib.hid (RowIs.below HT.out hw11)
    replace HG := Lib.hid (HG.out.below hw11)
    replace HG' := Lib.hid (HG'.out.below hw11)
    replace HA := Lib.hid (HA.out.below hw11)
    replace HX := Lib.hid (HX.out.below hw11)
    replace hB := bup hB hw11
    try simp only [leastV]
    obtain ⟨Y12, hY12⟩ : ∃ Y12, w10.alloc (.cells #[.int .i64 x1, .int .i64 x2] 29) = Y12 := ⟨_, rfl⟩
    have hy13 : Below w10.heap.size w10 Y12 := by rw [← hY12]; exact Below.alloc1 (Below.refl _ _) _ (Nat.le_refl _)
    replace HM := Lib.hid (HM.out.below hy13)
    replace HT := Lib.hid (RowIs.below HT.out hy13)
    replace HG := Lib.hid (HG.out.below hy13)
    replace HG' := Lib.hid (HG'.out.below hy13)
    replace HA := Lib.hid (HA.out.below hy13)
    replace HX := Lib.hid (HX.out.below hy13)
    replace hB := bup hB hy13
    have RA := Lib.hid (show RowIs Y12 w10.heap.size #[.int .i64 x1, .int .i64 x2] 29 by rw [← hY12]; exact heap_new_at _ _ _ rfl)
    obtain ⟨bRA, hbRA⟩ : ∃ bRA, w10.heap.size = bRA := ⟨_, rfl⟩
    rw [hbRA] at RA
    have hC14 := lawLeast_c a n cap m l c false true (y1, y2) Y12 HM.out hn12 L2 (by simpa using s2)
    try dsimp only [re2, re3, proofV, zeroP] at hC14
    have C14 := Lib.hid hC14
    clear hC14
    obtain ⟨tc0, tc1, _, _, tz⟩ := ratrow2 HT.out
    go_wp2_with fail
    clear hw11 hbRA hY12 hy13 tc0 tc1 tz
    refine C14.out.mono ?_
    rintro e w15 ⟨rfl, hw16⟩
    clear C14
    replace HM := Lib.hid (HM.out.below hw16)
    replace HT := Lib.hid (RowIs.below HT.out hw16)
    replace HG := Lib.hid (HG.out.below hw16)
    replace HG' := Lib.hid (HG'.out.below hw16)
    replace HA := Lib.hid (HA.out.below hw16)
    replace HX := Lib.hid (HX.out.below hw16)
    replace RA := Lib.hid (RowIs.below RA.out hw16)
    replace hB := bup hB hw16
    try simp only [leastV]
    obtain ⟨Y17, hY17⟩ : ∃ Y17, w15.alloc (.cells #[.int .i64 y1, .int .i64 y2] 29) = Y17 := ⟨_, rfl⟩
    have hy18 : Below w15.heap.size w15 Y17 := by rw [← hY17]; exact Below.alloc1 (Below.refl _ _) _ (Nat.le_refl _)
    replace HM := Lib.hid (HM.out.below hy18)
    replace HT := Lib.hid (RowIs.below HT.out hy18)
    replace HG := Lib.hid (HG.out.below hy18)
    replace HG' := Lib.hid (HG'.out.below hy18)
    replace HA := Lib.hid (HA.out.below hy18)
    replace HX := Lib.hid (HX.out.below hy18)
    replace RA := Lib.hid (RowIs.below RA.out hy18)
    replace hB := bup hB hy18
    have RB := Lib.hid (show RowIs Y17 w15.heap.size #[.int .i64 y1, .int .i64 y2] 29 by rw [← hY17]; exact heap_new_at _ _ _ rfl)
    obtain ⟨bRB, hbRB⟩ : ∃ bRB, w15.heap.size = bRB := ⟨_, rfl⟩
    rw [hbRB] at RB
    have hC19 := lawLeast_c (some ⟨gX, 0, none⟩) n cX X l c true true (z1, z2) Y17 HX.out hn12 L3 (by simpa using s3)
    try dsimp only [re2, re3, proofV, zeroP] at hC19
    have C19 := Lib.hid hC19
    clear hC19
    obtain ⟨tc0, tc1, _, _, tz⟩ := ratrow2 HT.out
    go_wp2_with fail
    clear hw16 hbRB hY17 hy18 tc0 tc1 tz
    refine C19.out.mono ?_
    rintro e w20 ⟨rfl, hw21⟩
    clear C19
    replace HM := Lib.hid (HM.out.below hw21)
    replace HT := Lib.hid (RowIs.below HT.out hw21)
    replace HG := Lib.hid (HG.out.below hw21)
    replace HG' := Lib.hid (HG'.out.below hw21)
    replace HA := Lib.hid (HA.out.below hw21)
    replace HX := Lib.hid (HX.out.below hw21)
    replace RA := Lib.hid (RowIs.below RA.out hw21)
    replace RB := Lib.hid (RowIs.below RB.out hw21)
    replace hB := bup hB hw21
    try simp only [leastV]
    obtain ⟨Y22, hY22⟩ : ∃ Y22, w20.alloc (.cells #[.int .i64 z1, .int .i64 z2] 29) = Y22 := ⟨_, rfl⟩
    have hy23 : Below w20.heap.size w20 Y22 := by rw [← hY22]; exact Below.alloc1 (Below.refl _ _) _ (Nat.le_refl _)
    replace HM := Lib.hid (HM.out.below hy23)
    replace HT := Lib.hid (RowIs.below HT.out hy23)
    replace HG := Lib.hid (HG.out.below hy23)
    replace HG' := Lib.hid (HG'.out.below hy23)
    replace HA := Lib.hid (HA.out.below hy23)
    replace HX := Lib.hid (HX.out.below hy23)
    replace RA := Lib.hid (RowIs.below RA.out hy23)
    replace RB := Lib.hid (RowIs.below RB.out hy23)
    replace hB := bup hB hy23
    have RC := Lib.hid (show RowIs Y22 w20.heap.size #[.int .i64 z1, .int .i64 z2] 29 by rw [← hY22]; exact heap_new_at _ _ _ rfl)
    obtain ⟨bRC, hbRC⟩ : ∃ bRC, w20.heap.size = bRC := ⟨_, rfl⟩
    rw [hbRC] at RC
    have hC24 := less_small s1 s3 Y22
    rw [(k1 (by simp)).2] at hC24
    try dsimp only [re2, re3, proofV, zeroP] at hC24
    have C24 := Lib.hid hC24
    clear hC24
    obtain ⟨v250, v251, _, _, v25z⟩ := ratrow2 RA.out
    obtain ⟨v260, v261, _, _, v26z⟩ := ratrow2 RB.out
    obtain ⟨v270, v271, _, _, v27z⟩ := ratrow2 RC.out
    go_wp2_with fail
    clear hw21 hbRC hY22 hy23 v250 v251 v25z v260 v261 v26z v270 v271 v27z
    refine C24.out.mono ?_
    rintro e w28 ⟨rfl, hw29⟩
    clear C24
    replace HM := Lib.hid (HM.out.below hw29)
    replace HT := Lib.hid (RowIs.below HT.out hw29)
    replace HG := Lib.hid (HG.out.below hw29)
    replace HG' := Lib.hid (HG'.out.below hw29)
    replace HA := Lib.hid (HA.out.below hw29)
    replace HX := Lib.hid (HX.out.below hw29)
    replace RA := Lib.hid (RowIs.below RA.out hw29)
    replace RB := Lib.hid (RowIs.below RB.out hw29)
    replace RC := Lib.hid (RowIs.below RC.out hw29)
    replace hB := bup hB hw29
    have hC30 := less_small s3 s2 w28
    rw [(k2 (by simp)).2] at hC30
    try dsimp only [re2, re3, proofV, zeroP] at hC30
    have C30 := Lib.hid hC30
    clear hC30
    obtain ⟨v310, v311, _, _, v31z⟩ := ratrow2 RA.out
    obtain ⟨v320, v321, _, _, v32z⟩ := ratrow2 RB.out
    obtain ⟨v330, v331, _, _, v33z⟩ := ratrow2 RC.out
    go_wp2_with fail
    clear hw29 v310 v311 v31z v320 v321 v32z v330 v331 v33z
    refine C30.out.mono ?_
    rintro e w34 ⟨rfl, hw35⟩
    clear C30
    replace HM := Lib.hid (HM.out.below hw35)
    replace HT := Lib.hid (RowIs.below HT.out hw35)
    replace HG := Lib.hid (HG.out.below hw35)
    replace HG' := Lib.hid (HG'.out.below hw35)
    replace HA := Lib.hid (HA.out.below hw35)
    replace HX := Lib.hid (HX.out.below hw35)
    replace RA := Lib.hid (RowIs.below RA.out hw35)
    replace RB := Lib.hid (RowIs.below RB.out hw35)
    replace RC := Lib.hid (RowIs.below RC.out hw35)
    replace hB := bup hB hw35
    go_wp2_with fail
    refine (works_c _).mono ?_
    rintro e wz ⟨rfl, hbz⟩
    go_wp2
    go_ret
    exact ⟨rfl, bup hB hbz⟩
  | false =>
    cases is3 with
    | true =>
      obtain rfl : is2 = true := (k2 (by simp)).1
      obtain ⟨rfl, rfl⟩ : x1 = 0 ∧ x2 = 0 := by simpa using s1
      have hC36 := lawLeast_c a n cap m l c true false (0, 0) w8 HM.out hn12 L1 (by simp)
      try dsimp only [re2, re3, proofV, zeroP] at hC36
      have C36 := Lib.hid hC36
      clear hC36
      obtain ⟨tc0, tc1, _, _, tz⟩ := ratrow2 HT.out
      go_wp2_with fail
      clear hw7 hcb tc0 tc1 tz
      refine C36.out.mono ?_
      rintro e w37 ⟨rfl, hw38⟩
      clear C36
      replace HM := Lib.hid (HM.out.below hw38)
      replace HT := Lib.hid (RowIs.below HT.out hw38)
      replace HG := Lib.hid (HG.out.below hw38)
      replace HG' := Lib.hid (HG'.out.below hw38)
      replace HA := Lib.hid (HA.out.below hw38)
      replace HX := Lib.hid (HX.out.below hw38)
      replace hB := bup hB hw38
      try simp only [leastV]
      obtain ⟨Y39, hY39⟩ : ∃ Y39, w37.alloc (.cells #[.int .i64 0, .int .i64 0] 29) = Y39 := ⟨_, rfl⟩
      have hy40 : Below w37.heap.size w37 Y39 := by rw [← hY39]; exact Below.alloc1 (Below.refl _ _) _ (Nat.le_refl _)
      have zY39 : RowIs Y39 w37.heap.size #[.int .i64 0, .int .i64 0] 29 := by rw [← hY39]; exact heap_new_at _ _ _ rfl
      obtain ⟨yY390, yY391, yY392, yY393, yY394⟩ := ratrow2 zY39
      obtain ⟨Z41, hZ41⟩ : ∃ Z41, ((Y39.setCell ⟨w37.heap.size, 0, none⟩ (.int .i64 0)).setCell ⟨w37.heap.size, 1, none⟩ (.int .i64 0)) = Z41 := ⟨_, rfl⟩
      have hz42 : Below w37.heap.size w37 Z41 := hy40.trans (by rw [← hZ41]; exact (((Below.refl _ Y39).setCell (p := ⟨w37.heap.size, 0, none⟩) (Nat.le_refl _) _).setCell (p := ⟨w37.heap.size, 1, none⟩) (Nat.le_refl _) _))
      replace HM := Lib.hid (HM.out.below hz42)
      replace HT := Lib.hid (RowIs.below HT.out hz42)
      replace HG := Lib.hid (HG.out.below hz42)
      replace HG' := Lib.hid (HG'.out.below hz42)
      replace HA := Lib.hid (HA.out.below hz42)
      replace HX := Lib.hid (HX.out.below hz42)
      replace hB := bup hB hz42
      have RA := Lib.hid (show RowIs Z41 w37.heap.size #[.int .i64 0, .int .i64 0] 29 by rw [← hZ41]; exact put2_row zY39 0 0)
      have hC43 := lawLeast_c a n cap m l c false true (y1, y2) Z41 HM.out hn12 L2 (by simpa using s2)
      try dsimp only [re2, re3, proofV, zeroP] at hC43
      have C43 := Lib.hid hC43
      clear hC43
      obtain ⟨tc0, tc1, _, _, tz⟩ := ratrow2 HT.out
      go_wp2_with fail
      clear hw38 hY39 hy40 zY39 yY390 yY391 yY392 yY393 yY394 hZ41 hz42 tc0 tc1 tz
      refine C43.out.mono ?_
      rintro e w44 ⟨rfl, hw45⟩
      clear C43
      replace HM := Lib.hid (HM.out.below hw45)
      replace HT := Lib.hid (RowIs.below HT.out hw45)
      replace HG := Lib.hid (HG.out.below hw45)
      replace HG' := Lib.hid (HG'.out.below hw45)
      replace HA := Lib.hid (HA.out.below hw45)
      replace HX := Lib.hid (HX.out.below hw45)
      replace RA := Lib.hid (RowIs.below RA.out hw45)
      replace hB := bup hB hw45
      try simp only [leastV]
      obtain ⟨Y46, hY46⟩ : ∃ Y46, w44.alloc (.cells #[.int .i64 y1, .int .i64 y2] 29) = Y46 := ⟨_, rfl⟩
      have hy47 : Below w44.heap.size w44 Y46 := by rw [← hY46]; exact Below.alloc1 (Below.refl _ _) _ (Nat.le_refl _)
      replace HM := Lib.hid (HM.out.below hy47)
      replace HT := Lib.hid (RowIs.below HT.out hy47)
      replace HG := Lib.hid (HG.out.below hy47)
      replace HG' := Lib.hid (HG'.out.below hy47)
      replace HA := Lib.hid (HA.out.below hy47)
      replace HX := Lib.hid (HX.out.below hy47)
      replace RA := Lib.hid (RowIs.below RA.out hy47)
      replace hB := bup hB hy47
      have RB := Lib.hid (show RowIs Y46 w44.heap.size #[.int .i64 y1, .int .i64 y2] 29 by rw [← hY46]; exact heap_new_at _ _ _ rfl)
      obtain ⟨bRB, hbRB⟩ : ∃ bRB, w44.heap.size = bRB := ⟨_, rfl⟩
      rw [hbRB] at RB
      have hC48 := lawLeast_c (some ⟨gX, 0, none⟩) n cX X l c true true (z1, z2) Y46 HX.out hn12 L3 (by simpa using s3)
      try dsimp only [re2, re3, proofV, zeroP] at hC48
      have C48 := Lib.hid hC48
      clear hC48
      obtain ⟨tc0, tc1, _, _, tz⟩ := ratrow2 HT.out
      go_wp2_with fail
      clear hw45 hbRB hY46 hy47 tc0 tc1 tz
      refine C48.out.mono ?_
      rintro e w49 ⟨rfl, hw50⟩
      clear C48
      replace HM := Lib.hid (HM.out.below hw50)
      replace HT := Lib.hid (RowIs.below HT.out hw50)
      replace HG := Lib.hid (HG.out.below hw50)
      replace HG' := Lib.hid (HG'.out.below hw50)
      replace HA := Lib.hid (HA.out.below hw50)
      replace HX := Lib.hid (HX.out.below hw50)
      replace RA := Lib.hid (RowIs.below RA.out hw50)
      replace RB := Lib.hid (RowIs.below RB.out hw50)
      replace hB := bup hB hw50
      try simp only [leastV]
      obtain ⟨Y51, hY51⟩ : ∃ Y51, w49.alloc (.cells #[.int .i64 z1, .int .i64 z2] 29) = Y51 := ⟨_, rfl⟩
      have hy52 : Below w49.heap.size w49 Y51 := by rw [← hY51]; exact Below.alloc1 (Below.refl _ _) _ (Nat.le_refl _)
      replace HM := Lib.hid (HM.out.below hy52)
      replace HT := Lib.hid (RowIs.below HT.out hy52)
      replace HG := Lib.hid (HG.out.below hy52)
      replace HG' := Lib.hid (HG'.out.below hy52)
      replace HA := Lib.hid (HA.out.below hy52)
      replace HX := Lib.hid (HX.out.below hy52)
      replace RA := Lib.hid (RowIs.below RA.out hy52)
      replace RB := Lib.hid (RowIs.below RB.out hy52)
      replace hB := bup hB hy52
      have RC := Lib.hid (show RowIs Y51 w49.heap.size #[.int .i64 z1, .int .i64 z2] 29 by rw [← hY51]; exact heap_new_at _ _ _ rfl)
      obtain ⟨bRC, hbRC⟩ : ∃ bRC, w49.heap.size = bRC := ⟨_, rfl⟩
      rw [hbRC] at RC
      have hC53 := less_small s3 s2 Y51
      rw [(k2 (by simp)).2] at hC53
      try dsimp only [re2, re3, proofV, zeroP] at hC53
      have C53 := Lib.hid hC53
      clear hC53
      obtain ⟨v540, v541, _, _, v54z⟩ := ratrow2 RA.out
      obtain ⟨v550, v551, _, _, v55z⟩ := ratrow2 RB.out
      obtain ⟨v560, v561, _, _, v56z⟩ := ratrow2 RC.out
      go_wp2_with fail
      clear hw50 hbRC hY51 hy52 v540 v541 v54z v550 v551 v55z v560 v561 v56z
      refine C53.out.mono ?_
      rintro e w57 ⟨rfl, hw58⟩
      clear C53
      replace HM := Lib.hid (HM.out.below hw58)
      replace HT := Lib.hid (RowIs.below HT.out hw58)
      replace HG := Lib.hid (HG.out.below hw58)
      replace HG' := Lib.hid (HG'.out.below hw58)
      replace HA := Lib.hid (HA.out.below hw58)
      replace HX := Lib.hid (HX.out.below hw58)
      replace RA := Lib.hid (RowIs.below RA.out hw58)
      replace RB := Lib.hid (RowIs.below RB.out hw58)
      replace RC := Lib.hid (RowIs.below RC.out hw58)
      replace hB := bup hB hw58
      go_wp2_with fail
      refine (works_c _).mono ?_
      rintro e wz ⟨rfl, hbz⟩
      go_wp2
      go_ret
      exact ⟨rfl, bup hB hbz⟩
    | false =>
      obtain ⟨rfl, rfl⟩ : x1 = 0 ∧ x2 = 0 := by simpa using s1
      obtain ⟨rfl, rfl⟩ : z1 = 0 ∧ z2 = 0 := by simpa using s3
      cases is2 with
      | true =>
        have hC59 := lawLeast_c a n cap m l c true false (0, 0) w8 HM.out hn12 L1 (by simp)
        try dsimp only [re2, re3, proofV, zeroP] at hC59
        have C59 := Lib.hid hC59
        clear hC59
        obtain ⟨tc0, tc1, _, _, tz⟩ := ratrow2 HT.out
        go_wp2_with fail
        clear hw7 hcb tc0 tc1 tz
        refine C59.out.mono ?_
        rintro e w60 ⟨rfl, hw61⟩
        clear C59
        replace HM := Lib.hid (HM.out.below hw61)
        replace HT := Lib.hid (RowIs.below HT.out hw61)
        replace HG := Lib.hid (HG.out.below hw61)
        replace HG' := Lib.hid (HG'.out.below hw61)
        replace HA := Lib.hid (HA.out.below hw61)
        replace HX := Lib.hid (HX.out.below hw61)
        replace hB := bup hB hw61
        try simp only [leastV]
        obtain ⟨Y62, hY62⟩ : ∃ Y62, w60.alloc (.cells #[.int .i64 0, .int .i64 0] 29) = Y62 := ⟨_, rfl⟩
        have hy63 : Below w60.heap.size w60 Y62 := by rw [← hY62]; exact Below.alloc1 (Below.refl _ _) _ (Nat.le_refl _)
        have zY62 : RowIs Y62 w60.heap.size #[.int .i64 0, .int .i64 0] 29 := by rw [← hY62]; exact heap_new_at _ _ _ rfl
        obtain ⟨yY620, yY621, yY622, yY623, yY624⟩ := ratrow2 zY62
        obtain ⟨Z64, hZ64⟩ : ∃ Z64, ((Y62.setCell ⟨w60.heap.size, 0, none⟩ (.int .i64 0)).setCell ⟨w60.heap.size, 1, none⟩ (.int .i64 0)) = Z64 := ⟨_, rfl⟩
        have hz65 : Below w60.heap.size w60 Z64 := hy63.trans (by rw [← hZ64]; exact (((Below.refl _ Y62).setCell (p := ⟨w60.heap.size, 0, none⟩) (Nat.le_refl _) _).setCell (p := ⟨w60.heap.size, 1, none⟩) (Nat.le_refl _) _))
        replace HM := Lib.hid (HM.out.below hz65)
        replace HT := Lib.hid (RowIs.below HT.out hz65)
        replace HG := Lib.hid (HG.out.below hz65)
        replace HG' := Lib.hid (HG'.out.below hz65)
        replace HA := Lib.hid (HA.out.below hz65)
        replace HX := Lib.hid (HX.out.below hz65)
        replace hB := bup hB hz65
        have RA := Lib.hid (show RowIs Z64 w60.heap.size #[.int .i64 0, .int .i64 0] 29 by rw [← hZ64]; exact put2_row zY62 0 0)
        have hC66 := lawLeast_c a n cap m l c false true (y1, y2) Z64 HM.out hn12 L2 (by simpa using s2)
        try dsimp only [re2, re3, proofV, zeroP] at hC66
        have C66 := Lib.hid hC66
        clear hC66
        obtain ⟨tc0, tc1, _, _, tz⟩ := ratrow2 HT.out
        go_wp2_with fail
        clear hw61 hY62 hy63 zY62 yY620 yY621 yY622 yY623 yY624 hZ64 hz65 tc0 tc1 tz
        refine C66.out.mono ?_
        rintro e w67 ⟨rfl, hw68⟩
        clear C66
        replace HM := Lib.hid (HM.out.below hw68)
        replace HT := Lib.hid (RowIs.below HT.out hw68)
        replace HG := Lib.hid (HG.out.below hw68)
        replace HG' := Lib.hid (HG'.out.below hw68)
        replace HA := Lib.hid (HA.out.below hw68)
        replace HX := Lib.hid (HX.out.below hw68)
        replace RA := Lib.hid (RowIs.below RA.out hw68)
        replace hB := bup hB hw68
        try simp only [leastV]
        obtain ⟨Y69, hY69⟩ : ∃ Y69, w67.alloc (.cells #[.int .i64 y1, .int .i64 y2] 29) = Y69 := ⟨_, rfl⟩
        have hy70 : Below w67.heap.size w67 Y69 := by rw [← hY69]; exact Below.alloc1 (Below.refl _ _) _ (Nat.le_refl _)
        replace HM := Lib.hid (HM.out.below hy70)
        replace HT := Lib.hid (RowIs.below HT.out hy70)
        replace HG := Lib.hid (HG.out.below hy70)
        replace HG' := Lib.hid (HG'.out.below hy70)
        replace HA := Lib.hid (HA.out.below hy70)
        replace HX := Lib.hid (HX.out.below hy70)
        replace RA := Lib.hid (RowIs.below RA.out hy70)
        replace hB := bup hB hy70
        have RB := Lib.hid (show RowIs Y69 w67.heap.size #[.int .i64 y1, .int .i64 y2] 29 by rw [← hY69]; exact heap_new_at _ _ _ rfl)
        obtain ⟨bRB, hbRB⟩ : ∃ bRB, w67.heap.size = bRB := ⟨_, rfl⟩
        rw [hbRB] at RB
        have hC71 := lawLeast_c (some ⟨gX, 0, none⟩) n cX X l c true false (0, 0) Y69 HX.out hn12 L3 (by simp)
        try dsimp only [re2, re3, proofV, zeroP] at hC71
        have C71 := Lib.hid hC71
        clear hC71
        obtain ⟨tc0, tc1, _, _, tz⟩ := ratrow2 HT.out
        go_wp2_with fail
        clear hw68 hbRB hY69 hy70 tc0 tc1 tz
        refine C71.out.mono ?_
        rintro e w72 ⟨rfl, hw73⟩
        clear C71
        replace HM := Lib.hid (HM.out.below hw73)
        replace HT := Lib.hid (RowIs.below HT.out hw73)
        replace HG := Lib.hid (HG.out.below hw73)
        replace HG' := Lib.hid (HG'.out.below hw73)
        replace HA := Lib.hid (HA.out.below hw73)
        replace HX := Lib.hid (HX.out.below hw73)
        replace RA := Lib.hid (RowIs.below RA.out hw73)
        replace RB := Lib.hid (RowIs.below RB.out hw73)
        replace hB := bup hB hw73
        try simp only [leastV]
        obtain ⟨Y74, hY74⟩ : ∃ Y74, w72.alloc (.cells #[.int .i64 0, .int .i64 0] 29) = Y74 := ⟨_, rfl⟩
        have hy75 : Below w72.heap.size w72 Y74 := by rw [← hY74]; exact Below.alloc1 (Below.refl _ _) _ (Nat.le_refl _)
        have zY74 : RowIs Y74 w72.heap.size #[.int .i64 0, .int .i64 0] 29 := by rw [← hY74]; exact heap_new_at _ _ _ rfl
        obtain ⟨yY740, yY741, yY742, yY743, yY744⟩ := ratrow2 zY74
        obtain ⟨Z76, hZ76⟩ : ∃ Z76, ((Y74.setCell ⟨w72.heap.size, 0, none⟩ (.int .i64 0)).setCell ⟨w72.heap.size, 1, none⟩ (.int .i64 0)) = Z76 := ⟨_, rfl⟩
        have hz77 : Below w72.heap.size w72 Z76 := hy75.trans (by rw [← hZ76]; exact (((Below.refl _ Y74).setCell (p := ⟨w72.heap.size, 0, none⟩) (Nat.le_refl _) _).setCell (p := ⟨w72.heap.size, 1, none⟩) (Nat.le_refl _) _))
        replace HM := Lib.hid (HM.out.below hz77)
        replace HT := Lib.hid (RowIs.below HT.out hz77)
        replace HG := Lib.hid (HG.out.below hz77)
        replace HG' := Lib.hid (HG'.out.below hz77)
        replace HA := Lib.hid (HA.out.below hz77)
        replace HX := Lib.hid (HX.out.below hz77)
        replace RA := Lib.hid (RowIs.below RA.out hz77)
        replace RB := Lib.hid (RowIs.below RB.out hz77)
        replace hB := bup hB hz77
        have RC := Lib.hid (show RowIs Z76 w72.heap.size #[.int .i64 0, .int .i64 0] 29 by rw [← hZ76]; exact put2_row zY74 0 0)
        go_wp2_with fail
        refine (works_c _).mono ?_
        rintro e wz ⟨rfl, hbz⟩
        go_wp2
        go_ret
        exact ⟨rfl, bup hB hbz⟩
      | false =>
        obtain ⟨rfl, rfl⟩ : y1 = 0 ∧ y2 = 0 := by simpa using s2
        have hC78 := lawLeast_c a n cap m l c true false (0, 0) w8 HM.out hn12 L1 (by simp)
        try dsimp only [re2, re3, proofV, zeroP] at hC78
        have C78 := Lib.hid hC78
        clear hC78
        obtain ⟨tc0, tc1, _, _, tz⟩ := ratrow2 HT.out
        go_wp2_with fail
        clear hw7 hcb tc0 tc1 tz
        refine C78.out.mono ?_
        rintro e w79 ⟨rfl, hw80⟩
        clear C78
        replace HM := Lib.hid (HM.out.below hw80)
        replace HT := Lib.hid (RowIs.below HT.out hw80)
        replace HG := Lib.hid (HG.out.below hw80)
        replace HG' := Lib.hid (HG'.out.below hw80)
        replace HA := Lib.hid (HA.out.below hw80)
        replace HX := Lib.hid (HX.out.below hw80)
        replace hB := bup hB hw80
        try simp only [leastV]
        obtain ⟨Y81, hY81⟩ : ∃ Y81, w79.alloc (.cells #[.int .i64 0, .int .i64 0] 29) = Y81 := ⟨_, rfl⟩
        have hy82 : Below w79.heap.size w79 Y81 := by rw [← hY81]; exact Below.alloc1 (Below.refl _ _) _ (Nat.le_refl _)
        have zY81 : RowIs Y81 w79.heap.size #[.int .i64 0, .int .i64 0] 29 := by rw [← hY81]; exact heap_new_at _ _ _ rfl
        obtain ⟨yY810, yY811, yY812, yY813, yY814⟩ := ratrow2 zY81
        obtain ⟨Z83, hZ83⟩ : ∃ Z83, ((Y81.setCell ⟨w79.heap.size, 0, none⟩ (.int .i64 0)).setCell ⟨w79.heap.size, 1, none⟩ (.int .i64 0)) = Z83 := ⟨_, rfl⟩
        have hz84 : Below w79.heap.size w79 Z83 := hy82.trans (by rw [← hZ83]; exact (((Below.refl _ Y81).setCell (p := ⟨w79.heap.size, 0, none⟩) (Nat.le_refl _) _).setCell (p := ⟨w79.heap.size, 1, none⟩) (Nat.le_refl _) _))
        replace HM := Lib.hid (HM.out.below hz84)
        replace HT := Lib.hid (RowIs.below HT.out hz84)
        replace HG := Lib.hid (HG.out.below hz84)
        replace HG' := Lib.hid (HG'.out.below hz84)
        replace HA := Lib.hid (HA.out.below hz84)
        replace HX := Lib.hid (HX.out.below hz84)
        replace hB := bup hB hz84
        have RA := Lib.hid (show RowIs Z83 w79.heap.size #[.int .i64 0, .int .i64 0] 29 by rw [← hZ83]; exact put2_row zY81 0 0)
        have hC85 := lawLeast_c a n cap m l c false false (0, 0) Z83 HM.out hn12 L2 (by simp)
        try dsimp only [re2, re3, proofV, zeroP] at hC85
        have C85 := Lib.hid hC85
        clear hC85
        obtain ⟨tc0, tc1, _, _, tz⟩ := ratrow2 HT.out
        go_wp2_with fail
        clear hw80 hY81 hy82 zY81 yY810 yY811 yY812 yY813 yY814 hZ83 hz84 tc0 tc1 tz
        refine C85.out.mono ?_
        rintro e w86 ⟨rfl, hw87⟩
        clear C85
        replace HM := Lib.hid (HM.out.below hw87)
        replace HT := Lib.hid (RowIs.below HT.out hw87)
        replace HG := Lib.hid (HG.out.below hw87)
        replace HG' := Lib.hid (HG'.out.below hw87)
        replace HA := Lib.hid (HA.out.below hw87)
        replace HX := Lib.hid (HX.out.below hw87)
        replace RA := Lib.hid (RowIs.below RA.out hw87)
        replace hB := bup hB hw87
        try simp only [leastV]
        obtain ⟨Y88, hY88⟩ : ∃ Y88, w86.alloc (.cells #[.int .i64 0, .int .i64 0] 29) = Y88 := ⟨_, rfl⟩
        have hy89 : Below w86.heap.size w86 Y88 := by rw [← hY88]; exact Below.alloc1 (Below.refl _ _) _ (Nat.le_refl _)
        have zY88 : RowIs Y88 w86.heap.size #[.int .i64 0, .int .i64 0] 29 := by rw [← hY88]; exact heap_new_at _ _ _ rfl
        obtain ⟨yY880, yY881, yY882, yY883, yY884⟩ := ratrow2 zY88
        obtain ⟨Z90, hZ90⟩ : ∃ Z90, ((Y88.setCell ⟨w86.heap.size, 0, none⟩ (.int .i64 0)).setCell ⟨w86.heap.size, 1, none⟩ (.int .i64 0)) = Z90 := ⟨_, rfl⟩
        have hz91 : Below w86.heap.size w86 Z90 := hy89.trans (by rw [← hZ90]; exact (((Below.refl _ Y88).setCell (p := ⟨w86.heap.size, 0, none⟩) (Nat.le_refl _) _).setCell (p := ⟨w86.heap.size, 1, none⟩) (Nat.le_refl _) _))
        replace HM := Lib.hid (HM.out.below hz91)
        replace HT := Lib.hid (RowIs.below HT.out hz91)
        replace HG := Lib.hid (HG.out.below hz91)
        replace HG' := Lib.hid (HG'.out.below hz91)
        replace HA := Lib.hid (HA.out.below hz91)
        replace HX := Lib.hid (HX.out.below hz91)
        replace RA := Lib.hid (RowIs.below RA.out hz91)
        replace hB := bup hB hz91
        have RB := Lib.hid (show RowIs Z90 w86.heap.size #[.int .i64 0, .int .i64 0] 29 by rw [← hZ90]; exact put2_row zY88 0 0)
        have hC92 := lawLeast_c (some ⟨gX, 0, none⟩) n cX X l c true false (0, 0) Z90 HX.out hn12 L3 (by simp)
        try dsimp only [re2, re3, proofV, zeroP] at hC92
        have C92 := Lib.hid hC92
        clear hC92
        obtain ⟨tc0, tc1, _, _, tz⟩ := ratrow2 HT.out
        go_wp2_with fail
        clear hw87 hY88 hy89 zY88 yY880 yY881 yY882 yY883 yY884 hZ90 hz91 tc0 tc1 tz
        refine C92.out.mono ?_
        rintro e w93 ⟨rfl, hw94⟩
        clear C92
        replace HM := Lib.hid (HM.out.below hw94)
        replace HT := Lib.hid (RowIs.below HT.out hw94)
        replace HG := Lib.hid (HG.out.below hw94)
        replace HG' := Lib.hid (HG'.out.below hw94)
        replace HA := Lib.hid (HA.out.below hw94)
        replace HX := Lib.hid (HX.out.below hw94)
        replace RA := Lib.hid (RowIs.below RA.out hw94)
        replace RB := Lib.hid (RowIs.below RB.out hw94)
        replace hB := bup hB hw94
        try simp only [leastV]
        obtain ⟨Y95, hY95⟩ : ∃ Y95, w93.alloc (.cells #[.int .i64 0, .int .i64 0] 29) = Y95 := ⟨_, rfl⟩
        have hy96 : Below w93.heap.size w93 Y95 := by rw [← hY95]; exact Below.alloc1 (Below.refl _ _) _ (Nat.le_refl _)
        have zY95 : RowIs Y95 w93.heap.size #[.int .i64 0, .int .i64 0] 29 := by rw [← hY95]; exact heap_new_at _ _ _ rfl
        obtain ⟨yY950, yY951, yY952, yY953, yY954⟩ := ratrow2 zY95
        obtain ⟨Z97, hZ97⟩ : ∃ Z97, ((Y95.setCell ⟨w93.heap.size, 0, none⟩ (.int .i64 0)).setCell ⟨w93.heap.size, 1, none⟩ (.int .i64 0)) = Z97 := ⟨_, rfl⟩
        have hz98 : Below w93.heap.size w93 Z97 := hy96.trans (by rw [← hZ97]; exact (((Below.refl _ Y95).setCell (p := ⟨w93.heap.size, 0, none⟩) (Nat.le_refl _) _).setCell (p := ⟨w93.heap.size, 1, none⟩) (Nat.le_refl _) _))
        replace HM := Lib.hid (HM.out.below hz98)
        replace HT := Lib.hid (RowIs.below HT.out hz98)
        replace HG := Lib.hid (HG.out.below hz98)
        replace HG' := Lib.hid (HG'.out.below hz98)
        replace HA := Lib.hid (HA.out.below hz98)
        replace HX := Lib.hid (HX.out.below hz98)
        replace RA := Lib.hid (RowIs.below RA.out hz98)
        replace RB := Lib.hid (RowIs.below RB.out hz98)
        replace hB := bup hB hz98
        have RC := Lib.hid (show RowIs Z97 w93.heap.size #[.int .i64 0, .int .i64 0] 29 by rw [← hZ97]; exact put2_row zY95 0 0)
        go_wp2_with fail
        refine (works_c _).mono ?_
        rintro e wz ⟨rfl, hbz⟩
        go_wp2
        go_ret
        exact ⟨rfl, bup hB hbz⟩

end Go.Proofs.YtehafggcncbnkaaGreat

namespace Go.Proofs.YtehafggcncbnkaaGreat
open Go Go.RowKit

def snocM (n : Nat) (m : Nat → M5) (k : M5) (j : Nat) : M5 := if j < n then m j else k
def snoc0 (n : Nat) (f : Nat → Int) (j : Nat) : Int := if j < n then f j else 0

theorem snocM_lt {n : Nat} {m : Nat → M5} {k : M5} {j : Nat} (h : j < n) : snocM n m k j = m j := if_pos h
theorem snocM_at (n : Nat) (m : Nat → M5) (k : M5) : snocM n m k n = k := if_neg (Nat.lt_irrefl n)
/-- A sum over one more metal. -/
theorem snoc_sum (n : Nat) (m : Nat → M5) (k : M5) (x : Nat → Int) (h : M5 → Int) : sumF (fun j => x j * h (snocM n m k j)) (n + 1) = sumF (fun j => x j * h (m j)) n + x n * h k := by
  show sumF _ n + x n * h (snocM n m k n) = _
  rw [snocM_at, sumC fun j hj => by rw [snocM_lt hj]]

theorem snoc_good {n : Nat} {m : Nat → M5} {k : M5} {l c : Int} {s : Bool} {x : Nat → Int} :
    goodB s (n + 1) (snocM n m k) l c x = decide (leadF s m x n + x n * bad s k ≤ l * (sumF x n + x n) ∧ c * (sumF x n + x n) ≤ copperF s m x n + x n * good s k) := by
  unfold goodB leadF copperF
  rw [snoc_sum n m k x (fun q => bad s q), snoc_sum n m k x (fun q => good s q)]
  rfl
theorem snoc_price (n : Nat) (m : Nat → M5) (k : M5) (x : Nat → Int) : priceF (snocM n m k) x (n + 1) = priceF m x n + x n * k.p := snoc_sum n m k x (fun q => q.p)

theorem snoc0_sum (n : Nat) (f h : Nat → Int) : sumF (fun j => snoc0 n f j * h j) n = sumF (fun j => f j * h j) n := sumC fun j hj => by unfold snoc0; rw [if_pos hj]
theorem snoc0_at (n : Nat) (f : Nat → Int) : snoc0 n f n = 0 := if_neg (Nat.lt_irrefl n)
theorem snoc0_all (n : Nat) (f : Nat → Int) : sumF (snoc0 n f) n = sumF f n := sumC fun j hj => by unfold snoc0; rw [if_pos hj]

/-- Without the metal more a mixture is what it was. -/
theorem embed_good {n : Nat} {m : Nat → M5} {k : M5} {l c : Int} {s : Bool} {f : Nat → Int} : goodB s (n + 1) (snocM n m k) l c (snoc0 n f) = goodB s n m l c f := by
  rw [snoc_good, snoc0_at, snoc0_all]
  unfold goodB leadF copperF
  rw [snoc0_sum, snoc0_sum]
  simp
theorem embed_price {n : Nat} {m : Nat → M5} {k : M5} {f : Nat → Int} : priceF (snocM n m k) (snoc0 n f) (n + 1) = priceF m f n := by
  rw [snoc_price, snoc0_at]
  unfold priceF
  rw [snoc0_sum]
  omega
theorem embed_sum {n : Nat} {f : Nat → Int} : sumF (snoc0 n f) (n + 1) = sumF f n := by
  show sumF (snoc0 n f) n + snoc0 n f n = _
  rw [snoc0_at, snoc0_all]
  omega
theorem embed_nn {n : Nat} {f : Nat → Int} (h : ∀ i, i < n → 0 ≤ f i) (i : Nat) : 0 ≤ snoc0 n f i := by
  unfold snoc0
  split
  · exact h i ‹_›
  · exact Int.le_refl _

/-- With one more metal the least cost is no more. -/
theorem more_le {n : Nat} {m : Nat → M5} {k : M5} {l c : Int} {s : Bool} {f f' : Nat → Int} (h : Low n m l c s f) (h' : Low (n + 1) (snocM n m k) l c s f') :
    ltB (costOf n m f).1 (costOf n m f).2 (costOf (n + 1) (snocM n m k) f').1 (costOf (n + 1) (snocM n m k) f').2 = false := by
  have := h'.low (snoc0 n f) (fun i _ => embed_nn (fun i _ => (h.mix.1 i).1) i) (by rw [embed_good]; exact h.good)
  rw [embed_price, embed_sum] at this
  show ltB (ratN _ _) (ratD _ _) (ratN _ _) (ratD _ _) = false
  rw [ltB_rat h.mix.2.2 h'.mix.2.2]
  exact decide_eq_false (by omega)
theorem more_not {n : Nat} {m : Nat → M5} {k : M5} {l c : Int} {s : Bool} {f : Nat → Int} (h : Low n m l c s f) : ¬ Nil (n + 1) (snocM n m k) l c s := fun hn => by
  have := hn (snoc0 n f) (fun i _ => embed_nn (fun i _ => (h.mix.1 i).1) i) (by rw [embed_sum]; exact h.mix.2.2)
  rw [embed_good, h.good] at this
  cases this

/-- What is of the metal more is taken of another one. -/
def fold (n i : Nat) (x : Nat → Int) (j : Nat) : Int := x j + (if j = i then x n else 0)
theorem fold_sum {n i : Nat} (hi : i < n) (x h : Nat → Int) : sumF (fun j => fold n i x j * h j) n = sumF (fun j => x j * h j) n + x n * h i := by
  have e : sumF (fun j => fold n i x j * h j) n = sumF (fun j => x j * h j + (if j = i then x n * h i else 0)) n := sumC fun j _ => by
    unfold fold
    by_cases e : j = i
    · rw [if_pos e, if_pos e, e]; grind
    · rw [if_neg e, if_neg e]; grind
  rw [e, sumF_add, sumF_one hi fun j _ hne => if_neg hne, if_pos rfl]
theorem fold_all {n i : Nat} (hi : i < n) (x : Nat → Int) : sumF (fold n i x) n = sumF x n + x n := by
  have := fold_sum hi x (fun _ => 1)
  simpa using this
/-- One metal is no better than another one. -/
def Worse (s : Bool) (a k : M5) : Prop := a.p ≤ k.p ∧ bad s a ≤ bad s k ∧ good s k ≤ good s a
theorem fold_good {n i : Nat} {m : Nat → M5} {k : M5} {l c : Int} {s : Bool} {x : Nat → Int} (hi : i < n) (hw : Worse s (m i) k) (hx : 0 ≤ x n) (hg : goodB s (n + 1) (snocM n m k) l c x = true) :
    goodB s n m l c (fold n i x) = true ∧ priceF m (fold n i x) n ≤ priceF (snocM n m k) x (n + 1) := by
  rw [snoc_good] at hg
  obtain ⟨g1, g2⟩ := of_decide_eq_true hg
  have a1 := Int.mul_le_mul_of_nonneg_left hw.1 hx
  have a2 := Int.mul_le_mul_of_nonneg_left hw.2.1 hx
  have a3 := Int.mul_le_mul_of_nonneg_left hw.2.2 hx
  refine ⟨decide_eq_true ?_, ?_⟩
  · unfold leadF copperF at *
    rw [fold_sum hi x (fun j => bad s (m j)), fold_sum hi x (fun j => good s (m j)), fold_all hi]
    omega
  · rw [snoc_price]
    unfold priceF
    rw [fold_sum hi x (fun j => (m j).p)]
    omega

/-- A metal more that is no better than another one changes nothing. -/
theorem worse_same {n i : Nat} {m : Nat → M5} {k : M5} {l c : Int} {s : Bool} (hi : i < n) (hw : Worse s (m i) k) {f f' : Nat → Int} (h : Low n m l c s f) (h' : Low (n + 1) (snocM n m k) l c s f') :
    costOf n m f = costOf (n + 1) (snocM n m k) f' := by
  have h1 := h'.low (snoc0 n f) (fun i _ => embed_nn (fun i _ => (h.mix.1 i).1) i) (by rw [embed_good]; exact h.good)
  rw [embed_price, embed_sum] at h1
  obtain ⟨g1, g2⟩ := fold_good hi hw (h'.mix.1 n).1 h'.good
  have h2 := h.low (fold n i f') (fun j _ => by
    have e1 := (h'.mix.1 j).1
    have e2 := (h'.mix.1 n).1
    unfold fold
    split <;> omega) g1
  have e : sumF (fold n i f') n = sumF f' (n + 1) := fold_all hi f'
  rw [e] at h2
  have h3 := Int.mul_le_mul_of_nonneg_right g2 (Int.le_of_lt h.mix.2.2)
  obtain ⟨r1, r2⟩ := rat_same (n := priceF m f n) (d := sumF f n) (n' := priceF (snocM n m k) f' (n + 1)) (d' := sumF f' (n + 1)) h.mix.2.2 h'.mix.2.2 (by omega)
  show (ratN _ _, ratD _ _) = (ratN _ _, ratD _ _)
  rw [r1, r2]
theorem worse_nil {n i : Nat} {m : Nat → M5} {k : M5} {l c : Int} {s : Bool} (hi : i < n) (hw : Worse s (m i) k) (h : Nil n m l c s) : Nil (n + 1) (snocM n m k) l c s := fun x hx hp => by
  cases hg : goodB s (n + 1) (snocM n m k) l c x with
  | false => rfl
  | true =>
    obtain ⟨g1, _⟩ := fold_good hi hw (hx n (by omega)) hg
    have := h (fold n i x) (fun j hj => by
      have e1 := hx j (by omega)
      have e2 := hx n (by omega)
      unfold fold
      split <;> omega) (by rw [fold_all hi]; exact hp)
    rw [g1] at this
    cases this

theorem snoc_fine {n : Nat} {m : Nat → M5} {k : M5} (hF : Fine n m) (hn : n < 6) (hk : 0 ≤ k.p ∧ k.p ≤ 1000 ∧ 0 ≤ k.l0 ∧ k.l0 ≤ k.l1 ∧ k.l1 ≤ 1000 ∧ 0 ≤ k.c0 ∧ k.c0 ≤ k.c1 ∧ k.c1 ≤ 1000) : Fine (n + 1) (snocM n m k) :=
  ⟨by omega, by omega, fun j hj => by
    by_cases e : j < n
    · rw [snocM_lt e]; exact hF.2.2 j e
    · obtain rfl : j = n := by omega
      rw [snocM_at]; exact hk⟩

end Go.Proofs.YtehafggcncbnkaaGreat

namespace Go.Proofs.YtehafggcncbnkaaGreat
open Go Go.RowKit

def mCells (m : Nat → M5) (n : Nat) : List Value := catF (fun i => (m i).cells) n
theorem mCells_len (m : Nat → M5) (n : Nat) : (mCells m n).length = n * 5 := catF_length _ 5 (fun _ => rfl) n
theorem mCells_at {w : World} {b off n : Nat} {m : Nat → M5} (hm : Metals w (some ⟨b, off, none⟩) n m) (j : Nat) (v : Value) (h : (mCells m n)[j]? = some v) : w.cell? ((⟨b, off, none⟩ : Addr).add j) = some v := by
  have hj : j < n * 5 := by
    have := (List.getElem?_eq_some_iff.1 h).1
    rwa [mCells_len] at this
  have hi : j / 5 < n := by omega
  have hmm : j % 5 < 5 := Nat.mod_lt _ (by decide)
  have hc := catF_get (fun i => (m i).cells) 5 (fun _ => rfl) (j / 5) (j % 5) hmm n hi
  rw [show j / 5 * 5 + j % 5 = j by omega] at hc
  have hv : ((m (j / 5)).cells)[j % 5]? = some v := by rw [← hc]; exact h
  obtain ⟨b', off', e, hb, c0, c1, c2, c3, c4⟩ := Metals.at hm (j / 5) hi
  cases e
  rw [Addr.add_lit]
  have hcase : j % 5 = 0 ∨ j % 5 = 1 ∨ j % 5 = 2 ∨ j % 5 = 3 ∨ j % 5 = 4 := by omega
  rcases hcase with e | e | e | e | e
  · rw [e] at hv; rw [show off + j = off + j / 5 * 5 by omega, c0]; exact hv
  · rw [e] at hv; rw [show off + j = off + j / 5 * 5 + 1 by omega, c1]; exact hv
  · rw [e] at hv; rw [show off + j = off + j / 5 * 5 + 2 by omega, c2]; exact hv
  · rw [e] at hv; rw [show off + j = off + j / 5 * 5 + 3 by omega, c3]; exact hv
  · rw [e] at hv; rw [show off + j = off + j / 5 * 5 + 4 by omega, c4]; exact hv
theorem mCells_one (m : Nat → M5) (n : Nat) : ∀ u ∈ mCells m n, u.oneCell' = true := fun u hu => by
  obtain ⟨i, _, hx⟩ := mem_catF n hu
  simp [M5.cells] at hx
  rcases hx with rfl | rfl | rfl | rfl | rfl <;> rfl
theorem snoc_of_own {w : World} {base : Nat} {e : TypeId} {g n cap : Nat} {m : Nat → M5} {k : M5} (h : w.ownsRow base e 5 (.slice (some ⟨g, 0, none⟩) (n + 1) cap) (n + 1) (mCells m n ++ k.cells)) :
    Metals w (some ⟨g, 0, none⟩) (n + 1) (snocM n m k) ∧ base ≤ g ∧ g < w.heap.size := by
  have e1 : catF (fun i => (snocM n m k i).cells) (n + 1) = mCells m n ++ k.cells := by
    show catF _ n ++ (snocM n m k n).cells = _
    rw [snocM_at]
    unfold mCells
    rw [catF_congr n fun i hi => by rw [snocM_lt hi]]
  rw [← e1] at h
  exact metals_of_own h

end Go.Proofs.YtehafggcncbnkaaGreat
