/- The law AlloyMore answers true. Written by tools/lawmore.py. -/
import Derived.WalkKit
import Derived.Deep.QuietTactic
import Derived.BigQuiet
import Derived.Deep.DeepCutAuto
import Derived.Deep.CutRange
import Derived.Test.YtehafggcncbnkaaGreatProg
import Derived.Test.YtehafggcncbnkaaGreatBasaa
import Derived.Test.YtehafggcncbnkaaGreatBasas
import Derived.Test.YtehafggcncbnkaaGreatMoraa
import Derived.Test.YtehafggcncbnkaaGreatMorab
import Derived.Test.YtehafggcncbnkaaGreatMorac
import Derived.Test.YtehafggcncbnkaaGreatMorad
import Derived.Test.YtehafggcncbnkaaGreatBasau
import Derived.Test.YtehafggcncbnkaaGreatBasaq
import Derived.Test.YtehafggcncbnkaaGreatBasar
import Derived.Test.YtehafggcncbnkaaGreatBasat
import Derived.Test.YtehafggcncbnkaaGreatBasav
namespace Go.Proofs.YtehafggcncbnkaaGreat
open Go Go.RowKit

theorem row5 {w : World} {b : Nat} {x0 x1 x2 x3 x4 : Value} {T : TypeId} (h : RowIs w b #[x0, x1, x2, x3, x4] T) :
    (w.cell? ⟨b, 0, none⟩ = some x0 ∧ w.cell? ⟨b, 1, none⟩ = some x1 ∧ w.cell? ⟨b, 2, none⟩ = some x2 ∧ w.cell? ⟨b, 3, none⟩ = some x3 ∧ w.cell? ⟨b, 4, none⟩ = some x4) ∧ b < w.heap.size :=
  ⟨⟨h.cell 0, h.cell 1, h.cell 2, h.cell 3, h.cell 4⟩, (Array.getElem?_eq_some_iff.1 h).1⟩
def moreM (q : M5) (pr le co : Int) : M5 := ⟨min 1000 (q.p + pr), min 1000 (q.l0 + le), min 1000 (q.l1 + le), max 0 (q.c0 - co), max 0 (q.c1 - co)⟩
theorem more_cases {n : Nat} {m : Nat → M5} {k : M5} {l c : Int} {s : Bool} (hb : bothE n m l c = 0) (hb' : bothE (n + 1) (snocM n m k) l c = 0) {is : Bool} {x1 x2 : Int} (h : leastR n m l c s = (x1, x2, if is then 0 else 17)) :
    ∃ (is2 : Bool) (y1 y2 : Int), leastR (n + 1) (snocM n m k) l c s = (y1, y2, if is2 then 0 else 17) ∧ (if is2 then smallB y1 y2 = true else (y1, y2) = ((0 : Int), (0 : Int))) ∧ (is = true → is2 = true ∧ ltB x1 x2 y1 y2 = false) := by
  have hF' := fine_of (both_ok hb').1
  rcases least_cases hb s with ⟨a1, -, a3⟩ | ⟨fa, -, a2, a3⟩
  · rcases least_cases hb' s with ⟨b1, -, b3⟩ | ⟨fb, -, b2, b3⟩
    · refine ⟨false, 0, 0, b1, rfl, fun hi => ?_⟩
      subst hi
      rw [a1] at h
      simp at h
    · refine ⟨true, _, _, b2, low_small hF' b3, fun hi => ?_⟩
      subst hi
      rw [a1] at h
      simp at h
  · rcases least_cases hb' s with ⟨b1, -, b3⟩ | ⟨fb, -, b2, b3⟩
    · exact absurd b3 (more_not a3)
    · refine ⟨true, _, _, b2, low_small hF' b3, fun hi => ⟨rfl, ?_⟩⟩
      subst hi
      rw [a2] at h
      simp only [Prod.mk.injEq] at h
      rw [← h.1, ← h.2.1]
      exact more_le a3 b3
theorem more_same {n i : Nat} {m : Nat → M5} {k : M5} {l c : Int} {s : Bool} (hi : i < n) (hw : Worse s (m i) k) (hb : bothE n m l c = 0) (hb' : bothE (n + 1) (snocM n m k) l c = 0) : leastR (n + 1) (snocM n m k) l c s = leastR n m l c s := by
  rcases least_cases hb s with ⟨a1, -, a3⟩ | ⟨fa, -, a2, a3⟩
  · rcases least_cases hb' s with ⟨b1, -, b3⟩ | ⟨fb, -, b2, b3⟩
    · rw [a1, b1]
    · have := worse_nil hi hw a3 fb (fun i _ => (b3.mix.1 i).1) b3.mix.2.2
      rw [b3.good] at this
      cases this
  · rcases least_cases hb' s with ⟨b1, -, b3⟩ | ⟨fb, -, b2, b3⟩
    · exact absurd b3 (more_not a3)
    · rw [a2, b2, ← worse_same hi hw a3 b3]

set_option maxRecDepth 100000 in
set_option maxHeartbeats 64000000 in
theorem law_more_c (a : Option Addr) (n cap : Nat) (m : Nat → M5) (l c z pr le co : Int) (sure : Bool) (k : M5) (w : World) (hm : Metals w a n m) (hz : 0 ≤ z ∧ z ≤ 255) (hpr : 0 ≤ pr ∧ pr ≤ 65535) (hle : 0 ≤ le ∧ le ≤ 65535) (hco : 0 ≤ co ∧ co ≤ 65535) :
    Calls Tryz.prog 15 #[.slice a n cap, .agg #[.int .i64 l, .int .i64 c], .bool sure, .agg #[.int .i64 k.p, .int .i64 k.l0, .int .i64 k.l1, .int .i64 k.c0, .int .i64 k.c1], .int .u8 z, .int .u16 pr, .int .u16 le, .int .u16 co] w fun e w' => e = .returned (.bool true) ∧ Below w.heap.size w w' := by
  obtain ⟨W, hW⟩ : ∃ W, (w.alloc (.cells #[.int .i64 l, .int .i64 c] 24)).alloc (.cells #[.int .i64 k.p, .int .i64 k.l0, .int .i64 k.l1, .int .i64 k.c0, .int .i64 k.c1] 68) = W := ⟨_, rfl⟩
  have hB : Below w.heap.size w W := by rw [← hW]; exact (Below.alloc1 (Below.alloc1 (Below.refl _ _) _ (Nat.le_refl _)) _ (Nat.le_refl _))
  have HT := Lib.hid (show RowIs W (w.heap.size) #[.int .i64 l, .int .i64 c] 24 by rw [← hW]; exact RowIs.alloc (heap_new_at _ _ _ rfl) _)
  have HK := Lib.hid (show RowIs W (w.heap.size + 1) #[.int .i64 k.p, .int .i64 k.l0, .int .i64 k.l1, .int .i64 k.c0, .int .i64 k.c1] 68 by rw [← hW]; exact heap_new_at _ _ _ (by simp))
  have HM := Lib.hid (hm.below hB)
  obtain ⟨bt, hbt⟩ : ∃ bt, w.heap.size = bt := ⟨_, rfl⟩
  rw [hbt] at HT HK
  clear hm
  have HFi := Lib.hid (fine_c a n cap m l c W HM.out)
  by_cases hfine : n ≤ 12 ∧ bothE n m l c = 0
  case neg =>
    have hd : decide (n ≤ 12 ∧ bothE n m l c = 0) = false := decide_eq_false hfine
    rw [hd] at HFi
    obtain ⟨tc0, tc1, _, _, tz⟩ := ratrow2 HT.out
    go_enter Tryz.func15, Tryz.ntmps15
    go_wp2_with fail
    refine HFi.out.mono ?_
    rintro e w1 ⟨rfl, hb1⟩
    go_wp2_with fail
    refine (works_c _).mono ?_
    rintro e wz ⟨rfl, hbz⟩
    go_wp2
    go_ret
    exact ⟨rfl, bup hB (bup hb1 hbz)⟩
  case pos =>
  have hd : decide (n ≤ 12 ∧ bothE n m l c = 0) = true := decide_eq_true hfine
  rw [hd] at HFi
  have hbo := hfine.2
  have hmet := (both_ok hbo).1
  have hF := fine_of hmet
  have hn16 : 1 ≤ n ∧ n ≤ 6 := ⟨hF.1, hF.2.1⟩
  have hn12 : n ≤ 12 := by omega
  have hn : n ≤ 1048576 := by omega
  by_cases hn5 : n < 6
  case neg =>
    have hlt : decide ((6 : Int) ≤ (n : Int)) = true := by simp; omega
    obtain ⟨tc0, tc1, _, _, tz⟩ := ratrow2 HT.out
    go_enter Tryz.func15, Tryz.ntmps15
    go_wp2_with fail
    refine HFi.out.mono ?_
    rintro e w1 ⟨rfl, hb1⟩
    go_wp2_with fail
    refine (works_c _).mono ?_
    rintro e wz ⟨rfl, hbz⟩
    go_wp2
    go_ret
    exact ⟨rfl, bup hB (bup hb1 hbz)⟩
  case pos =>
  have hlt : decide ((6 : Int) ≤ (n : Int)) = false := by simp; omega
  obtain ⟨is, x1, x2, L1, p1⟩ : ∃ (is : Bool) (x1 x2 : Int), leastR n m l c sure = (x1, x2, if is then 0 else 17) ∧ (if is then smallB x1 x2 = true else (x1, x2) = ((0 : Int), (0 : Int))) := by
    rcases least_cases hbo sure with ⟨h1, -, h3⟩ | ⟨f, -, h2, h3⟩
    · exact ⟨false, 0, 0, h1, rfl⟩
    · exact ⟨true, _, _, h2, low_small hF h3⟩
  obtain ⟨i, hi⟩ : ∃ i : Nat, z % (n : Int) = (i : Int) := ⟨(z % (n : Int)).toNat, by have := Int.emod_nonneg z (show (n : Int) ≠ 0 by omega); omega⟩
  have hin : i < n := by have := Int.emod_lt_of_pos z (show (0 : Int) < n by omega); omega
  have hmodT : Int.tmod z (n : Int) = (i : Int) := by rw [Int.tmod_eq_emod_of_nonneg hz.1]; exact hi
  have hq := hF.2.2 i hin
  obtain ⟨k2, hk2⟩ : ∃ k2, moreM (m i) pr le co = k2 := ⟨_, rfl⟩
  have hw2 : Worse sure (m i) k2 := by
    rw [← hk2]
    unfold Worse moreM bad good
    cases sure <;> simp <;> omega
  have hF2 : Fine (n + 1) (snocM n m k2) := snoc_fine hF hn5 (by rw [← hk2]; unfold moreM; simp only; omega)
  have hbo2 : bothE (n + 1) (snocM n m k2) l c = 0 := by
    unfold bothE
    rw [if_neg (by rw [fine_metals hF2]; simp)]
    unfold bothE at hbo
    rw [if_neg (by omega)] at hbo
    exact hbo
  have L2 := more_same hin hw2 hbo hbo2
  rw [L1] at L2
  have LX := fun h => more_cases (k := k) hbo h L1
  obtain ⟨i0, hi0, hz0, hz1, hz2⟩ := info_parts infoMetal
  obtain ⟨ba, oa, ha0, hba, -⟩ := Metals.at HM.out 0 (by omega)
  subst ha0
  have HLX := Lib.hid LX
  have HL1 := Lib.hid L1
  have HL2 := Lib.hid L2
  have Hp1 := Lib.hid p1
  have Hk2 := Lib.hid hk2
  have Hq := Lib.hid hq
  clear LX L1 L2 p1 hk2 hq hw2 hF2 hbo2 hi hF hbo hmet
  obtain ⟨tc0, tc1, _, _, tz⟩ := ratrow2 HT.out
  go_enter Tryz.func15, Tryz.ntmps15
  go_wp2_with fail
  refine HFi.out.mono ?_
  rintro e w1 ⟨rfl, hb1⟩
  clear tc0 tc1 tz hW hbt
  replace HM := Lib.hid (HM.out.below hb1)
  replace HT := Lib.hid (RowIs.below HT.out hb1)
  replace HK := Lib.hid (RowIs.below HK.out hb1)
  replace hB := bup hB hb1
  have hC1 := lawLeast_c (some ⟨ba, oa, none⟩) n cap m l c sure is (x1, x2) w1 HM.out hn12 HL1.out Hp1.out
  try dsimp only [re2, re3, proofV, zeroP] at hC1
  have C1 := Lib.hid hC1
  clear hC1
  obtain ⟨tc0, tc1, _, _, tz⟩ := ratrow2 HT.out
  go_wp2_with fail
  clear hb1 tc0 tc1 tz
  refine C1.out.mono ?_
  rintro e w2 ⟨rfl, hw3⟩
  clear C1
  replace HM := Lib.hid (HM.out.below hw3)
  replace HT := Lib.hid (RowIs.below HT.out hw3)
  replace HK := Lib.hid (RowIs.below HK.out hw3)
  replace hB := bup hB hw3
  simp only [leastV]
  obtain ⟨Y4, hY4⟩ : ∃ Y4, w2.alloc (.cells #[.int .i64 x1, .int .i64 x2] 29) = Y4 := ⟨_, rfl⟩
  have hy5 : Below w2.heap.size w2 Y4 := by rw [← hY4]; exact Below.alloc1 (Below.refl _ _) _ (Nat.le_refl _)
  replace HM := Lib.hid (HM.out.below hy5)
  replace HT := Lib.hid (RowIs.below HT.out hy5)
  replace HK := Lib.hid (RowIs.below HK.out hy5)
  replace hB := bup hB hy5
  have RA := Lib.hid (show RowIs Y4 w2.heap.size #[.int .i64 x1, .int .i64 x2] 29 by rw [← hY4]; exact heap_new_at _ _ _ rfl)
  obtain ⟨bRA, hbRA⟩ : ∃ bRA, w2.heap.size = bRA := ⟨_, rfl⟩
  rw [hbRA] at RA
  go_wp2_with fail
  clear hw3 hbRA hY4 hy5
  have hn16' := hn16
  go_cut [20] from 47 to 52 (fun e wx => (∃ g cp, e = .slice (some ⟨g, 0, none⟩) (n + 1) cp ∧ Metals wx (some ⟨g, 0, none⟩) (n + 1) (snocM n m k)) ∧ Below Y4.heap.size Y4 wx)
  case first =>
    clear RA HT
    refine wp_region_run0 (by kernel_rfl) ?_
    change Run _ _ _ _ _ 7 _ _ _
    refine run_take (i := 1) (.slice (some ⟨ba, oa, none⟩) n cap) rfl (by kernel_rfl) (by kernel_rfl) (by kernel_rfl) rfl (fun y h => h) (fun y _ => by go_simp) ?_
    simp only [Act.put, List.getElem_toArray, List.getElem_cons_zero, List.getElem_cons_succ, List.setIfInBounds_toArray, List.set_cons_zero, List.set_cons_succ]
    refine run_take (i := 3) (.agg #[.int .i64 k.p, .int .i64 k.l0, .int .i64 k.l1, .int .i64 k.c0, .int .i64 k.c1]) rfl (by kernel_rfl) (by kernel_rfl) (by kernel_rfl) rfl (fun y h => h) (fun y hy => by
      obtain ⟨⟨z0, z1, z2, z3, z4⟩, zz⟩ := row5 (RowIs.below HK.out hy)
      go_simp) ?_
    simp only [Act.put, List.getElem_toArray, List.getElem_cons_zero, List.getElem_cons_succ, List.setIfInBounds_toArray, List.set_cons_zero, List.set_cons_succ]
    refine run_each [0, 4] (by kernel_rfl) (by decide) ?_
    intro i hi
    simp only [List.mem_cons, List.not_mem_nil, or_false] at hi
    rcases hi with rfl | rfl
    · skip
      refine at_upd (fun v y => ∃ b1, v = sl b1 0 0 ∧ (Below Y4.heap.size Y4 y ∧ OwnL Y4.heap.size y b1)) rfl rfl ?_ ?_ ?_ ?_
      · rintro v y y1 ⟨b1, e, ⟨h0, h1⟩⟩ hb
        exact ⟨b1, e, h0.trans (hb.mono h0.size), OwnL.st _ _ h1 hb⟩
      · rintro v y ⟨b1, e, ⟨h0, h1⟩⟩
        exact h0
      · rintro y g0
        refine ⟨sl y.heap.size 0 0, y.alloc (.cells #[] 68), by go_simp, ⟨y.heap.size, rfl, g0.alloc g0.size _, lit_owns g0.size⟩⟩
      rintro v ⟨_, b1, rfl, -⟩
      refine run_mono _ _ _ (fun y => Below Y4.heap.size Y4 y ∧ OwnL Y4.heap.size y b1) _ ?_ ?_
      · rintro y ⟨b1', e, h⟩
        have e2 := (sl_inj e).1
        subst e2
        exact h
      simp only [Act.put, List.getElem_toArray, List.getElem_cons_zero, List.setIfInBounds_toArray, List.set_cons_zero, List.set_cons_succ]
      refine run_each [2, 4] (by kernel_rfl) (by decide) ?_
      intro i hi
      simp only [List.mem_cons, List.not_mem_nil, or_false] at hi
      rcases hi with rfl | rfl
      · skip
        refine at_upd (fun v y => ∃ g2 c3, v = sl g2 n c3 ∧ (Below Y4.heap.size Y4 y ∧ OwnA Y4.heap.size n m y g2 c3)) rfl rfl ?_ ?_ ?_ ?_
        · rintro v y y1 ⟨g2, c3, e, ⟨h0, h1⟩⟩ hb
          exact ⟨g2, c3, e, h0.trans (hb.mono h0.size), OwnA.st _ _ h1 hb⟩
        · rintro v y ⟨g2, c3, e, ⟨h0, h1⟩⟩
          exact h0
        · rintro y ⟨g0, g1⟩
          obtain ⟨g, c', y', hr, a1, a2, a3, a4⟩ := append_list hi0 hz0 hz1 hz2 (n := n) (cap := cap) g0 rfl (HM.out.below g0) hn16 g1
          refine ⟨sl g n c', y', exec_append _ _ _ rfl _ _ rfl rfl hr, ⟨g, c', rfl, a2, a1⟩⟩
        rintro v ⟨_, g2, c3, rfl, -⟩
        refine run_mono _ _ _ (fun y => Below Y4.heap.size Y4 y ∧ OwnA Y4.heap.size n m y g2 c3) _ ?_ ?_
        · rintro y ⟨g2', c3', e, h⟩
          obtain ⟨e2, -, e3⟩ := sl_inj e
          subst e2 e3
          exact h
        simp only [Act.put, List.getElem_toArray, List.getElem_cons_zero, List.getElem_cons_succ, List.setIfInBounds_toArray, List.set_cons_zero, List.set_cons_succ]
        refine run_each [4] (by kernel_rfl) (by decide) ?_
        intro i hi
        simp only [List.mem_cons, List.not_mem_nil, or_false] at hi
        subst hi
        refine at_upd (fun v y => ∃ d4, v = sl d4 1 1 ∧ d4 ≠ g2 ∧ (Below Y4.heap.size Y4 y ∧ OwnA Y4.heap.size n m y g2 c3 ∧ RowK k y d4)) rfl rfl ?_ ?_ ?_ ?_
        · rintro v y y1 ⟨d4, e, hp0, ⟨h0, h1, h2⟩⟩ hb
          exact ⟨d4, e, hp0, h0.trans (hb.mono h0.size), OwnA.st _ _ h1 hb, RowK.st _ _ h2 hb⟩
        · rintro v y ⟨d4, e, hp0, ⟨h0, h1, h2⟩⟩
          exact h0
        · rintro y ⟨g0, g1⟩
          refine ⟨sl y.heap.size 1 1, y.alloc (.cells #[.int .i64 k.p, .int .i64 k.l0, .int .i64 k.l1, .int .i64 k.c0, .int .i64 k.c1] 68), by go_simp, ⟨y.heap.size, rfl, Nat.ne_of_gt g1.lt.2, g0.alloc g0.size _, OwnA.st _ _ g1 ((Below.refl _ y).alloc (Nat.le_refl _) _), World.alloc_heap_new y _⟩⟩
        rintro v ⟨_, d4, rfl, hp0, -⟩
        refine run_mono _ _ _ (fun y => Below Y4.heap.size Y4 y ∧ OwnA Y4.heap.size n m y g2 c3 ∧ RowK k y d4) _ ?_ ?_
        · rintro y ⟨d4', e, _, h⟩
          have e2 := (sl_inj e).1
          subst e2
          exact h
        simp only [Act.put, List.getElem_toArray, List.getElem_cons_zero, List.getElem_cons_succ, List.setIfInBounds_toArray, List.set_cons_zero, List.set_cons_succ]
        refine run_each [5] (by kernel_rfl) (by decide) ?_
        intro i hi
        simp only [List.mem_cons, List.not_mem_nil, or_false] at hi
        subst hi
        refine at_upd (fun v y => ∃ g5 c6, v = sl g5 (n + 1) c6 ∧ (Below Y4.heap.size Y4 y ∧ OwnZ Y4.heap.size n m k y g5 c6)) rfl rfl ?_ ?_ ?_ ?_
        · rintro v y y1 ⟨g5, c6, e, ⟨h0, h1⟩⟩ hb
          exact ⟨g5, c6, e, h0.trans (hb.mono h0.size), OwnZ.st _ _ h1 hb⟩
        · rintro v y ⟨g5, c6, e, ⟨h0, h1⟩⟩
          exact h0
        · rintro y ⟨g0, g1, g2⟩
          obtain ⟨g, c', y', hr, a1, a2, a3, a4⟩ := append_one hi0 hz0 hz1 hz2 g0 rfl hn16 g1 g2
          refine ⟨sl g (n + 1) c', y', exec_append _ _ _ rfl _ _ rfl rfl hr, ⟨g, c', rfl, a2, a1⟩⟩
        rintro v ⟨_, g5, c6, rfl, -⟩
        refine run_mono _ _ _ (fun y => Below Y4.heap.size Y4 y ∧ OwnZ Y4.heap.size n m k y g5 c6) _ ?_ ?_
        · rintro y ⟨g5', c6', e, h⟩
          obtain ⟨e2, -, e3⟩ := sl_inj e
          subst e2 e3
          exact h
        simp only [Act.put, List.getElem_toArray, List.getElem_cons_zero, List.getElem_cons_succ, List.setIfInBounds_toArray, List.set_cons_zero, List.set_cons_succ]
        refine run_quiet (i := 6) (sl g5 (n + 1) c6) (by kernel_rfl) rfl rfl (fun y _ => by go_simp) ?_
        simp only [Act.put, List.getElem_toArray, List.getElem_cons_zero, List.getElem_cons_succ, List.setIfInBounds_toArray, List.set_cons_zero, List.set_cons_succ]
        refine ⟨by kernel_rfl, fun y hy => ?_⟩
        obtain ⟨g0, g1⟩ := hy
        go_wp2_with fail
        go_meet
        exact ⟨⟨g5, c6, rfl, (snoc_of_own g1).1⟩, g0⟩
      · skip
        refine at_upd (fun v y => ∃ d7, v = sl d7 1 1 ∧ d7 ≠ b1 ∧ (Below Y4.heap.size Y4 y ∧ OwnL Y4.heap.size y b1 ∧ RowK k y d7)) rfl rfl ?_ ?_ ?_ ?_
        · rintro v y y1 ⟨d7, e, hp0, ⟨h0, h1, h2⟩⟩ hb
          exact ⟨d7, e, hp0, h0.trans (hb.mono h0.size), OwnL.st _ _ h1 hb, RowK.st _ _ h2 hb⟩
        · rintro v y ⟨d7, e, hp0, ⟨h0, h1, h2⟩⟩
          exact h0
        · rintro y ⟨g0, g1⟩
          refine ⟨sl y.heap.size 1 1, y.alloc (.cells #[.int .i64 k.p, .int .i64 k.l0, .int .i64 k.l1, .int .i64 k.c0, .int .i64 k.c1] 68), by go_simp, ⟨y.heap.size, rfl, Nat.ne_of_gt g1.lt.2, g0.alloc g0.size _, OwnL.st _ _ g1 ((Below.refl _ y).alloc (Nat.le_refl _) _), World.alloc_heap_new y _⟩⟩
        rintro v ⟨_, d7, rfl, hp0, -⟩
        refine run_mono _ _ _ (fun y => Below Y4.heap.size Y4 y ∧ OwnL Y4.heap.size y b1 ∧ RowK k y d7) _ ?_ ?_
        · rintro y ⟨d7', e, _, h⟩
          have e2 := (sl_inj e).1
          subst e2
          exact h
        simp only [Act.put, List.getElem_toArray, List.getElem_cons_zero, List.getElem_cons_succ, List.setIfInBounds_toArray, List.set_cons_zero, List.set_cons_succ]
        refine run_each [2] (by kernel_rfl) (by decide) ?_
        intro i hi
        simp only [List.mem_cons, List.not_mem_nil, or_false] at hi
        subst hi
        refine at_upd (fun v y => ∃ g8 c9, v = sl g8 n c9 ∧ d7 ≠ g8 ∧ (Below Y4.heap.size Y4 y ∧ OwnA Y4.heap.size n m y g8 c9 ∧ RowK k y d7)) rfl rfl ?_ ?_ ?_ ?_
        · rintro v y y1 ⟨g8, c9, e, hp0, ⟨h0, h1, h2⟩⟩ hb
          exact ⟨g8, c9, e, hp0, h0.trans (hb.mono h0.size), OwnA.st _ _ h1 hb, RowK.st _ _ h2 hb⟩
        · rintro v y ⟨g8, c9, e, hp0, ⟨h0, h1, h2⟩⟩
          exact h0
        · rintro y ⟨g0, g1, g2⟩
          obtain ⟨g, c', y', hr, a1, a2, a3, a4⟩ := append_list hi0 hz0 hz1 hz2 (n := n) (cap := cap) g0 rfl (HM.out.below g0) hn16 g1
          have hdg : d7 ≠ g := by
            rcases a4 with a4 | a4
            · rw [a4]
              exact hp0
            · have := heap_size_lt g2
              omega
          refine ⟨sl g n c', y', exec_append _ _ _ rfl _ _ rfl rfl hr, ⟨g, c', rfl, hdg, a2, a1, a3 _ _ hp0 g2⟩⟩
        rintro v ⟨_, g8, c9, rfl, hp0, -⟩
        refine run_mono _ _ _ (fun y => Below Y4.heap.size Y4 y ∧ OwnA Y4.heap.size n m y g8 c9 ∧ RowK k y d7) _ ?_ ?_
        · rintro y ⟨g8', c9', e, _, h⟩
          obtain ⟨e2, -, e3⟩ := sl_inj e
          subst e2 e3
          exact h
        simp only [Act.put, List.getElem_toArray, List.getElem_cons_zero, List.getElem_cons_succ, List.setIfInBounds_toArray, List.set_cons_zero, List.set_cons_succ]
        refine run_each [5] (by kernel_rfl) (by decide) ?_
        intro i hi
        simp only [List.mem_cons, List.not_mem_nil, or_false] at hi
        subst hi
        refine at_upd (fun v y => ∃ g10 c11, v = sl g10 (n + 1) c11 ∧ (Below Y4.heap.size Y4 y ∧ OwnZ Y4.heap.size n m k y g10 c11)) rfl rfl ?_ ?_ ?_ ?_
        · rintro v y y1 ⟨g10, c11, e, ⟨h0, h1⟩⟩ hb
          exact ⟨g10, c11, e, h0.trans (hb.mono h0.size), OwnZ.st _ _ h1 hb⟩
        · rintro v y ⟨g10, c11, e, ⟨h0, h1⟩⟩
          exact h0
        · rintro y ⟨g0, g1, g2⟩
          obtain ⟨g, c', y', hr, a1, a2, a3, a4⟩ := append_one hi0 hz0 hz1 hz2 g0 rfl hn16 g1 g2
          refine ⟨sl g (n + 1) c', y', exec_append _ _ _ rfl _ _ rfl rfl hr, ⟨g, c', rfl, a2, a1⟩⟩
        rintro v ⟨_, g10, c11, rfl, -⟩
        refine run_mono _ _ _ (fun y => Below Y4.heap.size Y4 y ∧ OwnZ Y4.heap.size n m k y g10 c11) _ ?_ ?_
        · rintro y ⟨g10', c11', e, h⟩
          obtain ⟨e2, -, e3⟩ := sl_inj e
          subst e2 e3
          exact h
        simp only [Act.put, List.getElem_toArray, List.getElem_cons_zero, List.getElem_cons_succ, List.setIfInBounds_toArray, List.set_cons_zero, List.set_cons_succ]
        refine run_quiet (i := 6) (sl g10 (n + 1) c11) (by kernel_rfl) rfl rfl (fun y _ => by go_simp) ?_
        simp only [Act.put, List.getElem_toArray, List.getElem_cons_zero, List.getElem_cons_succ, List.setIfInBounds_toArray, List.set_cons_zero, List.set_cons_succ]
        refine ⟨by kernel_rfl, fun y hy => ?_⟩
        obtain ⟨g0, g1⟩ := hy
        go_wp2_with fail
        go_meet
        exact ⟨⟨g10, c11, rfl, (snoc_of_own g1).1⟩, g0⟩
    · skip
      refine at_upd (fun v y => ∃ d12, v = sl d12 1 1 ∧ (Below Y4.heap.size Y4 y ∧ RowK k y d12)) rfl rfl ?_ ?_ ?_ ?_
      · rintro v y y1 ⟨d12, e, ⟨h0, h2⟩⟩ hb
        exact ⟨d12, e, h0.trans (hb.mono h0.size), RowK.st _ _ h2 hb⟩
      · rintro v y ⟨d12, e, ⟨h0, h2⟩⟩
        exact h0
      · rintro y g0
        refine ⟨sl y.heap.size 1 1, y.alloc (.cells #[.int .i64 k.p, .int .i64 k.l0, .int .i64 k.l1, .int .i64 k.c0, .int .i64 k.c1] 68), by go_simp, ⟨y.heap.size, rfl, g0.alloc g0.size _, World.alloc_heap_new y _⟩⟩
      rintro v ⟨_, d12, rfl, -⟩
      refine run_mono _ _ _ (fun y => Below Y4.heap.size Y4 y ∧ RowK k y d12) _ ?_ ?_
      · rintro y ⟨d12', e, h⟩
        have e2 := (sl_inj e).1
        subst e2
        exact h
      simp only [Act.put, List.getElem_toArray, List.getElem_cons_zero, List.getElem_cons_succ, List.setIfInBounds_toArray, List.set_cons_zero, List.set_cons_succ]
      refine run_each [0] (by kernel_rfl) (by decide) ?_
      intro i hi
      simp only [List.mem_cons, List.not_mem_nil, or_false] at hi
      subst hi
      refine at_upd (fun v y => ∃ b13, v = sl b13 0 0 ∧ d12 ≠ b13 ∧ (Below Y4.heap.size Y4 y ∧ OwnL Y4.heap.size y b13 ∧ RowK k y d12)) rfl rfl ?_ ?_ ?_ ?_
      · rintro v y y1 ⟨b13, e, hp0, ⟨h0, h1, h2⟩⟩ hb
        exact ⟨b13, e, hp0, h0.trans (hb.mono h0.size), OwnL.st _ _ h1 hb, RowK.st _ _ h2 hb⟩
      · rintro v y ⟨b13, e, hp0, ⟨h0, h1, h2⟩⟩
        exact h0
      · rintro y ⟨g0, g2⟩
        refine ⟨sl y.heap.size 0 0, y.alloc (.cells #[] 68), by go_simp, ⟨y.heap.size, rfl, Nat.ne_of_lt (heap_size_lt g2), g0.alloc g0.size _, lit_owns g0.size, RowK.st _ _ g2 ((Below.refl _ y).alloc (Nat.le_refl _) _)⟩⟩
      rintro v ⟨_, b13, rfl, hp0, -⟩
      refine run_mono _ _ _ (fun y => Below Y4.heap.size Y4 y ∧ OwnL Y4.heap.size y b13 ∧ RowK k y d12) _ ?_ ?_
      · rintro y ⟨b13', e, _, h⟩
        have e2 := (sl_inj e).1
        subst e2
        exact h
      simp only [Act.put, List.getElem_toArray, List.getElem_cons_zero, List.setIfInBounds_toArray, List.set_cons_zero, List.set_cons_succ]
      refine run_each [2] (by kernel_rfl) (by decide) ?_
      intro i hi
      simp only [List.mem_cons, List.not_mem_nil, or_false] at hi
      subst hi
      refine at_upd (fun v y => ∃ g14 c15, v = sl g14 n c15 ∧ d12 ≠ g14 ∧ (Below Y4.heap.size Y4 y ∧ OwnA Y4.heap.size n m y g14 c15 ∧ RowK k y d12)) rfl rfl ?_ ?_ ?_ ?_
      · rintro v y y1 ⟨g14, c15, e, hp0, ⟨h0, h1, h2⟩⟩ hb
        exact ⟨g14, c15, e, hp0, h0.trans (hb.mono h0.size), OwnA.st _ _ h1 hb, RowK.st _ _ h2 hb⟩
      · rintro v y ⟨g14, c15, e, hp0, ⟨h0, h1, h2⟩⟩
        exact h0
      · rintro y ⟨g0, g1, g2⟩
        obtain ⟨g, c', y', hr, a1, a2, a3, a4⟩ := append_list hi0 hz0 hz1 hz2 (n := n) (cap := cap) g0 rfl (HM.out.below g0) hn16 g1
        have hdg : d12 ≠ g := by
          rcases a4 with a4 | a4
          · rw [a4]
            exact hp0
          · have := heap_size_lt g2
            omega
        refine ⟨sl g n c', y', exec_append _ _ _ rfl _ _ rfl rfl hr, ⟨g, c', rfl, hdg, a2, a1, a3 _ _ hp0 g2⟩⟩
      rintro v ⟨_, g14, c15, rfl, hp0, -⟩
      refine run_mono _ _ _ (fun y => Below Y4.heap.size Y4 y ∧ OwnA Y4.heap.size n m y g14 c15 ∧ RowK k y d12) _ ?_ ?_
      · rintro y ⟨g14', c15', e, _, h⟩
        obtain ⟨e2, -, e3⟩ := sl_inj e
        subst e2 e3
        exact h
      simp only [Act.put, List.getElem_toArray, List.getElem_cons_zero, List.getElem_cons_succ, List.setIfInBounds_toArray, List.set_cons_zero, List.set_cons_succ]
      refine run_each [5] (by kernel_rfl) (by decide) ?_
      intro i hi
      simp only [List.mem_cons, List.not_mem_nil, or_false] at hi
      subst hi
      refine at_upd (fun v y => ∃ g16 c17, v = sl g16 (n + 1) c17 ∧ (Below Y4.heap.size Y4 y ∧ OwnZ Y4.heap.size n m k y g16 c17)) rfl rfl ?_ ?_ ?_ ?_
      · rintro v y y1 ⟨g16, c17, e, ⟨h0, h1⟩⟩ hb
        exact ⟨g16, c17, e, h0.trans (hb.mono h0.size), OwnZ.st _ _ h1 hb⟩
      · rintro v y ⟨g16, c17, e, ⟨h0, h1⟩⟩
        exact h0
      · rintro y ⟨g0, g1, g2⟩
        obtain ⟨g, c', y', hr, a1, a2, a3, a4⟩ := append_one hi0 hz0 hz1 hz2 g0 rfl hn16 g1 g2
        refine ⟨sl g (n + 1) c', y', exec_append _ _ _ rfl _ _ rfl rfl hr, ⟨g, c', rfl, a2, a1⟩⟩
      rintro v ⟨_, g16, c17, rfl, -⟩
      refine run_mono _ _ _ (fun y => Below Y4.heap.size Y4 y ∧ OwnZ Y4.heap.size n m k y g16 c17) _ ?_ ?_
      · rintro y ⟨g16', c17', e, h⟩
        obtain ⟨e2, -, e3⟩ := sl_inj e
        subst e2 e3
        exact h
      simp only [Act.put, List.getElem_toArray, List.getElem_cons_zero, List.getElem_cons_succ, List.setIfInBounds_toArray, List.set_cons_zero, List.set_cons_succ]
      refine run_quiet (i := 6) (sl g16 (n + 1) c17) (by kernel_rfl) rfl rfl (fun y _ => by go_simp) ?_
      simp only [Act.put, List.getElem_toArray, List.getElem_cons_zero, List.getElem_cons_succ, List.setIfInBounds_toArray, List.set_cons_zero, List.set_cons_succ]
      refine ⟨by kernel_rfl, fun y hy => ?_⟩
      obtain ⟨g0, g1⟩ := hy
      go_wp2_with fail
      go_meet
      exact ⟨⟨g16, c17, rfl, (snoc_of_own g1).1⟩, g0⟩
  case rest =>
  obtain ⟨⟨gx, cx, rfl, hXm⟩, hcb⟩ := hcut
  obtain ⟨wx, hww⟩ : ∃ x, x = wc := ⟨_, rfl⟩
  subst hww
  replace HM := Lib.hid (HM.out.below hcb)
  replace HT := Lib.hid (RowIs.below HT.out hcb)
  replace HK := Lib.hid (RowIs.below HK.out hcb)
  replace RA := Lib.hid (RowIs.below RA.out hcb)
  replace hB := bup hB hcb
  have HX := Lib.hid hXm
  clear hXm hcb hn16'
  by_cases hbx : bothE (n + 1) (snocM n m k) l c = 0
  case neg =>
    have hdx : decide (n + 1 ≤ 12 ∧ bothE (n + 1) (snocM n m k) l c = 0) = false := decide_eq_false (fun h => hbx h.2)
    have hC6 := fine_c (some ⟨gx, 0, none⟩) (n + 1) cx (snocM n m k) l c wx HX.out
    rw [hdx] at hC6
    try dsimp only [re2, re3, proofV, zeroP] at hC6
    have C6 := Lib.hid hC6
    clear hC6
    obtain ⟨tc0, tc1, _, _, tz⟩ := ratrow2 HT.out
    go_wp2_with fail
    clear tc0 tc1 tz
    refine C6.out.mono ?_
    rintro e w7 ⟨rfl, hw8⟩
    clear C6
    replace HM := Lib.hid (HM.out.below hw8)
    replace HT := Lib.hid (RowIs.below HT.out hw8)
    replace HK := Lib.hid (RowIs.below HK.out hw8)
    replace RA := Lib.hid (RowIs.below RA.out hw8)
    replace HX := Lib.hid (HX.out.below hw8)
    replace hB := bup hB hw8
    obtain ⟨_, _, he_, hmz, q0, q1, q2, q3, q4⟩ := Metals.at HM.out i hin
    cases he_
    have hqb := Hq.out
    have e0 : min (1000 : Int) (((m i).p + pr)) = k2.p := by rw [← Hk2.out]; rfl
    have e1 : min (1000 : Int) (((m i).l0 + le)) = k2.l0 := by rw [← Hk2.out]; rfl
    have e2 : min (1000 : Int) (((m i).l1 + le)) = k2.l1 := by rw [← Hk2.out]; rfl
    have e3 : max (0 : Int) (((m i).c0 - co)) = k2.c0 := by rw [← Hk2.out]; rfl
    have e4 : max (0 : Int) (((m i).c1 - co)) = k2.c1 := by rw [← Hk2.out]; rfl
    obtain ⟨Y, hY⟩ : ∃ Y, w7.alloc (.cells #[.int .i64 (m i).p, .int .i64 (m i).l0, .int .i64 (m i).l1, .int .i64 (m i).c0, .int .i64 (m i).c1] 68) = Y := ⟨_, rfl⟩
    have hyY : Below w7.heap.size w7 Y := by rw [← hY]; exact Below.alloc1 (Below.refl _ _) _ (Nat.le_refl _)
    have rY : RowIs Y w7.heap.size #[.int .i64 (m i).p, .int .i64 (m i).l0, .int .i64 (m i).l1, .int .i64 (m i).c0, .int .i64 (m i).c1] 68 := by rw [← hY]; exact heap_new_at _ _ _ rfl
    obtain ⟨⟨y0, y1, y2, y3, y4⟩, yz⟩ := row5 rY
    have yf0 : Y.frozen? ⟨w7.heap.size, 0, none⟩ = false := RowIs.frozen rY 0
    have yf1 : Y.frozen? ⟨w7.heap.size, 1, none⟩ = false := RowIs.frozen rY 1
    have yf2 : Y.frozen? ⟨w7.heap.size, 2, none⟩ = false := RowIs.frozen rY 2
    have yf3 : Y.frozen? ⟨w7.heap.size, 3, none⟩ = false := RowIs.frozen rY 3
    have yf4 : Y.frozen? ⟨w7.heap.size, 4, none⟩ = false := RowIs.frozen rY 4
    obtain ⟨V, hV⟩ : ∃ V, ((((Y.setCell ⟨w7.heap.size, 0, none⟩ (.int .i64 k2.p)).setCell ⟨w7.heap.size, 1, none⟩ (.int .i64 k2.l0)).setCell ⟨w7.heap.size, 2, none⟩ (.int .i64 k2.l1)).setCell ⟨w7.heap.size, 3, none⟩ (.int .i64 k2.c0)).setCell ⟨w7.heap.size, 4, none⟩ (.int .i64 k2.c1) = V := ⟨_, rfl⟩
    have rV : RowIs V w7.heap.size #[.int .i64 k2.p, .int .i64 k2.l0, .int .i64 k2.l1, .int .i64 k2.c0, .int .i64 k2.c1] 68 := by rw [← hV]; simpa using ((((rY.set 0 (.int .i64 k2.p)).set 1 (.int .i64 k2.l0)).set 2 (.int .i64 k2.l1)).set 3 (.int .i64 k2.c0)).set 4 (.int .i64 k2.c1)
    have hbV : Below w7.heap.size w7 V := hyY.trans (by rw [← hV]; exact (((((Below.refl _ Y).setCell (p := ⟨w7.heap.size, 0, none⟩) (Nat.le_refl _) _).setCell (p := ⟨w7.heap.size, 1, none⟩) (Nat.le_refl _) _).setCell (p := ⟨w7.heap.size, 2, none⟩) (Nat.le_refl _) _).setCell (p := ⟨w7.heap.size, 3, none⟩) (Nat.le_refl _) _).setCell (p := ⟨w7.heap.size, 4, none⟩) (Nat.le_refl _) _)
    clear HK HX
    replace HM := Lib.hid (HM.out.below hbV)
    replace HT := Lib.hid (RowIs.below HT.out hbV)
    replace RA := Lib.hid (RowIs.below RA.out hbV)
    replace hB := bup hB hbV
    have HK2 := Lib.hid rV
    go_wp2_with fail
    clear hw8
    clear q0 q1 q2 q3 q4 e0 e1 e2 e3 e4 y0 y1 y2 y3 y4 yf0 yf1 yf2 yf3 yf4 hY hV rY rV hyY hbV yz
    obtain ⟨bk, hbk⟩ : ∃ b, w7.heap.size = b := ⟨_, rfl⟩
    rw [hbk] at HK2 ⊢
    clear hbk
    have KL2 := Lib.hid (fun (x : World) (g c' : Nat) (hx : Below V.heap.size V x) (hM : Metals x (some ⟨g, 0, none⟩) (n + 1) (snocM n m k2)) => by
      have h := lawLeast_c (some ⟨g, 0, none⟩) (n + 1) c' (snocM n m k2) l c sure is (x1, x2) x hM (by omega) HL2.out Hp1.out
      dsimp only [leastV] at h
      exact h)
    go_cut [25, 26, 19] from 125 to 137 (fun e f g wx => (∃ b, e = .pointer (some ⟨b, 0, none⟩) ∧ RowIs wx b #[.int .i64 x1, .int .i64 x2] 29) ∧ f = .bool is ∧ g = .bool true ∧ Below V.heap.size V wx)
    case first =>
      clear RA
      refine wp_region_run0 (by kernel_rfl) ?_
      change Run _ _ _ _ _ 17 _ _ _
      refine run_take (i := 1) (.slice (some ⟨ba, oa, none⟩) n cap) rfl (by kernel_rfl) (by kernel_rfl) (by kernel_rfl) rfl (fun y h => h) (fun y _ => by go_simp) ?_
      simp only [Act.put, List.getElem_toArray, List.getElem_cons_zero, List.getElem_cons_succ, List.setIfInBounds_toArray, List.set_cons_zero, List.set_cons_succ]
      refine run_take (i := 3) (.agg #[.int .i64 k2.p, .int .i64 k2.l0, .int .i64 k2.l1, .int .i64 k2.c0, .int .i64 k2.c1]) rfl (by kernel_rfl) (by kernel_rfl) (by kernel_rfl) rfl (fun y h => h) (fun y hy => by
        obtain ⟨⟨z0, z1, z2, z3, z4⟩, zz⟩ := row5 (RowIs.below HK2.out hy)
        go_simp) ?_
      simp only [Act.put, List.getElem_toArray, List.getElem_cons_zero, List.getElem_cons_succ, List.setIfInBounds_toArray, List.set_cons_zero, List.set_cons_succ]
      refine run_take (i := 6) (.agg #[.int .i64 l, .int .i64 c]) rfl (by kernel_rfl) (by kernel_rfl) (by kernel_rfl) rfl (fun y h => h) (fun y hy => by
        obtain ⟨z0, z1, _, _, zz⟩ := ratrow2 (RowIs.below HT.out hy)
        go_simp) ?_
      simp only [Act.put, List.getElem_toArray, List.getElem_cons_zero, List.getElem_cons_succ, List.setIfInBounds_toArray, List.set_cons_zero, List.set_cons_succ]
      refine run_take (i := 7) (.bool sure) rfl (by kernel_rfl) (by kernel_rfl) (by kernel_rfl) rfl (fun y h => h) (fun y _ => by go_simp) ?_
      simp only [Act.put, List.getElem_toArray, List.getElem_cons_zero, List.getElem_cons_succ, List.setIfInBounds_toArray, List.set_cons_zero, List.set_cons_succ]
      change Run _ _ _ _ _ (6 + 6 + 1) _ _ _
      refine runX_float (w0 := V) (x := 13) (c := 9) (tx := 25) (z := .cells #[.int .i64 0, .int .i64 0] 29 (0, 0)) (g := 6) rfl rfl rfl (fun a w => by go_simp) (Region.noSelect_spec (by kernel_rfl)) (by kernel_rfl) (by kernel_rfl) (by decide) (fun y h => h.size) 6 _ _ _ (fun _ => False) (by kernel_rfl) (fun y h => h) (fun y _ b hb => hb.elim) ?_
      refine runX_each [0, 4] (by kernel_rfl) (by kernel_rfl) (by kernel_rfl) (by decide) ?_
      intro i hi
      simp only [List.mem_cons, List.not_mem_nil, or_false] at hi
      rcases hi with rfl | rfl
      · skip
        refine atX_upd (fun v y => ∃ b1, v = sl b1 0 0 ∧ (Below V.heap.size V y ∧ OwnL V.heap.size y b1)) (fun v q => ∃ b1, v = sl b1 0 0 ∧ q = b1) rfl rfl ?_ ?_ ?_ ?_ ?_
        · rintro v y y1 ⟨b1, e, ⟨h0, h1⟩⟩ hb
          exact ⟨b1, e, h0.trans (hb.mono h0.size), OwnL.st _ _ h1 hb⟩
        · rintro v y ⟨b1, e, ⟨h0, h1⟩⟩
          exact h0
        · rintro v y ⟨b1, e, ⟨h0, h1⟩⟩ q ⟨b1', e1, rfl⟩
          have e2 := (sl_inj (e.symm.trans e1)).1
          have := h1.lt.2
          omega
        · rintro y g0
          refine ⟨sl y.heap.size 0 0, y.alloc (.cells #[] 68), by go_simp, ⟨y.heap.size, rfl, g0.alloc g0.size _, lit_owns g0.size⟩, fun q zz _ hz => alloc_block y _ hz, ?_⟩
          rintro q ⟨b', e1, rfl⟩
          right
          have := (sl_inj e1).1
          omega
        rintro v ⟨_, b1, rfl, -⟩
        refine runX_mono _ _ _ (fun y => Below V.heap.size V y ∧ OwnL V.heap.size y b1) _ (fun q => q = b1) _ ?_ ?_ ?_ ?_
        · rintro y ⟨b1', e, h⟩
          have e2 := (sl_inj e).1
          subst e2
          exact h
        · intro q hq
          exact ⟨b1, rfl, hq⟩
        · rintro q ⟨b1', e, rfl⟩
          exact ((sl_inj e).1).symm
        simp only [Act.put, List.getElem_toArray, List.getElem_cons_zero, List.setIfInBounds_toArray, List.set_cons_zero, List.set_cons_succ]
        refine runX_each [2, 4] (by kernel_rfl) (by kernel_rfl) (by kernel_rfl) (by decide) ?_
        intro i hi
        simp only [List.mem_cons, List.not_mem_nil, or_false] at hi
        rcases hi with rfl | rfl
        · skip
          refine atX_upd (fun v y => ∃ g2 c3, v = sl g2 n c3 ∧ (Below V.heap.size V y ∧ OwnA V.heap.size n m y g2 c3)) (fun v q => ∃ g2 c3, v = sl g2 n c3 ∧ q = g2) rfl rfl ?_ ?_ ?_ ?_ ?_
          · rintro v y y1 ⟨g2, c3, e, ⟨h0, h1⟩⟩ hb
            exact ⟨g2, c3, e, h0.trans (hb.mono h0.size), OwnA.st _ _ h1 hb⟩
          · rintro v y ⟨g2, c3, e, ⟨h0, h1⟩⟩
            exact h0
          · rintro v y ⟨g2, c3, e, ⟨h0, h1⟩⟩ q ⟨g2', c3', e1, rfl⟩
            have e2 := (sl_inj (e.symm.trans e1)).1
            have := h1.lt.2
            omega
          · rintro y ⟨g0, g1⟩
            obtain ⟨g, c', y', hr, a1, a2, a3, a4⟩ := append_list hi0 hz0 hz1 hz2 (n := n) (cap := cap) g0 rfl (HM.out.below g0) hn16 g1
            refine ⟨sl g n c', y', exec_append _ _ _ rfl _ _ rfl rfl hr, ⟨g, c', rfl, a2, a1⟩, fun q zz hq hz => a3 q zz hq hz, ?_⟩
            rintro q ⟨g'', c'', e1, rfl⟩
            have e2 := (sl_inj e1).1
            subst e2
            exact a4
          rintro v ⟨_, g2, c3, rfl, -⟩
          refine runX_mono _ _ _ (fun y => Below V.heap.size V y ∧ OwnA V.heap.size n m y g2 c3) _ (fun q => q = g2) _ ?_ ?_ ?_ ?_
          · rintro y ⟨g2', c3', e, h⟩
            obtain ⟨e2, -, e3⟩ := sl_inj e
            subst e2 e3
            exact h
          · intro q hq
            exact ⟨g2, c3, rfl, hq⟩
          · rintro q ⟨g2', c3', e, rfl⟩
            exact ((sl_inj e).1).symm
          simp only [Act.put, List.getElem_toArray, List.getElem_cons_zero, List.getElem_cons_succ, List.setIfInBounds_toArray, List.set_cons_zero, List.set_cons_succ]
          refine runX_each [4] (by kernel_rfl) (by kernel_rfl) (by kernel_rfl) (by decide) ?_
          intro i hi
          simp only [List.mem_cons, List.not_mem_nil, or_false] at hi
          subst hi
          refine atX_upd (fun v y => ∃ d4, v = sl d4 1 1 ∧ d4 ≠ g2 ∧ (Below V.heap.size V y ∧ OwnA V.heap.size n m y g2 c3 ∧ RowK k2 y d4)) (fun _ => fun q => q = g2) rfl rfl ?_ ?_ ?_ ?_ ?_
          · rintro v y y1 ⟨d4, e, hp0, ⟨h0, h1, h2⟩⟩ hb
            exact ⟨d4, e, hp0, h0.trans (hb.mono h0.size), OwnA.st _ _ h1 hb, RowK.st _ _ h2 hb⟩
          · rintro v y ⟨d4, e, hp0, ⟨h0, h1, h2⟩⟩
            exact h0
          · rintro v y ⟨d4, e, hp0, ⟨h0, h1, h2⟩⟩ q hq
            have := h1.lt.2
            omega
          · rintro y ⟨g0, g1⟩
            refine ⟨sl y.heap.size 1 1, y.alloc (.cells #[.int .i64 k2.p, .int .i64 k2.l0, .int .i64 k2.l1, .int .i64 k2.c0, .int .i64 k2.c1] 68), by go_simp, ⟨y.heap.size, rfl, Nat.ne_of_gt g1.lt.2, g0.alloc g0.size _, OwnA.st _ _ g1 ((Below.refl _ y).alloc (Nat.le_refl _) _), World.alloc_heap_new y _⟩, fun q zz _ hz => alloc_block y _ hz, fun q hq => .inl hq⟩
          rintro v ⟨_, d4, rfl, hp0, -⟩
          refine runX_mono _ _ _ (fun y => Below V.heap.size V y ∧ OwnA V.heap.size n m y g2 c3 ∧ RowK k2 y d4) _ (fun q => q = g2) _ ?_ ?_ ?_ ?_
          · rintro y ⟨d4', e, _, h⟩
            have e2 := (sl_inj e).1
            subst e2
            exact h
          · intro q hq
            exact hq
          · intro q hq
            exact hq
          simp only [Act.put, List.getElem_toArray, List.getElem_cons_zero, List.getElem_cons_succ, List.setIfInBounds_toArray, List.set_cons_zero, List.set_cons_succ]
          refine runX_each [5] (by kernel_rfl) (by kernel_rfl) (by kernel_rfl) (by decide) ?_
          intro i hi
          simp only [List.mem_cons, List.not_mem_nil, or_false] at hi
          subst hi
          refine atX_upd (fun v y => ∃ g5 c6, v = sl g5 (n + 1) c6 ∧ (Below V.heap.size V y ∧ OwnZ V.heap.size n m k2 y g5 c6)) (fun v q => ∃ g5 c6, v = sl g5 (n + 1) c6 ∧ q = g5) rfl rfl ?_ ?_ ?_ ?_ ?_
          · rintro v y y1 ⟨g5, c6, e, ⟨h0, h1⟩⟩ hb
            exact ⟨g5, c6, e, h0.trans (hb.mono h0.size), OwnZ.st _ _ h1 hb⟩
          · rintro v y ⟨g5, c6, e, ⟨h0, h1⟩⟩
            exact h0
          · rintro v y ⟨g5, c6, e, ⟨h0, h1⟩⟩ q ⟨g5', c6', e1, rfl⟩
            have e2 := (sl_inj (e.symm.trans e1)).1
            have := h1.lt.2
            omega
          · rintro y ⟨g0, g1, g2⟩
            obtain ⟨g, c', y', hr, a1, a2, a3, a4⟩ := append_one hi0 hz0 hz1 hz2 g0 rfl hn16 g1 g2
            refine ⟨sl g (n + 1) c', y', exec_append _ _ _ rfl _ _ rfl rfl hr, ⟨g, c', rfl, a2, a1⟩, fun q zz hq hz => a3 q zz hq hz, ?_⟩
            rintro q ⟨g'', c'', e1, rfl⟩
            have e2 := (sl_inj e1).1
            subst e2
            exact a4
          rintro v ⟨_, g5, c6, rfl, -⟩
          refine runX_mono _ _ _ (fun y => Below V.heap.size V y ∧ OwnZ V.heap.size n m k2 y g5 c6) _ (fun q => q = g5) _ ?_ ?_ ?_ ?_
          · rintro y ⟨g5', c6', e, h⟩
            obtain ⟨e2, -, e3⟩ := sl_inj e
            subst e2 e3
            exact h
          · intro q hq
            exact ⟨g5, c6, rfl, hq⟩
          · rintro q ⟨g5', c6', e, rfl⟩
            exact ((sl_inj e).1).symm
          simp only [Act.put, List.getElem_toArray, List.getElem_cons_zero, List.getElem_cons_succ, List.setIfInBounds_toArray, List.set_cons_zero, List.set_cons_succ]
          refine runX_each [8] (by kernel_rfl) (by kernel_rfl) (by kernel_rfl) (by decide) ?_
          intro i hi
          simp only [List.mem_cons, List.not_mem_nil, or_false] at hi
          subst hi
          refine atX_quiet (.tuple #[.agg #[.int .i64 x1, .int .i64 x2], .bool is, .bool true]) rfl (quiet_of_walk rfl rfl (by simp) (fun y hy K1 hK1 => ?_)) ?_
          · obtain ⟨g0, g1⟩ := hy
            have HM3 := Lib.hid (snoc_of_own g1).1
            simp only [List.getElem_toArray, List.getElem_cons_zero, List.getElem_cons_succ]
            go_big_quiet_step ((with_reducible refine calls_later (KL2.out _ g5 c6 (g0.trans ((Later.h _).mono g0.size)) (HM3.out.below (Later.h _)))))
            exact wpQuiet_nil hK1
          simp only [Act.put, List.getElem_toArray, List.getElem_cons_zero, List.getElem_cons_succ, List.setIfInBounds_toArray, List.set_cons_zero, List.set_cons_succ]
          refine runX_each [9] (by kernel_rfl) (by kernel_rfl) (by kernel_rfl) (by decide) ?_
          intro i hi
          simp only [List.mem_cons, List.not_mem_nil, or_false] at hi
          subst hi
          refine atX_quiet (.tuple #[.agg #[.int .i64 x1, .int .i64 x2], .bool is, .bool true]) rfl (quiet_read rfl (fun y _ => by go_simp)) ?_
          simp only [Act.put, List.getElem_toArray, List.getElem_cons_zero, List.getElem_cons_succ, List.setIfInBounds_toArray, List.set_cons_zero, List.set_cons_succ]
          refine ⟨?_, fun bx hbx _ => ?_⟩
          · skip
            change Run _ _ _ _ _ 7 _ _ _
            refine run_take (i := 10) (.agg #[.int .i64 x1, .int .i64 x2]) rfl (by kernel_rfl) (by kernel_rfl) (by kernel_rfl) rfl (fun y h => h.1) (fun y _ => by go_simp) ?_
            simp only [Act.put, List.getElem_toArray, List.getElem_cons_zero, List.getElem_cons_succ, List.setIfInBounds_toArray, List.set_cons_zero, List.set_cons_succ]
            refine run_take (i := 11) (.bool is) rfl (by kernel_rfl) (by kernel_rfl) (by kernel_rfl) rfl (fun y h => h.1) (fun y _ => by go_simp) ?_
            simp only [Act.put, List.getElem_toArray, List.getElem_cons_zero, List.getElem_cons_succ, List.setIfInBounds_toArray, List.set_cons_zero, List.set_cons_succ]
            refine run_take (i := 12) (.bool true) rfl (by kernel_rfl) (by kernel_rfl) (by kernel_rfl) rfl (fun y h => h.1) (fun y _ => by go_simp) ?_
            simp only [Act.put, List.getElem_toArray, List.getElem_cons_zero, List.getElem_cons_succ, List.setIfInBounds_toArray, List.set_cons_zero, List.set_cons_succ]
            refine run_alloc (w0 := V) (i := 13) (t := 25) (z := .cells #[.int .i64 0, .int .i64 0] 29 (0, 0)) (by kernel_rfl) rfl rfl rfl (fun a w => by go_simp) (fun y h => h.1.size) ?_
            intro bx hbx
            simp only [Act.put, List.setIfInBounds_toArray, List.set_cons_zero, List.set_cons_succ]
            refine run_store (i := 14) (fun y => Below V.heap.size V y ∧ y.heap[bx]? = some (.cells #[.int .i64 x1, .int .i64 x2] 29 (0, 0))) (by kernel_rfl) rfl rfl (fun y y1 h hb => ⟨h.1.trans (hb.mono h.1.size), (hb.block _ (heap_size_lt h.2)).trans h.2⟩) (fun y h => h.1) ?_ ?_
            · rintro y ⟨⟨g0, g1⟩, g2⟩
              obtain ⟨pc0, pc1, pc2, pc3, pc4⟩ := ratrow2 g2
              refine ⟨put2 y bx x1 x2, ?_, ?_⟩
              · unfold put2
                go_simp
              · exact ⟨(g0.setCell (p := ⟨bx, 0, none⟩) hbx _).setCell (p := ⟨bx, 1, none⟩) hbx _, put2_row g2 _ _⟩
            simp only [Act.put, List.getElem_toArray, List.getElem_cons_zero, List.getElem_cons_succ]
            refine run_quiet (i := 15) (.bool is) (by kernel_rfl) rfl rfl (fun y _ => by go_simp) ?_
            simp only [Act.put, List.getElem_toArray, List.getElem_cons_zero, List.getElem_cons_succ, List.setIfInBounds_toArray, List.set_cons_zero, List.set_cons_succ]
            refine run_quiet (i := 16) (.bool true) (by kernel_rfl) rfl rfl (fun y _ => by go_simp) ?_
            simp only [Act.put, List.getElem_toArray, List.getElem_cons_zero, List.getElem_cons_succ, List.setIfInBounds_toArray, List.set_cons_zero, List.set_cons_succ]
            refine ⟨by kernel_rfl, fun y hy => ?_⟩
            obtain ⟨g0, g1⟩ := hy
            go_wp2_with fail
            go_meet
            exact ⟨⟨bx, rfl, g1⟩, rfl, rfl, g0⟩
          · skip
            simp only [Act.put, List.setIfInBounds_toArray, List.set_cons_zero, List.set_cons_succ]
            refine run_take (i := 10) (.agg #[.int .i64 x1, .int .i64 x2]) rfl (by kernel_rfl) (by kernel_rfl) (by kernel_rfl) rfl (fun y h => h.1.1) (fun y _ => by go_simp) ?_
            simp only [Act.put, List.getElem_toArray, List.getElem_cons_zero, List.getElem_cons_succ, List.setIfInBounds_toArray, List.set_cons_zero, List.set_cons_succ]
            refine run_take (i := 11) (.bool is) rfl (by kernel_rfl) (by kernel_rfl) (by kernel_rfl) rfl (fun y h => h.1.1) (fun y _ => by go_simp) ?_
            simp only [Act.put, List.getElem_toArray, List.getElem_cons_zero, List.getElem_cons_succ, List.setIfInBounds_toArray, List.set_cons_zero, List.set_cons_succ]
            refine run_take (i := 12) (.bool true) rfl (by kernel_rfl) (by kernel_rfl) (by kernel_rfl) rfl (fun y h => h.1.1) (fun y _ => by go_simp) ?_
            simp only [Act.put, List.getElem_toArray, List.getElem_cons_zero, List.getElem_cons_succ, List.setIfInBounds_toArray, List.set_cons_zero, List.set_cons_succ]
            refine run_store (i := 14) (fun y => Below V.heap.size V y ∧ y.heap[bx]? = some (.cells #[.int .i64 x1, .int .i64 x2] 29 (0, 0))) (by kernel_rfl) rfl rfl (fun y y1 h hb => ⟨h.1.trans (hb.mono h.1.size), (hb.block _ (heap_size_lt h.2)).trans h.2⟩) (fun y h => h.1) ?_ ?_
            · rintro y ⟨⟨g0, g1⟩, g2⟩
              obtain ⟨pc0, pc1, pc2, pc3, pc4⟩ := ratrow2 g2
              refine ⟨put2 y bx x1 x2, ?_, ?_⟩
              · unfold put2
                go_simp
              · exact ⟨(g0.setCell (p := ⟨bx, 0, none⟩) hbx _).setCell (p := ⟨bx, 1, none⟩) hbx _, put2_row g2 _ _⟩
            simp only [Act.put, List.getElem_toArray, List.getElem_cons_zero, List.getElem_cons_succ]
            refine run_quiet (i := 15) (.bool is) (by kernel_rfl) rfl rfl (fun y _ => by go_simp) ?_
            simp only [Act.put, List.getElem_toArray, List.getElem_cons_zero, List.getElem_cons_succ, List.setIfInBounds_toArray, List.set_cons_zero, List.set_cons_succ]
            refine run_quiet (i := 16) (.bool true) (by kernel_rfl) rfl rfl (fun y _ => by go_simp) ?_
            simp only [Act.put, List.getElem_toArray, List.getElem_cons_zero, List.getElem_cons_succ, List.setIfInBounds_toArray, List.set_cons_zero, List.set_cons_succ]
            refine ⟨by kernel_rfl, fun y hy => ?_⟩
            obtain ⟨g0, g1⟩ := hy
            go_wp2_with fail
            go_meet
            exact ⟨⟨bx, rfl, g1⟩, rfl, rfl, g0⟩
        · skip
          refine atX_upd (fun v y => ∃ d7, v = sl d7 1 1 ∧ d7 ≠ b1 ∧ (Below V.heap.size V y ∧ OwnL V.heap.size y b1 ∧ RowK k2 y d7)) (fun _ => fun q => q = b1) rfl rfl ?_ ?_ ?_ ?_ ?_
          · rintro v y y1 ⟨d7, e, hp0, ⟨h0, h1, h2⟩⟩ hb
            exact ⟨d7, e, hp0, h0.trans (hb.mono h0.size), OwnL.st _ _ h1 hb, RowK.st _ _ h2 hb⟩
          · rintro v y ⟨d7, e, hp0, ⟨h0, h1, h2⟩⟩
            exact h0
          · rintro v y ⟨d7, e, hp0, ⟨h0, h1, h2⟩⟩ q hq
            have := h1.lt.2
            omega
          · rintro y ⟨g0, g1⟩
            refine ⟨sl y.heap.size 1 1, y.alloc (.cells #[.int .i64 k2.p, .int .i64 k2.l0, .int .i64 k2.l1, .int .i64 k2.c0, .int .i64 k2.c1] 68), by go_simp, ⟨y.heap.size, rfl, Nat.ne_of_gt g1.lt.2, g0.alloc g0.size _, OwnL.st _ _ g1 ((Below.refl _ y).alloc (Nat.le_refl _) _), World.alloc_heap_new y _⟩, fun q zz _ hz => alloc_block y _ hz, fun q hq => .inl hq⟩
          rintro v ⟨_, d7, rfl, hp0, -⟩
          refine runX_mono _ _ _ (fun y => Below V.heap.size V y ∧ OwnL V.heap.size y b1 ∧ RowK k2 y d7) _ (fun q => q = b1) _ ?_ ?_ ?_ ?_
          · rintro y ⟨d7', e, _, h⟩
            have e2 := (sl_inj e).1
            subst e2
            exact h
          · intro q hq
            exact hq
          · intro q hq
            exact hq
          simp only [Act.put, List.getElem_toArray, List.getElem_cons_zero, List.getElem_cons_succ, List.setIfInBounds_toArray, List.set_cons_zero, List.set_cons_succ]
          refine runX_each [2] (by kernel_rfl) (by kernel_rfl) (by kernel_rfl) (by decide) ?_
          intro i hi
          simp only [List.mem_cons, List.not_mem_nil, or_false] at hi
          subst hi
          refine atX_upd (fun v y => ∃ g8 c9, v = sl g8 n c9 ∧ d7 ≠ g8 ∧ (Below V.heap.size V y ∧ OwnA V.heap.size n m y g8 c9 ∧ RowK k2 y d7)) (fun v q => ∃ g8 c9, v = sl g8 n c9 ∧ q = g8) rfl rfl ?_ ?_ ?_ ?_ ?_
          · rintro v y y1 ⟨g8, c9, e, hp0, ⟨h0, h1, h2⟩⟩ hb
            exact ⟨g8, c9, e, hp0, h0.trans (hb.mono h0.size), OwnA.st _ _ h1 hb, RowK.st _ _ h2 hb⟩
          · rintro v y ⟨g8, c9, e, hp0, ⟨h0, h1, h2⟩⟩
            exact h0
          · rintro v y ⟨g8, c9, e, hp0, ⟨h0, h1, h2⟩⟩ q ⟨g8', c9', e1, rfl⟩
            have e2 := (sl_inj (e.symm.trans e1)).1
            have := h1.lt.2
            omega
          · rintro y ⟨g0, g1, g2⟩
            obtain ⟨g, c', y', hr, a1, a2, a3, a4⟩ := append_list hi0 hz0 hz1 hz2 (n := n) (cap := cap) g0 rfl (HM.out.below g0) hn16 g1
            have hdg : d7 ≠ g := by
              rcases a4 with a4 | a4
              · rw [a4]
                exact hp0
              · have := heap_size_lt g2
                omega
            refine ⟨sl g n c', y', exec_append _ _ _ rfl _ _ rfl rfl hr, ⟨g, c', rfl, hdg, a2, a1, a3 _ _ hp0 g2⟩, fun q zz hq hz => a3 q zz hq hz, ?_⟩
            rintro q ⟨g'', c'', e1, rfl⟩
            have e2 := (sl_inj e1).1
            subst e2
            exact a4
          rintro v ⟨_, g8, c9, rfl, hp0, -⟩
          refine runX_mono _ _ _ (fun y => Below V.heap.size V y ∧ OwnA V.heap.size n m y g8 c9 ∧ RowK k2 y d7) _ (fun q => q = g8) _ ?_ ?_ ?_ ?_
          · rintro y ⟨g8', c9', e, _, h⟩
            obtain ⟨e2, -, e3⟩ := sl_inj e
            subst e2 e3
            exact h
          · intro q hq
            exact ⟨g8, c9, rfl, hq⟩
          · rintro q ⟨g8', c9', e, rfl⟩
            exact ((sl_inj e).1).symm
          simp only [Act.put, List.getElem_toArray, List.getElem_cons_zero, List.getElem_cons_succ, List.setIfInBounds_toArray, List.set_cons_zero, List.set_cons_succ]
          refine runX_each [5] (by kernel_rfl) (by kernel_rfl) (by kernel_rfl) (by decide) ?_
          intro i hi
          simp only [List.mem_cons, List.not_mem_nil, or_false] at hi
          subst hi
          refine atX_upd (fun v y => ∃ g10 c11, v = sl g10 (n + 1) c11 ∧ (Below V.heap.size V y ∧ OwnZ V.heap.size n m k2 y g10 c11)) (fun v q => ∃ g10 c11, v = sl g10 (n + 1) c11 ∧ q = g10) rfl rfl ?_ ?_ ?_ ?_ ?_
          · rintro v y y1 ⟨g10, c11, e, ⟨h0, h1⟩⟩ hb
            exact ⟨g10, c11, e, h0.trans (hb.mono h0.size), OwnZ.st _ _ h1 hb⟩
          · rintro v y ⟨g10, c11, e, ⟨h0, h1⟩⟩
            exact h0
          · rintro v y ⟨g10, c11, e, ⟨h0, h1⟩⟩ q ⟨g10', c11', e1, rfl⟩
            have e2 := (sl_inj (e.symm.trans e1)).1
            have := h1.lt.2
            omega
          · rintro y ⟨g0, g1, g2⟩
            obtain ⟨g, c', y', hr, a1, a2, a3, a4⟩ := append_one hi0 hz0 hz1 hz2 g0 rfl hn16 g1 g2
            refine ⟨sl g (n + 1) c', y', exec_append _ _ _ rfl _ _ rfl rfl hr, ⟨g, c', rfl, a2, a1⟩, fun q zz hq hz => a3 q zz hq hz, ?_⟩
            rintro q ⟨g'', c'', e1, rfl⟩
            have e2 := (sl_inj e1).1
            subst e2
            exact a4
          rintro v ⟨_, g10, c11, rfl, -⟩
          refine runX_mono _ _ _ (fun y => Below V.heap.size V y ∧ OwnZ V.heap.size n m k2 y g10 c11) _ (fun q => q = g10) _ ?_ ?_ ?_ ?_
          · rintro y ⟨g10', c11', e, h⟩
            obtain ⟨e2, -, e3⟩ := sl_inj e
            subst e2 e3
            exact h
          · intro q hq
            exact ⟨g10, c11, rfl, hq⟩
          · rintro q ⟨g10', c11', e, rfl⟩
            exact ((sl_inj e).1).symm
          simp only [Act.put, List.getElem_toArray, List.getElem_cons_zero, List.getElem_cons_succ, List.setIfInBounds_toArray, List.set_cons_zero, List.set_cons_succ]
          refine runX_each [8] (by kernel_rfl) (by kernel_rfl) (by kernel_rfl) (by decide) ?_
          intro i hi
          simp only [List.mem_cons, List.not_mem_nil, or_false] at hi
          subst hi
          refine atX_quiet (.tuple #[.agg #[.int .i64 x1, .int .i64 x2], .bool is, .bool true]) rfl (quiet_of_walk rfl rfl (by simp) (fun y hy K1 hK1 => ?_)) ?_
          · obtain ⟨g0, g1⟩ := hy
            have HM3 := Lib.hid (snoc_of_own g1).1
            simp only [List.getElem_toArray, List.getElem_cons_zero, List.getElem_cons_succ]
            go_big_quiet_step ((with_reducible refine calls_later (KL2.out _ g10 c11 (g0.trans ((Later.h _).mono g0.size)) (HM3.out.below (Later.h _)))))
            exact wpQuiet_nil hK1
          simp only [Act.put, List.getElem_toArray, List.getElem_cons_zero, List.getElem_cons_succ, List.setIfInBounds_toArray, List.set_cons_zero, List.set_cons_succ]
          refine runX_each [9] (by kernel_rfl) (by kernel_rfl) (by kernel_rfl) (by decide) ?_
          intro i hi
          simp only [List.mem_cons, List.not_mem_nil, or_false] at hi
          subst hi
          refine atX_quiet (.tuple #[.agg #[.int .i64 x1, .int .i64 x2], .bool is, .bool true]) rfl (quiet_read rfl (fun y _ => by go_simp)) ?_
          simp only [Act.put, List.getElem_toArray, List.getElem_cons_zero, List.getElem_cons_succ, List.setIfInBounds_toArray, List.set_cons_zero, List.set_cons_succ]
          refine ⟨?_, fun bx hbx _ => ?_⟩
          · skip
            change Run _ _ _ _ _ 7 _ _ _
            refine run_take (i := 10) (.agg #[.int .i64 x1, .int .i64 x2]) rfl (by kernel_rfl) (by kernel_rfl) (by kernel_rfl) rfl (fun y h => h.1) (fun y _ => by go_simp) ?_
            simp only [Act.put, List.getElem_toArray, List.getElem_cons_zero, List.getElem_cons_succ, List.setIfInBounds_toArray, List.set_cons_zero, List.set_cons_succ]
            refine run_take (i := 11) (.bool is) rfl (by kernel_rfl) (by kernel_rfl) (by kernel_rfl) rfl (fun y h => h.1) (fun y _ => by go_simp) ?_
            simp only [Act.put, List.getElem_toArray, List.getElem_cons_zero, List.getElem_cons_succ, List.setIfInBounds_toArray, List.set_cons_zero, List.set_cons_succ]
            refine run_take (i := 12) (.bool true) rfl (by kernel_rfl) (by kernel_rfl) (by kernel_rfl) rfl (fun y h => h.1) (fun y _ => by go_simp) ?_
            simp only [Act.put, List.getElem_toArray, List.getElem_cons_zero, List.getElem_cons_succ, List.setIfInBounds_toArray, List.set_cons_zero, List.set_cons_succ]
            refine run_alloc (w0 := V) (i := 13) (t := 25) (z := .cells #[.int .i64 0, .int .i64 0] 29 (0, 0)) (by kernel_rfl) rfl rfl rfl (fun a w => by go_simp) (fun y h => h.1.size) ?_
            intro bx hbx
            simp only [Act.put, List.setIfInBounds_toArray, List.set_cons_zero, List.set_cons_succ]
            refine run_store (i := 14) (fun y => Below V.heap.size V y ∧ y.heap[bx]? = some (.cells #[.int .i64 x1, .int .i64 x2] 29 (0, 0))) (by kernel_rfl) rfl rfl (fun y y1 h hb => ⟨h.1.trans (hb.mono h.1.size), (hb.block _ (heap_size_lt h.2)).trans h.2⟩) (fun y h => h.1) ?_ ?_
            · rintro y ⟨⟨g0, g1⟩, g2⟩
              obtain ⟨pc0, pc1, pc2, pc3, pc4⟩ := ratrow2 g2
              refine ⟨put2 y bx x1 x2, ?_, ?_⟩
              · unfold put2
                go_simp
              · exact ⟨(g0.setCell (p := ⟨bx, 0, none⟩) hbx _).setCell (p := ⟨bx, 1, none⟩) hbx _, put2_row g2 _ _⟩
            simp only [Act.put, List.getElem_toArray, List.getElem_cons_zero, List.getElem_cons_succ]
            refine run_quiet (i := 15) (.bool is) (by kernel_rfl) rfl rfl (fun y _ => by go_simp) ?_
            simp only [Act.put, List.getElem_toArray, List.getElem_cons_zero, List.getElem_cons_succ, List.setIfInBounds_toArray, List.set_cons_zero, List.set_cons_succ]
            refine run_quiet (i := 16) (.bool true) (by kernel_rfl) rfl rfl (fun y _ => by go_simp) ?_
            simp only [Act.put, List.getElem_toArray, List.getElem_cons_zero, List.getElem_cons_succ, List.setIfInBounds_toArray, List.set_cons_zero, List.set_cons_succ]
            refine ⟨by kernel_rfl, fun y hy => ?_⟩
            obtain ⟨g0, g1⟩ := hy
            go_wp2_with fail
            go_meet
            exact ⟨⟨bx, rfl, g1⟩, rfl, rfl, g0⟩
          · skip
            simp only [Act.put, List.setIfInBounds_toArray, List.set_cons_zero, List.set_cons_succ]
            refine run_take (i := 10) (.agg #[.int .i64 x1, .int .i64 x2]) rfl (by kernel_rfl) (by kernel_rfl) (by kernel_rfl) rfl (fun y h => h.1.1) (fun y _ => by go_simp) ?_
            simp only [Act.put, List.getElem_toArray, List.getElem_cons_zero, List.getElem_cons_succ, List.setIfInBounds_toArray, List.set_cons_zero, List.set_cons_succ]
            refine run_take (i := 11) (.bool is) rfl (by kernel_rfl) (by kernel_rfl) (by kernel_rfl) rfl (fun y h => h.1.1) (fun y _ => by go_simp) ?_
            simp only [Act.put, List.getElem_toArray, List.getElem_cons_zero, List.getElem_cons_succ, List.setIfInBounds_toArray, List.set_cons_zero, List.set_cons_succ]
            refine run_take (i := 12) (.bool true) rfl (by kernel_rfl) (by kernel_rfl) (by kernel_rfl) rfl (fun y h => h.1.1) (fun y _ => by go_simp) ?_
            simp only [Act.put, List.getElem_toArray, List.getElem_cons_zero, List.getElem_cons_succ, List.setIfInBounds_toArray, List.set_cons_zero, List.set_cons_succ]
            refine run_store (i := 14) (fun y => Below V.heap.size V y ∧ y.heap[bx]? = some (.cells #[.int .i64 x1, .int .i64 x2] 29 (0, 0))) (by kernel_rfl) rfl rfl (fun y y1 h hb => ⟨h.1.trans (hb.mono h.1.size), (hb.block _ (heap_size_lt h.2)).trans h.2⟩) (fun y h => h.1) ?_ ?_
            · rintro y ⟨⟨g0, g1⟩, g2⟩
              obtain ⟨pc0, pc1, pc2, pc3, pc4⟩ := ratrow2 g2
              refine ⟨put2 y bx x1 x2, ?_, ?_⟩
              · unfold put2
                go_simp
              · exact ⟨(g0.setCell (p := ⟨bx, 0, none⟩) hbx _).setCell (p := ⟨bx, 1, none⟩) hbx _, put2_row g2 _ _⟩
            simp only [Act.put, List.getElem_toArray, List.getElem_cons_zero, List.getElem_cons_succ]
            refine run_quiet (i := 15) (.bool is) (by kernel_rfl) rfl rfl (fun y _ => by go_simp) ?_
            simp only [Act.put, List.getElem_toArray, List.getElem_cons_zero, List.getElem_cons_succ, List.setIfInBounds_toArray, List.set_cons_zero, List.set_cons_succ]
            refine run_quiet (i := 16) (.bool true) (by kernel_rfl) rfl rfl (fun y _ => by go_simp) ?_
            simp only [Act.put, List.getElem_toArray, List.getElem_cons_zero, List.getElem_cons_succ, List.setIfInBounds_toArray, List.set_cons_zero, List.set_cons_succ]
            refine ⟨by kernel_rfl, fun y hy => ?_⟩
            obtain ⟨g0, g1⟩ := hy
            go_wp2_with fail
            go_meet
            exact ⟨⟨bx, rfl, g1⟩, rfl, rfl, g0⟩
      · skip
        refine atX_upd (fun v y => ∃ d12, v = sl d12 1 1 ∧ (Below V.heap.size V y ∧ RowK k2 y d12)) (fun _ => fun _ => False) rfl rfl ?_ ?_ ?_ ?_ ?_
        · rintro v y y1 ⟨d12, e, ⟨h0, h2⟩⟩ hb
          exact ⟨d12, e, h0.trans (hb.mono h0.size), RowK.st _ _ h2 hb⟩
        · rintro v y ⟨d12, e, ⟨h0, h2⟩⟩
          exact h0
        · rintro v y _ q hq
          exact hq.elim
        · rintro y g0
          refine ⟨sl y.heap.size 1 1, y.alloc (.cells #[.int .i64 k2.p, .int .i64 k2.l0, .int .i64 k2.l1, .int .i64 k2.c0, .int .i64 k2.c1] 68), by go_simp, ⟨y.heap.size, rfl, g0.alloc g0.size _, World.alloc_heap_new y _⟩, fun q zz _ hz => alloc_block y _ hz, fun q hq => .inl hq⟩
        rintro v ⟨_, d12, rfl, -⟩
        refine runX_mono _ _ _ (fun y => Below V.heap.size V y ∧ RowK k2 y d12) _ (fun _ => False) _ ?_ ?_ ?_ ?_
        · rintro y ⟨d12', e, h⟩
          have e2 := (sl_inj e).1
          subst e2
          exact h
        · intro q hq
          exact hq
        · intro q hq
          exact hq
        simp only [Act.put, List.getElem_toArray, List.getElem_cons_zero, List.getElem_cons_succ, List.setIfInBounds_toArray, List.set_cons_zero, List.set_cons_succ]
        refine runX_each [0] (by kernel_rfl) (by kernel_rfl) (by kernel_rfl) (by decide) ?_
        intro i hi
        simp only [List.mem_cons, List.not_mem_nil, or_false] at hi
        subst hi
        refine atX_upd (fun v y => ∃ b13, v = sl b13 0 0 ∧ d12 ≠ b13 ∧ (Below V.heap.size V y ∧ OwnL V.heap.size y b13 ∧ RowK k2 y d12)) (fun v q => ∃ b13, v = sl b13 0 0 ∧ q = b13) rfl rfl ?_ ?_ ?_ ?_ ?_
        · rintro v y y1 ⟨b13, e, hp0, ⟨h0, h1, h2⟩⟩ hb
          exact ⟨b13, e, hp0, h0.trans (hb.mono h0.size), OwnL.st _ _ h1 hb, RowK.st _ _ h2 hb⟩
        · rintro v y ⟨b13, e, hp0, ⟨h0, h1, h2⟩⟩
          exact h0
        · rintro v y ⟨b13, e, hp0, ⟨h0, h1, h2⟩⟩ q ⟨b13', e1, rfl⟩
          have e2 := (sl_inj (e.symm.trans e1)).1
          have := h1.lt.2
          omega
        · rintro y ⟨g0, g2⟩
          refine ⟨sl y.heap.size 0 0, y.alloc (.cells #[] 68), by go_simp, ⟨y.heap.size, rfl, Nat.ne_of_lt (heap_size_lt g2), g0.alloc g0.size _, lit_owns g0.size, RowK.st _ _ g2 ((Below.refl _ y).alloc (Nat.le_refl _) _)⟩, fun q zz _ hz => alloc_block y _ hz, ?_⟩
          rintro q ⟨b', e1, rfl⟩
          right
          have := (sl_inj e1).1
          omega
        rintro v ⟨_, b13, rfl, hp0, -⟩
        refine runX_mono _ _ _ (fun y => Below V.heap.size V y ∧ OwnL V.heap.size y b13 ∧ RowK k2 y d12) _ (fun q => q = b13) _ ?_ ?_ ?_ ?_
        · rintro y ⟨b13', e, _, h⟩
          have e2 := (sl_inj e).1
          subst e2
          exact h
        · intro q hq
          exact ⟨b13, rfl, hq⟩
        · rintro q ⟨b13', e, rfl⟩
          exact ((sl_inj e).1).symm
        simp only [Act.put, List.getElem_toArray, List.getElem_cons_zero, List.setIfInBounds_toArray, List.set_cons_zero, List.set_cons_succ]
        refine runX_each [2] (by kernel_rfl) (by kernel_rfl) (by kernel_rfl) (by decide) ?_
        intro i hi
        simp only [List.mem_cons, List.not_mem_nil, or_false] at hi
        subst hi
        refine atX_upd (fun v y => ∃ g14 c15, v = sl g14 n c15 ∧ d12 ≠ g14 ∧ (Below V.heap.size V y ∧ OwnA V.heap.size n m y g14 c15 ∧ RowK k2 y d12)) (fun v q => ∃ g14 c15, v = sl g14 n c15 ∧ q = g14) rfl rfl ?_ ?_ ?_ ?_ ?_
        · rintro v y y1 ⟨g14, c15, e, hp0, ⟨h0, h1, h2⟩⟩ hb
          exact ⟨g14, c15, e, hp0, h0.trans (hb.mono h0.size), OwnA.st _ _ h1 hb, RowK.st _ _ h2 hb⟩
        · rintro v y ⟨g14, c15, e, hp0, ⟨h0, h1, h2⟩⟩
          exact h0
        · rintro v y ⟨g14, c15, e, hp0, ⟨h0, h1, h2⟩⟩ q ⟨g14', c15', e1, rfl⟩
          have e2 := (sl_inj (e.symm.trans e1)).1
          have := h1.lt.2
          omega
        · rintro y ⟨g0, g1, g2⟩
          obtain ⟨g, c', y', hr, a1, a2, a3, a4⟩ := append_list hi0 hz0 hz1 hz2 (n := n) (cap := cap) g0 rfl (HM.out.below g0) hn16 g1
          have hdg : d12 ≠ g := by
            rcases a4 with a4 | a4
            · rw [a4]
              exact hp0
            · have := heap_size_lt g2
              omega
          refine ⟨sl g n c', y', exec_append _ _ _ rfl _ _ rfl rfl hr, ⟨g, c', rfl, hdg, a2, a1, a3 _ _ hp0 g2⟩, fun q zz hq hz => a3 q zz hq hz, ?_⟩
          rintro q ⟨g'', c'', e1, rfl⟩
          have e2 := (sl_inj e1).1
          subst e2
          exact a4
        rintro v ⟨_, g14, c15, rfl, hp0, -⟩
        refine runX_mono _ _ _ (fun y => Below V.heap.size V y ∧ OwnA V.heap.size n m y g14 c15 ∧ RowK k2 y d12) _ (fun q => q = g14) _ ?_ ?_ ?_ ?_
        · rintro y ⟨g14', c15', e, _, h⟩
          obtain ⟨e2, -, e3⟩ := sl_inj e
          subst e2 e3
          exact h
        · intro q hq
          exact ⟨g14, c15, rfl, hq⟩
        · rintro q ⟨g14', c15', e, rfl⟩
          exact ((sl_inj e).1).symm
        simp only [Act.put, List.getElem_toArray, List.getElem_cons_zero, List.getElem_cons_succ, List.setIfInBounds_toArray, List.set_cons_zero, List.set_cons_succ]
        refine runX_each [5] (by kernel_rfl) (by kernel_rfl) (by kernel_rfl) (by decide) ?_
        intro i hi
        simp only [List.mem_cons, List.not_mem_nil, or_false] at hi
        subst hi
        refine atX_upd (fun v y => ∃ g16 c17, v = sl g16 (n + 1) c17 ∧ (Below V.heap.size V y ∧ OwnZ V.heap.size n m k2 y g16 c17)) (fun v q => ∃ g16 c17, v = sl g16 (n + 1) c17 ∧ q = g16) rfl rfl ?_ ?_ ?_ ?_ ?_
        · rintro v y y1 ⟨g16, c17, e, ⟨h0, h1⟩⟩ hb
          exact ⟨g16, c17, e, h0.trans (hb.mono h0.size), OwnZ.st _ _ h1 hb⟩
        · rintro v y ⟨g16, c17, e, ⟨h0, h1⟩⟩
          exact h0
        · rintro v y ⟨g16, c17, e, ⟨h0, h1⟩⟩ q ⟨g16', c17', e1, rfl⟩
          have e2 := (sl_inj (e.symm.trans e1)).1
          have := h1.lt.2
          omega
        · rintro y ⟨g0, g1, g2⟩
          obtain ⟨g, c', y', hr, a1, a2, a3, a4⟩ := append_one hi0 hz0 hz1 hz2 g0 rfl hn16 g1 g2
          refine ⟨sl g (n + 1) c', y', exec_append _ _ _ rfl _ _ rfl rfl hr, ⟨g, c', rfl, a2, a1⟩, fun q zz hq hz => a3 q zz hq hz, ?_⟩
          rintro q ⟨g'', c'', e1, rfl⟩
          have e2 := (sl_inj e1).1
          subst e2
          exact a4
        rintro v ⟨_, g16, c17, rfl, -⟩
        refine runX_mono _ _ _ (fun y => Below V.heap.size V y ∧ OwnZ V.heap.size n m k2 y g16 c17) _ (fun q => q = g16) _ ?_ ?_ ?_ ?_
        · rintro y ⟨g16', c17', e, h⟩
          obtain ⟨e2, -, e3⟩ := sl_inj e
          subst e2 e3
          exact h
        · intro q hq
          exact ⟨g16, c17, rfl, hq⟩
        · rintro q ⟨g16', c17', e, rfl⟩
          exact ((sl_inj e).1).symm
        simp only [Act.put, List.getElem_toArray, List.getElem_cons_zero, List.getElem_cons_succ, List.setIfInBounds_toArray, List.set_cons_zero, List.set_cons_succ]
        refine runX_each [8] (by kernel_rfl) (by kernel_rfl) (by kernel_rfl) (by decide) ?_
        intro i hi
        simp only [List.mem_cons, List.not_mem_nil, or_false] at hi
        subst hi
        refine atX_quiet (.tuple #[.agg #[.int .i64 x1, .int .i64 x2], .bool is, .bool true]) rfl (quiet_of_walk rfl rfl (by simp) (fun y hy K1 hK1 => ?_)) ?_
        · obtain ⟨g0, g1⟩ := hy
          have HM3 := Lib.hid (snoc_of_own g1).1
          simp only [List.getElem_toArray, List.getElem_cons_zero, List.getElem_cons_succ]
          go_big_quiet_step ((with_reducible refine calls_later (KL2.out _ g16 c17 (g0.trans ((Later.h _).mono g0.size)) (HM3.out.below (Later.h _)))))
          exact wpQuiet_nil hK1
        simp only [Act.put, List.getElem_toArray, List.getElem_cons_zero, List.getElem_cons_succ, List.setIfInBounds_toArray, List.set_cons_zero, List.set_cons_succ]
        refine runX_each [9] (by kernel_rfl) (by kernel_rfl) (by kernel_rfl) (by decide) ?_
        intro i hi
        simp only [List.mem_cons, List.not_mem_nil, or_false] at hi
        subst hi
        refine atX_quiet (.tuple #[.agg #[.int .i64 x1, .int .i64 x2], .bool is, .bool true]) rfl (quiet_read rfl (fun y _ => by go_simp)) ?_
        simp only [Act.put, List.getElem_toArray, List.getElem_cons_zero, List.getElem_cons_succ, List.setIfInBounds_toArray, List.set_cons_zero, List.set_cons_succ]
        refine ⟨?_, fun bx hbx _ => ?_⟩
        · skip
          change Run _ _ _ _ _ 7 _ _ _
          refine run_take (i := 10) (.agg #[.int .i64 x1, .int .i64 x2]) rfl (by kernel_rfl) (by kernel_rfl) (by kernel_rfl) rfl (fun y h => h.1) (fun y _ => by go_simp) ?_
          simp only [Act.put, List.getElem_toArray, List.getElem_cons_zero, List.getElem_cons_succ, List.setIfInBounds_toArray, List.set_cons_zero, List.set_cons_succ]
          refine run_take (i := 11) (.bool is) rfl (by kernel_rfl) (by kernel_rfl) (by kernel_rfl) rfl (fun y h => h.1) (fun y _ => by go_simp) ?_
          simp only [Act.put, List.getElem_toArray, List.getElem_cons_zero, List.getElem_cons_succ, List.setIfInBounds_toArray, List.set_cons_zero, List.set_cons_succ]
          refine run_take (i := 12) (.bool true) rfl (by kernel_rfl) (by kernel_rfl) (by kernel_rfl) rfl (fun y h => h.1) (fun y _ => by go_simp) ?_
          simp only [Act.put, List.getElem_toArray, List.getElem_cons_zero, List.getElem_cons_succ, List.setIfInBounds_toArray, List.set_cons_zero, List.set_cons_succ]
          refine run_alloc (w0 := V) (i := 13) (t := 25) (z := .cells #[.int .i64 0, .int .i64 0] 29 (0, 0)) (by kernel_rfl) rfl rfl rfl (fun a w => by go_simp) (fun y h => h.1.size) ?_
          intro bx hbx
          simp only [Act.put, List.setIfInBounds_toArray, List.set_cons_zero, List.set_cons_succ]
          refine run_store (i := 14) (fun y => Below V.heap.size V y ∧ y.heap[bx]? = some (.cells #[.int .i64 x1, .int .i64 x2] 29 (0, 0))) (by kernel_rfl) rfl rfl (fun y y1 h hb => ⟨h.1.trans (hb.mono h.1.size), (hb.block _ (heap_size_lt h.2)).trans h.2⟩) (fun y h => h.1) ?_ ?_
          · rintro y ⟨⟨g0, g1⟩, g2⟩
            obtain ⟨pc0, pc1, pc2, pc3, pc4⟩ := ratrow2 g2
            refine ⟨put2 y bx x1 x2, ?_, ?_⟩
            · unfold put2
              go_simp
            · exact ⟨(g0.setCell (p := ⟨bx, 0, none⟩) hbx _).setCell (p := ⟨bx, 1, none⟩) hbx _, put2_row g2 _ _⟩
          simp only [Act.put, List.getElem_toArray, List.getElem_cons_zero, List.getElem_cons_succ]
          refine run_quiet (i := 15) (.bool is) (by kernel_rfl) rfl rfl (fun y _ => by go_simp) ?_
          simp only [Act.put, List.getElem_toArray, List.getElem_cons_zero, List.getElem_cons_succ, List.setIfInBounds_toArray, List.set_cons_zero, List.set_cons_succ]
          refine run_quiet (i := 16) (.bool true) (by kernel_rfl) rfl rfl (fun y _ => by go_simp) ?_
          simp only [Act.put, List.getElem_toArray, List.getElem_cons_zero, List.getElem_cons_succ, List.setIfInBounds_toArray, List.set_cons_zero, List.set_cons_succ]
          refine ⟨by kernel_rfl, fun y hy => ?_⟩
          obtain ⟨g0, g1⟩ := hy
          go_wp2_with fail
          go_meet
          exact ⟨⟨bx, rfl, g1⟩, rfl, rfl, g0⟩
        · skip
          simp only [Act.put, List.setIfInBounds_toArray, List.set_cons_zero, List.set_cons_succ]
          refine run_take (i := 10) (.agg #[.int .i64 x1, .int .i64 x2]) rfl (by kernel_rfl) (by kernel_rfl) (by kernel_rfl) rfl (fun y h => h.1.1) (fun y _ => by go_simp) ?_
          simp only [Act.put, List.getElem_toArray, List.getElem_cons_zero, List.getElem_cons_succ, List.setIfInBounds_toArray, List.set_cons_zero, List.set_cons_succ]
          refine run_take (i := 11) (.bool is) rfl (by kernel_rfl) (by kernel_rfl) (by kernel_rfl) rfl (fun y h => h.1.1) (fun y _ => by go_simp) ?_
          simp only [Act.put, List.getElem_toArray, List.getElem_cons_zero, List.getElem_cons_succ, List.setIfInBounds_toArray, List.set_cons_zero, List.set_cons_succ]
          refine run_take (i := 12) (.bool true) rfl (by kernel_rfl) (by kernel_rfl) (by kernel_rfl) rfl (fun y h => h.1.1) (fun y _ => by go_simp) ?_
          simp only [Act.put, List.getElem_toArray, List.getElem_cons_zero, List.getElem_cons_succ, List.setIfInBounds_toArray, List.set_cons_zero, List.set_cons_succ]
          refine run_store (i := 14) (fun y => Below V.heap.size V y ∧ y.heap[bx]? = some (.cells #[.int .i64 x1, .int .i64 x2] 29 (0, 0))) (by kernel_rfl) rfl rfl (fun y y1 h hb => ⟨h.1.trans (hb.mono h.1.size), (hb.block _ (heap_size_lt h.2)).trans h.2⟩) (fun y h => h.1) ?_ ?_
          · rintro y ⟨⟨g0, g1⟩, g2⟩
            obtain ⟨pc0, pc1, pc2, pc3, pc4⟩ := ratrow2 g2
            refine ⟨put2 y bx x1 x2, ?_, ?_⟩
            · unfold put2
              go_simp
            · exact ⟨(g0.setCell (p := ⟨bx, 0, none⟩) hbx _).setCell (p := ⟨bx, 1, none⟩) hbx _, put2_row g2 _ _⟩
          simp only [Act.put, List.getElem_toArray, List.getElem_cons_zero, List.getElem_cons_succ]
          refine run_quiet (i := 15) (.bool is) (by kernel_rfl) rfl rfl (fun y _ => by go_simp) ?_
          simp only [Act.put, List.getElem_toArray, List.getElem_cons_zero, List.getElem_cons_succ, List.setIfInBounds_toArray, List.set_cons_zero, List.set_cons_succ]
          refine run_quiet (i := 16) (.bool true) (by kernel_rfl) rfl rfl (fun y _ => by go_simp) ?_
          simp only [Act.put, List.getElem_toArray, List.getElem_cons_zero, List.getElem_cons_succ, List.setIfInBounds_toArray, List.set_cons_zero, List.set_cons_succ]
          refine ⟨by kernel_rfl, fun y hy => ?_⟩
          obtain ⟨g0, g1⟩ := hy
          go_wp2_with fail
          go_meet
          exact ⟨⟨bx, rfl, g1⟩, rfl, rfl, g0⟩
    case rest =>
    obtain ⟨⟨bX, rfl, hrow⟩, rfl, rfl, hcb⟩ := hcut
    obtain ⟨wy, hww⟩ : ∃ x, x = wc := ⟨_, rfl⟩
    subst hww
    replace HM := Lib.hid (HM.out.below hcb)
    replace HT := Lib.hid (RowIs.below HT.out hcb)
    replace RA := Lib.hid (RowIs.below RA.out hcb)
    replace HK2 := Lib.hid (RowIs.below HK2.out hcb)
    replace hB := bup hB hcb
    have RX := Lib.hid hrow
    clear hrow hcb KL2
    have heq0 := fun (w : World) => eqRat x1 x2 w
    obtain ⟨v90, v91, _, _, v9z⟩ := ratrow2 RA.out
    obtain ⟨v100, v101, _, _, v10z⟩ := ratrow2 RX.out
    go_wp2_with fail
    refine (works_c _).mono ?_
    rintro e wz ⟨rfl, hbz⟩
    go_wp2
    go_ret
    exact ⟨rfl, bup hB hbz⟩
  case pos =>
    have hdx : decide (n + 1 ≤ 12 ∧ bothE (n + 1) (snocM n m k) l c = 0) = true := decide_eq_true ⟨by omega, hbx⟩
    obtain ⟨is2, y1, y2, hLy, hpy, himp⟩ := HLX.out hbx
    have Ly := Lib.hid hLy
    have Hpy := Lib.hid hpy
    clear hLy hpy
    cases is
    case false =>
      clear himp
      have hC11 := fine_c (some ⟨gx, 0, none⟩) (n + 1) cx (snocM n m k) l c wx HX.out
      rw [hdx] at hC11
      try dsimp only [re2, re3, proofV, zeroP] at hC11
      have C11 := Lib.hid hC11
      clear hC11
      obtain ⟨tc0, tc1, _, _, tz⟩ := ratrow2 HT.out
      go_wp2_with fail
      clear tc0 tc1 tz
      refine C11.out.mono ?_
      rintro e w12 ⟨rfl, hw13⟩
      clear C11
      replace HM := Lib.hid (HM.out.below hw13)
      replace HT := Lib.hid (RowIs.below HT.out hw13)
      replace HK := Lib.hid (RowIs.below HK.out hw13)
      replace RA := Lib.hid (RowIs.below RA.out hw13)
      replace HX := Lib.hid (HX.out.below hw13)
      replace hB := bup hB hw13
      have hC14 := lawLeast_c (some ⟨gx, 0, none⟩) (n + 1) cx (snocM n m k) l c sure is2 (y1, y2) w12 HX.out (by omega) Ly.out Hpy.out
      try dsimp only [re2, re3, proofV, zeroP] at hC14
      have C14 := Lib.hid hC14
      clear hC14
      obtain ⟨tc0, tc1, _, _, tz⟩ := ratrow2 HT.out
      go_wp2_with fail
      clear hw13 tc0 tc1 tz
      refine C14.out.mono ?_
      rintro e w15 ⟨rfl, hw16⟩
      clear C14
      replace HM := Lib.hid (HM.out.below hw16)
      replace HT := Lib.hid (RowIs.below HT.out hw16)
      replace HK := Lib.hid (RowIs.below HK.out hw16)
      replace RA := Lib.hid (RowIs.below RA.out hw16)
      replace HX := Lib.hid (HX.out.below hw16)
      replace hB := bup hB hw16
      simp only [leastV]
      obtain ⟨Y17, hY17⟩ : ∃ Y17, w15.alloc (.cells #[.int .i64 y1, .int .i64 y2] 29) = Y17 := ⟨_, rfl⟩
      have hy18 : Below w15.heap.size w15 Y17 := by rw [← hY17]; exact Below.alloc1 (Below.refl _ _) _ (Nat.le_refl _)
      replace HM := Lib.hid (HM.out.below hy18)
      replace HT := Lib.hid (RowIs.below HT.out hy18)
      replace HK := Lib.hid (RowIs.below HK.out hy18)
      replace RA := Lib.hid (RowIs.below RA.out hy18)
      replace HX := Lib.hid (HX.out.below hy18)
      replace hB := bup hB hy18
      have RB := Lib.hid (show RowIs Y17 w15.heap.size #[.int .i64 y1, .int .i64 y2] 29 by rw [← hY17]; exact heap_new_at _ _ _ rfl)
      obtain ⟨bRB, hbRB⟩ : ∃ bRB, w15.heap.size = bRB := ⟨_, rfl⟩
      rw [hbRB] at RB
      obtain ⟨_, _, he_, hmz, q0, q1, q2, q3, q4⟩ := Metals.at HM.out i hin
      cases he_
      have hqb := Hq.out
      have e0 : min (1000 : Int) (((m i).p + pr)) = k2.p := by rw [← Hk2.out]; rfl
      have e1 : min (1000 : Int) (((m i).l0 + le)) = k2.l0 := by rw [← Hk2.out]; rfl
      have e2 : min (1000 : Int) (((m i).l1 + le)) = k2.l1 := by rw [← Hk2.out]; rfl
      have e3 : max (0 : Int) (((m i).c0 - co)) = k2.c0 := by rw [← Hk2.out]; rfl
      have e4 : max (0 : Int) (((m i).c1 - co)) = k2.c1 := by rw [← Hk2.out]; rfl
      obtain ⟨Y, hY⟩ : ∃ Y, Y17.alloc (.cells #[.int .i64 (m i).p, .int .i64 (m i).l0, .int .i64 (m i).l1, .int .i64 (m i).c0, .int .i64 (m i).c1] 68) = Y := ⟨_, rfl⟩
      have hyY : Below Y17.heap.size Y17 Y := by rw [← hY]; exact Below.alloc1 (Below.refl _ _) _ (Nat.le_refl _)
      have rY : RowIs Y Y17.heap.size #[.int .i64 (m i).p, .int .i64 (m i).l0, .int .i64 (m i).l1, .int .i64 (m i).c0, .int .i64 (m i).c1] 68 := by rw [← hY]; exact heap_new_at _ _ _ rfl
      obtain ⟨⟨y0, y1, y2, y3, y4⟩, yz⟩ := row5 rY
      have yf0 : Y.frozen? ⟨Y17.heap.size, 0, none⟩ = false := RowIs.frozen rY 0
      have yf1 : Y.frozen? ⟨Y17.heap.size, 1, none⟩ = false := RowIs.frozen rY 1
      have yf2 : Y.frozen? ⟨Y17.heap.size, 2, none⟩ = false := RowIs.frozen rY 2
      have yf3 : Y.frozen? ⟨Y17.heap.size, 3, none⟩ = false := RowIs.frozen rY 3
      have yf4 : Y.frozen? ⟨Y17.heap.size, 4, none⟩ = false := RowIs.frozen rY 4
      obtain ⟨V, hV⟩ : ∃ V, ((((Y.setCell ⟨Y17.heap.size, 0, none⟩ (.int .i64 k2.p)).setCell ⟨Y17.heap.size, 1, none⟩ (.int .i64 k2.l0)).setCell ⟨Y17.heap.size, 2, none⟩ (.int .i64 k2.l1)).setCell ⟨Y17.heap.size, 3, none⟩ (.int .i64 k2.c0)).setCell ⟨Y17.heap.size, 4, none⟩ (.int .i64 k2.c1) = V := ⟨_, rfl⟩
      have rV : RowIs V Y17.heap.size #[.int .i64 k2.p, .int .i64 k2.l0, .int .i64 k2.l1, .int .i64 k2.c0, .int .i64 k2.c1] 68 := by rw [← hV]; simpa using ((((rY.set 0 (.int .i64 k2.p)).set 1 (.int .i64 k2.l0)).set 2 (.int .i64 k2.l1)).set 3 (.int .i64 k2.c0)).set 4 (.int .i64 k2.c1)
      have hbV : Below Y17.heap.size Y17 V := hyY.trans (by rw [← hV]; exact (((((Below.refl _ Y).setCell (p := ⟨Y17.heap.size, 0, none⟩) (Nat.le_refl _) _).setCell (p := ⟨Y17.heap.size, 1, none⟩) (Nat.le_refl _) _).setCell (p := ⟨Y17.heap.size, 2, none⟩) (Nat.le_refl _) _).setCell (p := ⟨Y17.heap.size, 3, none⟩) (Nat.le_refl _) _).setCell (p := ⟨Y17.heap.size, 4, none⟩) (Nat.le_refl _) _)
      clear HK HX RB
      replace HM := Lib.hid (HM.out.below hbV)
      replace HT := Lib.hid (RowIs.below HT.out hbV)
      replace RA := Lib.hid (RowIs.below RA.out hbV)
      replace hB := bup hB hbV
      have HK2 := Lib.hid rV
      go_wp2_with fail
      clear hw16 hbRB hY17 hy18
      clear q0 q1 q2 q3 q4 e0 e1 e2 e3 e4 y0 y1 y2 y3 y4 yf0 yf1 yf2 yf3 yf4 hY hV rY rV hyY hbV yz
      obtain ⟨bk, hbk⟩ : ∃ b, Y17.heap.size = b := ⟨_, rfl⟩
      rw [hbk] at HK2 ⊢
      clear hbk
      have KL2 := Lib.hid (fun (x : World) (g c' : Nat) (hx : Below V.heap.size V x) (hM : Metals x (some ⟨g, 0, none⟩) (n + 1) (snocM n m k2)) => by
        have h := lawLeast_c (some ⟨g, 0, none⟩) (n + 1) c' (snocM n m k2) l c sure false (x1, x2) x hM (by omega) HL2.out Hp1.out
        dsimp only [leastV] at h
        exact h)
      go_cut [25, 26, 19] from 125 to 137 (fun e f g wx => (∃ b, e = .pointer (some ⟨b, 0, none⟩) ∧ RowIs wx b #[.int .i64 x1, .int .i64 x2] 29) ∧ f = .bool false ∧ g = .bool true ∧ Below V.heap.size V wx)
      case first =>
        clear RA
        refine wp_region_run0 (by kernel_rfl) ?_
        change Run _ _ _ _ _ 17 _ _ _
        refine run_take (i := 1) (.slice (some ⟨ba, oa, none⟩) n cap) rfl (by kernel_rfl) (by kernel_rfl) (by kernel_rfl) rfl (fun y h => h) (fun y _ => by go_simp) ?_
        simp only [Act.put, List.getElem_toArray, List.getElem_cons_zero, List.getElem_cons_succ, List.setIfInBounds_toArray, List.set_cons_zero, List.set_cons_succ]
        refine run_take (i := 3) (.agg #[.int .i64 k2.p, .int .i64 k2.l0, .int .i64 k2.l1, .int .i64 k2.c0, .int .i64 k2.c1]) rfl (by kernel_rfl) (by kernel_rfl) (by kernel_rfl) rfl (fun y h => h) (fun y hy => by
          obtain ⟨⟨z0, z1, z2, z3, z4⟩, zz⟩ := row5 (RowIs.below HK2.out hy)
          go_simp) ?_
        simp only [Act.put, List.getElem_toArray, List.getElem_cons_zero, List.getElem_cons_succ, List.setIfInBounds_toArray, List.set_cons_zero, List.set_cons_succ]
        refine run_take (i := 6) (.agg #[.int .i64 l, .int .i64 c]) rfl (by kernel_rfl) (by kernel_rfl) (by kernel_rfl) rfl (fun y h => h) (fun y hy => by
          obtain ⟨z0, z1, _, _, zz⟩ := ratrow2 (RowIs.below HT.out hy)
          go_simp) ?_
        simp only [Act.put, List.getElem_toArray, List.getElem_cons_zero, List.getElem_cons_succ, List.setIfInBounds_toArray, List.set_cons_zero, List.set_cons_succ]
        refine run_take (i := 7) (.bool sure) rfl (by kernel_rfl) (by kernel_rfl) (by kernel_rfl) rfl (fun y h => h) (fun y _ => by go_simp) ?_
        simp only [Act.put, List.getElem_toArray, List.getElem_cons_zero, List.getElem_cons_succ, List.setIfInBounds_toArray, List.set_cons_zero, List.set_cons_succ]
        change Run _ _ _ _ _ (6 + 6 + 1) _ _ _
        refine runX_float (w0 := V) (x := 13) (c := 9) (tx := 25) (z := .cells #[.int .i64 0, .int .i64 0] 29 (0, 0)) (g := 6) rfl rfl rfl (fun a w => by go_simp) (Region.noSelect_spec (by kernel_rfl)) (by kernel_rfl) (by kernel_rfl) (by decide) (fun y h => h.size) 6 _ _ _ (fun _ => False) (by kernel_rfl) (fun y h => h) (fun y _ b hb => hb.elim) ?_
        refine runX_each [0, 4] (by kernel_rfl) (by kernel_rfl) (by kernel_rfl) (by decide) ?_
        intro i hi
        simp only [List.mem_cons, List.not_mem_nil, or_false] at hi
        rcases hi with rfl | rfl
        · skip
          refine atX_upd (fun v y => ∃ b1, v = sl b1 0 0 ∧ (Below V.heap.size V y ∧ OwnL V.heap.size y b1)) (fun v q => ∃ b1, v = sl b1 0 0 ∧ q = b1) rfl rfl ?_ ?_ ?_ ?_ ?_
          · rintro v y y1 ⟨b1, e, ⟨h0, h1⟩⟩ hb
            exact ⟨b1, e, h0.trans (hb.mono h0.size), OwnL.st _ _ h1 hb⟩
          · rintro v y ⟨b1, e, ⟨h0, h1⟩⟩
            exact h0
          · rintro v y ⟨b1, e, ⟨h0, h1⟩⟩ q ⟨b1', e1, rfl⟩
            have e2 := (sl_inj (e.symm.trans e1)).1
            have := h1.lt.2
            omega
          · rintro y g0
            refine ⟨sl y.heap.size 0 0, y.alloc (.cells #[] 68), by go_simp, ⟨y.heap.size, rfl, g0.alloc g0.size _, lit_owns g0.size⟩, fun q zz _ hz => alloc_block y _ hz, ?_⟩
            rintro q ⟨b', e1, rfl⟩
            right
            have := (sl_inj e1).1
            omega
          rintro v ⟨_, b1, rfl, -⟩
          refine runX_mono _ _ _ (fun y => Below V.heap.size V y ∧ OwnL V.heap.size y b1) _ (fun q => q = b1) _ ?_ ?_ ?_ ?_
          · rintro y ⟨b1', e, h⟩
            have e2 := (sl_inj e).1
            subst e2
            exact h
          · intro q hq
            exact ⟨b1, rfl, hq⟩
          · rintro q ⟨b1', e, rfl⟩
            exact ((sl_inj e).1).symm
          simp only [Act.put, List.getElem_toArray, List.getElem_cons_zero, List.setIfInBounds_toArray, List.set_cons_zero, List.set_cons_succ]
          refine runX_each [2, 4] (by kernel_rfl) (by kernel_rfl) (by kernel_rfl) (by decide) ?_
          intro i hi
          simp only [List.mem_cons, List.not_mem_nil, or_false] at hi
          rcases hi with rfl | rfl
          · skip
            refine atX_upd (fun v y => ∃ g2 c3, v = sl g2 n c3 ∧ (Below V.heap.size V y ∧ OwnA V.heap.size n m y g2 c3)) (fun v q => ∃ g2 c3, v = sl g2 n c3 ∧ q = g2) rfl rfl ?_ ?_ ?_ ?_ ?_
            · rintro v y y1 ⟨g2, c3, e, ⟨h0, h1⟩⟩ hb
              exact ⟨g2, c3, e, h0.trans (hb.mono h0.size), OwnA.st _ _ h1 hb⟩
            · rintro v y ⟨g2, c3, e, ⟨h0, h1⟩⟩
              exact h0
            · rintro v y ⟨g2, c3, e, ⟨h0, h1⟩⟩ q ⟨g2', c3', e1, rfl⟩
              have e2 := (sl_inj (e.symm.trans e1)).1
              have := h1.lt.2
              omega
            · rintro y ⟨g0, g1⟩
              obtain ⟨g, c', y', hr, a1, a2, a3, a4⟩ := append_list hi0 hz0 hz1 hz2 (n := n) (cap := cap) g0 rfl (HM.out.below g0) hn16 g1
              refine ⟨sl g n c', y', exec_append _ _ _ rfl _ _ rfl rfl hr, ⟨g, c', rfl, a2, a1⟩, fun q zz hq hz => a3 q zz hq hz, ?_⟩
              rintro q ⟨g'', c'', e1, rfl⟩
              have e2 := (sl_inj e1).1
              subst e2
              exact a4
            rintro v ⟨_, g2, c3, rfl, -⟩
            refine runX_mono _ _ _ (fun y => Below V.heap.size V y ∧ OwnA V.heap.size n m y g2 c3) _ (fun q => q = g2) _ ?_ ?_ ?_ ?_
            · rintro y ⟨g2', c3', e, h⟩
              obtain ⟨e2, -, e3⟩ := sl_inj e
              subst e2 e3
              exact h
            · intro q hq
              exact ⟨g2, c3, rfl, hq⟩
            · rintro q ⟨g2', c3', e, rfl⟩
              exact ((sl_inj e).1).symm
            simp only [Act.put, List.getElem_toArray, List.getElem_cons_zero, List.getElem_cons_succ, List.setIfInBounds_toArray, List.set_cons_zero, List.set_cons_succ]
            refine runX_each [4] (by kernel_rfl) (by kernel_rfl) (by kernel_rfl) (by decide) ?_
            intro i hi
            simp only [List.mem_cons, List.not_mem_nil, or_false] at hi
            subst hi
            refine atX_upd (fun v y => ∃ d4, v = sl d4 1 1 ∧ d4 ≠ g2 ∧ (Below V.heap.size V y ∧ OwnA V.heap.size n m y g2 c3 ∧ RowK k2 y d4)) (fun _ => fun q => q = g2) rfl rfl ?_ ?_ ?_ ?_ ?_
            · rintro v y y1 ⟨d4, e, hp0, ⟨h0, h1, h2⟩⟩ hb
              exact ⟨d4, e, hp0, h0.trans (hb.mono h0.size), OwnA.st _ _ h1 hb, RowK.st _ _ h2 hb⟩
            · rintro v y ⟨d4, e, hp0, ⟨h0, h1, h2⟩⟩
              exact h0
            · rintro v y ⟨d4, e, hp0, ⟨h0, h1, h2⟩⟩ q hq
              have := h1.lt.2
              omega
            · rintro y ⟨g0, g1⟩
              refine ⟨sl y.heap.size 1 1, y.alloc (.cells #[.int .i64 k2.p, .int .i64 k2.l0, .int .i64 k2.l1, .int .i64 k2.c0, .int .i64 k2.c1] 68), by go_simp, ⟨y.heap.size, rfl, Nat.ne_of_gt g1.lt.2, g0.alloc g0.size _, OwnA.st _ _ g1 ((Below.refl _ y).alloc (Nat.le_refl _) _), World.alloc_heap_new y _⟩, fun q zz _ hz => alloc_block y _ hz, fun q hq => .inl hq⟩
            rintro v ⟨_, d4, rfl, hp0, -⟩
            refine runX_mono _ _ _ (fun y => Below V.heap.size V y ∧ OwnA V.heap.size n m y g2 c3 ∧ RowK k2 y d4) _ (fun q => q = g2) _ ?_ ?_ ?_ ?_
            · rintro y ⟨d4', e, _, h⟩
              have e2 := (sl_inj e).1
              subst e2
              exact h
            · intro q hq
              exact hq
            · intro q hq
              exact hq
            simp only [Act.put, List.getElem_toArray, List.getElem_cons_zero, List.getElem_cons_succ, List.setIfInBounds_toArray, List.set_cons_zero, List.set_cons_succ]
            refine runX_each [5] (by kernel_rfl) (by kernel_rfl) (by kernel_rfl) (by decide) ?_
            intro i hi
            simp only [List.mem_cons, List.not_mem_nil, or_false] at hi
            subst hi
            refine atX_upd (fun v y => ∃ g5 c6, v = sl g5 (n + 1) c6 ∧ (Below V.heap.size V y ∧ OwnZ V.heap.size n m k2 y g5 c6)) (fun v q => ∃ g5 c6, v = sl g5 (n + 1) c6 ∧ q = g5) rfl rfl ?_ ?_ ?_ ?_ ?_
            · rintro v y y1 ⟨g5, c6, e, ⟨h0, h1⟩⟩ hb
              exact ⟨g5, c6, e, h0.trans (hb.mono h0.size), OwnZ.st _ _ h1 hb⟩
            · rintro v y ⟨g5, c6, e, ⟨h0, h1⟩⟩
              exact h0
            · rintro v y ⟨g5, c6, e, ⟨h0, h1⟩⟩ q ⟨g5', c6', e1, rfl⟩
              have e2 := (sl_inj (e.symm.trans e1)).1
              have := h1.lt.2
              omega
            · rintro y ⟨g0, g1, g2⟩
              obtain ⟨g, c', y', hr, a1, a2, a3, a4⟩ := append_one hi0 hz0 hz1 hz2 g0 rfl hn16 g1 g2
              refine ⟨sl g (n + 1) c', y', exec_append _ _ _ rfl _ _ rfl rfl hr, ⟨g, c', rfl, a2, a1⟩, fun q zz hq hz => a3 q zz hq hz, ?_⟩
              rintro q ⟨g'', c'', e1, rfl⟩
              have e2 := (sl_inj e1).1
              subst e2
              exact a4
            rintro v ⟨_, g5, c6, rfl, -⟩
            refine runX_mono _ _ _ (fun y => Below V.heap.size V y ∧ OwnZ V.heap.size n m k2 y g5 c6) _ (fun q => q = g5) _ ?_ ?_ ?_ ?_
            · rintro y ⟨g5', c6', e, h⟩
              obtain ⟨e2, -, e3⟩ := sl_inj e
              subst e2 e3
              exact h
            · intro q hq
              exact ⟨g5, c6, rfl, hq⟩
            · rintro q ⟨g5', c6', e, rfl⟩
              exact ((sl_inj e).1).symm
            simp only [Act.put, List.getElem_toArray, List.getElem_cons_zero, List.getElem_cons_succ, List.setIfInBounds_toArray, List.set_cons_zero, List.set_cons_succ]
            refine runX_each [8] (by kernel_rfl) (by kernel_rfl) (by kernel_rfl) (by decide) ?_
            intro i hi
            simp only [List.mem_cons, List.not_mem_nil, or_false] at hi
            subst hi
            refine atX_quiet (.tuple #[.agg #[.int .i64 x1, .int .i64 x2], .bool false, .bool true]) rfl (quiet_of_walk rfl rfl (by simp) (fun y hy K1 hK1 => ?_)) ?_
            · obtain ⟨g0, g1⟩ := hy
              have HM3 := Lib.hid (snoc_of_own g1).1
              simp only [List.getElem_toArray, List.getElem_cons_zero, List.getElem_cons_succ]
              go_big_quiet_step ((with_reducible refine calls_later (KL2.out _ g5 c6 (g0.trans ((Later.h _).mono g0.size)) (HM3.out.below (Later.h _)))))
              exact wpQuiet_nil hK1
            simp only [Act.put, List.getElem_toArray, List.getElem_cons_zero, List.getElem_cons_succ, List.setIfInBounds_toArray, List.set_cons_zero, List.set_cons_succ]
            refine runX_each [9] (by kernel_rfl) (by kernel_rfl) (by kernel_rfl) (by decide) ?_
            intro i hi
            simp only [List.mem_cons, List.not_mem_nil, or_false] at hi
            subst hi
            refine atX_quiet (.tuple #[.agg #[.int .i64 x1, .int .i64 x2], .bool false, .bool true]) rfl (quiet_read rfl (fun y _ => by go_simp)) ?_
            simp only [Act.put, List.getElem_toArray, List.getElem_cons_zero, List.getElem_cons_succ, List.setIfInBounds_toArray, List.set_cons_zero, List.set_cons_succ]
            refine ⟨?_, fun bx hbx _ => ?_⟩
            · skip
              change Run _ _ _ _ _ 7 _ _ _
              refine run_take (i := 10) (.agg #[.int .i64 x1, .int .i64 x2]) rfl (by kernel_rfl) (by kernel_rfl) (by kernel_rfl) rfl (fun y h => h.1) (fun y _ => by go_simp) ?_
              simp only [Act.put, List.getElem_toArray, List.getElem_cons_zero, List.getElem_cons_succ, List.setIfInBounds_toArray, List.set_cons_zero, List.set_cons_succ]
              refine run_take (i := 11) (.bool false) rfl (by kernel_rfl) (by kernel_rfl) (by kernel_rfl) rfl (fun y h => h.1) (fun y _ => by go_simp) ?_
              simp only [Act.put, List.getElem_toArray, List.getElem_cons_zero, List.getElem_cons_succ, List.setIfInBounds_toArray, List.set_cons_zero, List.set_cons_succ]
              refine run_take (i := 12) (.bool true) rfl (by kernel_rfl) (by kernel_rfl) (by kernel_rfl) rfl (fun y h => h.1) (fun y _ => by go_simp) ?_
              simp only [Act.put, List.getElem_toArray, List.getElem_cons_zero, List.getElem_cons_succ, List.setIfInBounds_toArray, List.set_cons_zero, List.set_cons_succ]
              refine run_alloc (w0 := V) (i := 13) (t := 25) (z := .cells #[.int .i64 0, .int .i64 0] 29 (0, 0)) (by kernel_rfl) rfl rfl rfl (fun a w => by go_simp) (fun y h => h.1.size) ?_
              intro bx hbx
              simp only [Act.put, List.setIfInBounds_toArray, List.set_cons_zero, List.set_cons_succ]
              refine run_store (i := 14) (fun y => Below V.heap.size V y ∧ y.heap[bx]? = some (.cells #[.int .i64 x1, .int .i64 x2] 29 (0, 0))) (by kernel_rfl) rfl rfl (fun y y1 h hb => ⟨h.1.trans (hb.mono h.1.size), (hb.block _ (heap_size_lt h.2)).trans h.2⟩) (fun y h => h.1) ?_ ?_
              · rintro y ⟨⟨g0, g1⟩, g2⟩
                obtain ⟨pc0, pc1, pc2, pc3, pc4⟩ := ratrow2 g2
                refine ⟨put2 y bx x1 x2, ?_, ?_⟩
                · unfold put2
                  go_simp
                · exact ⟨(g0.setCell (p := ⟨bx, 0, none⟩) hbx _).setCell (p := ⟨bx, 1, none⟩) hbx _, put2_row g2 _ _⟩
              simp only [Act.put, List.getElem_toArray, List.getElem_cons_zero, List.getElem_cons_succ]
              refine run_quiet (i := 15) (.bool false) (by kernel_rfl) rfl rfl (fun y _ => by go_simp) ?_
              simp only [Act.put, List.getElem_toArray, List.getElem_cons_zero, List.getElem_cons_succ, List.setIfInBounds_toArray, List.set_cons_zero, List.set_cons_succ]
              refine run_quiet (i := 16) (.bool true) (by kernel_rfl) rfl rfl (fun y _ => by go_simp) ?_
              simp only [Act.put, List.getElem_toArray, List.getElem_cons_zero, List.getElem_cons_succ, List.setIfInBounds_toArray, List.set_cons_zero, List.set_cons_succ]
              refine ⟨by kernel_rfl, fun y hy => ?_⟩
              obtain ⟨g0, g1⟩ := hy
              go_wp2_with fail
              go_meet
              exact ⟨⟨bx, rfl, g1⟩, rfl, rfl, g0⟩
            · skip
              simp only [Act.put, List.setIfInBounds_toArray, List.set_cons_zero, List.set_cons_succ]
              refine run_take (i := 10) (.agg #[.int .i64 x1, .int .i64 x2]) rfl (by kernel_rfl) (by kernel_rfl) (by kernel_rfl) rfl (fun y h => h.1.1) (fun y _ => by go_simp) ?_
              simp only [Act.put, List.getElem_toArray, List.getElem_cons_zero, List.getElem_cons_succ, List.setIfInBounds_toArray, List.set_cons_zero, List.set_cons_succ]
              refine run_take (i := 11) (.bool false) rfl (by kernel_rfl) (by kernel_rfl) (by kernel_rfl) rfl (fun y h => h.1.1) (fun y _ => by go_simp) ?_
              simp only [Act.put, List.getElem_toArray, List.getElem_cons_zero, List.getElem_cons_succ, List.setIfInBounds_toArray, List.set_cons_zero, List.set_cons_succ]
              refine run_take (i := 12) (.bool true) rfl (by kernel_rfl) (by kernel_rfl) (by kernel_rfl) rfl (fun y h => h.1.1) (fun y _ => by go_simp) ?_
              simp only [Act.put, List.getElem_toArray, List.getElem_cons_zero, List.getElem_cons_succ, List.setIfInBounds_toArray, List.set_cons_zero, List.set_cons_succ]
              refine run_store (i := 14) (fun y => Below V.heap.size V y ∧ y.heap[bx]? = some (.cells #[.int .i64 x1, .int .i64 x2] 29 (0, 0))) (by kernel_rfl) rfl rfl (fun y y1 h hb => ⟨h.1.trans (hb.mono h.1.size), (hb.block _ (heap_size_lt h.2)).trans h.2⟩) (fun y h => h.1) ?_ ?_
              · rintro y ⟨⟨g0, g1⟩, g2⟩
                obtain ⟨pc0, pc1, pc2, pc3, pc4⟩ := ratrow2 g2
                refine ⟨put2 y bx x1 x2, ?_, ?_⟩
                · unfold put2
                  go_simp
                · exact ⟨(g0.setCell (p := ⟨bx, 0, none⟩) hbx _).setCell (p := ⟨bx, 1, none⟩) hbx _, put2_row g2 _ _⟩
              simp only [Act.put, List.getElem_toArray, List.getElem_cons_zero, List.getElem_cons_succ]
              refine run_quiet (i := 15) (.bool false) (by kernel_rfl) rfl rfl (fun y _ => by go_simp) ?_
              simp only [Act.put, List.getElem_toArray, List.getElem_cons_zero, List.getElem_cons_succ, List.setIfInBounds_toArray, List.set_cons_zero, List.set_cons_succ]
              refine run_quiet (i := 16) (.bool true) (by kernel_rfl) rfl rfl (fun y _ => by go_simp) ?_
              simp only [Act.put, List.getElem_toArray, List.getElem_cons_zero, List.getElem_cons_succ, List.setIfInBounds_toArray, List.set_cons_zero, List.set_cons_succ]
              refine ⟨by kernel_rfl, fun y hy => ?_⟩
              obtain ⟨g0, g1⟩ := hy
              go_wp2_with fail
              go_meet
              exact ⟨⟨bx, rfl, g1⟩, rfl, rfl, g0⟩
          · skip
            refine atX_upd (fun v y => ∃ d7, v = sl d7 1 1 ∧ d7 ≠ b1 ∧ (Below V.heap.size V y ∧ OwnL V.heap.size y b1 ∧ RowK k2 y d7)) (fun _ => fun q => q = b1) rfl rfl ?_ ?_ ?_ ?_ ?_
            · rintro v y y1 ⟨d7, e, hp0, ⟨h0, h1, h2⟩⟩ hb
              exact ⟨d7, e, hp0, h0.trans (hb.mono h0.size), OwnL.st _ _ h1 hb, RowK.st _ _ h2 hb⟩
            · rintro v y ⟨d7, e, hp0, ⟨h0, h1, h2⟩⟩
              exact h0
            · rintro v y ⟨d7, e, hp0, ⟨h0, h1, h2⟩⟩ q hq
              have := h1.lt.2
              omega
            · rintro y ⟨g0, g1⟩
              refine ⟨sl y.heap.size 1 1, y.alloc (.cells #[.int .i64 k2.p, .int .i64 k2.l0, .int .i64 k2.l1, .int .i64 k2.c0, .int .i64 k2.c1] 68), by go_simp, ⟨y.heap.size, rfl, Nat.ne_of_gt g1.lt.2, g0.alloc g0.size _, OwnL.st _ _ g1 ((Below.refl _ y).alloc (Nat.le_refl _) _), World.alloc_heap_new y _⟩, fun q zz _ hz => alloc_block y _ hz, fun q hq => .inl hq⟩
            rintro v ⟨_, d7, rfl, hp0, -⟩
            refine runX_mono _ _ _ (fun y => Below V.heap.size V y ∧ OwnL V.heap.size y b1 ∧ RowK k2 y d7) _ (fun q => q = b1) _ ?_ ?_ ?_ ?_
            · rintro y ⟨d7', e, _, h⟩
              have e2 := (sl_inj e).1
              subst e2
              exact h
            · intro q hq
              exact hq
            · intro q hq
              exact hq
            simp only [Act.put, List.getElem_toArray, List.getElem_cons_zero, List.getElem_cons_succ, List.setIfInBounds_toArray, List.set_cons_zero, List.set_cons_succ]
            refine runX_each [2] (by kernel_rfl) (by kernel_rfl) (by kernel_rfl) (by decide) ?_
            intro i hi
            simp only [List.mem_cons, List.not_mem_nil, or_false] at hi
            subst hi
            refine atX_upd (fun v y => ∃ g8 c9, v = sl g8 n c9 ∧ d7 ≠ g8 ∧ (Below V.heap.size V y ∧ OwnA V.heap.size n m y g8 c9 ∧ RowK k2 y d7)) (fun v q => ∃ g8 c9, v = sl g8 n c9 ∧ q = g8) rfl rfl ?_ ?_ ?_ ?_ ?_
            · rintro v y y1 ⟨g8, c9, e, hp0, ⟨h0, h1, h2⟩⟩ hb
              exact ⟨g8, c9, e, hp0, h0.trans (hb.mono h0.size), OwnA.st _ _ h1 hb, RowK.st _ _ h2 hb⟩
            · rintro v y ⟨g8, c9, e, hp0, ⟨h0, h1, h2⟩⟩
              exact h0
            · rintro v y ⟨g8, c9, e, hp0, ⟨h0, h1, h2⟩⟩ q ⟨g8', c9', e1, rfl⟩
              have e2 := (sl_inj (e.symm.trans e1)).1
              have := h1.lt.2
              omega
            · rintro y ⟨g0, g1, g2⟩
              obtain ⟨g, c', y', hr, a1, a2, a3, a4⟩ := append_list hi0 hz0 hz1 hz2 (n := n) (cap := cap) g0 rfl (HM.out.below g0) hn16 g1
              have hdg : d7 ≠ g := by
                rcases a4 with a4 | a4
                · rw [a4]
                  exact hp0
                · have := heap_size_lt g2
                  omega
              refine ⟨sl g n c', y', exec_append _ _ _ rfl _ _ rfl rfl hr, ⟨g, c', rfl, hdg, a2, a1, a3 _ _ hp0 g2⟩, fun q zz hq hz => a3 q zz hq hz, ?_⟩
              rintro q ⟨g'', c'', e1, rfl⟩
              have e2 := (sl_inj e1).1
              subst e2
              exact a4
            rintro v ⟨_, g8, c9, rfl, hp0, -⟩
            refine runX_mono _ _ _ (fun y => Below V.heap.size V y ∧ OwnA V.heap.size n m y g8 c9 ∧ RowK k2 y d7) _ (fun q => q = g8) _ ?_ ?_ ?_ ?_
            · rintro y ⟨g8', c9', e, _, h⟩
              obtain ⟨e2, -, e3⟩ := sl_inj e
              subst e2 e3
              exact h
            · intro q hq
              exact ⟨g8, c9, rfl, hq⟩
            · rintro q ⟨g8', c9', e, rfl⟩
              exact ((sl_inj e).1).symm
            simp only [Act.put, List.getElem_toArray, List.getElem_cons_zero, List.getElem_cons_succ, List.setIfInBounds_toArray, List.set_cons_zero, List.set_cons_succ]
            refine runX_each [5] (by kernel_rfl) (by kernel_rfl) (by kernel_rfl) (by decide) ?_
            intro i hi
            simp only [List.mem_cons, List.not_mem_nil, or_false] at hi
            subst hi
            refine atX_upd (fun v y => ∃ g10 c11, v = sl g10 (n + 1) c11 ∧ (Below V.heap.size V y ∧ OwnZ V.heap.size n m k2 y g10 c11)) (fun v q => ∃ g10 c11, v = sl g10 (n + 1) c11 ∧ q = g10) rfl rfl ?_ ?_ ?_ ?_ ?_
            · rintro v y y1 ⟨g10, c11, e, ⟨h0, h1⟩⟩ hb
              exact ⟨g10, c11, e, h0.trans (hb.mono h0.size), OwnZ.st _ _ h1 hb⟩
            · rintro v y ⟨g10, c11, e, ⟨h0, h1⟩⟩
              exact h0
            · rintro v y ⟨g10, c11, e, ⟨h0, h1⟩⟩ q ⟨g10', c11', e1, rfl⟩
              have e2 := (sl_inj (e.symm.trans e1)).1
              have := h1.lt.2
              omega
            · rintro y ⟨g0, g1, g2⟩
              obtain ⟨g, c', y', hr, a1, a2, a3, a4⟩ := append_one hi0 hz0 hz1 hz2 g0 rfl hn16 g1 g2
              refine ⟨sl g (n + 1) c', y', exec_append _ _ _ rfl _ _ rfl rfl hr, ⟨g, c', rfl, a2, a1⟩, fun q zz hq hz => a3 q zz hq hz, ?_⟩
              rintro q ⟨g'', c'', e1, rfl⟩
              have e2 := (sl_inj e1).1
              subst e2
              exact a4
            rintro v ⟨_, g10, c11, rfl, -⟩
            refine runX_mono _ _ _ (fun y => Below V.heap.size V y ∧ OwnZ V.heap.size n m k2 y g10 c11) _ (fun q => q = g10) _ ?_ ?_ ?_ ?_
            · rintro y ⟨g10', c11', e, h⟩
              obtain ⟨e2, -, e3⟩ := sl_inj e
              subst e2 e3
              exact h
            · intro q hq
              exact ⟨g10, c11, rfl, hq⟩
            · rintro q ⟨g10', c11', e, rfl⟩
              exact ((sl_inj e).1).symm
            simp only [Act.put, List.getElem_toArray, List.getElem_cons_zero, List.getElem_cons_succ, List.setIfInBounds_toArray, List.set_cons_zero, List.set_cons_succ]
            refine runX_each [8] (by kernel_rfl) (by kernel_rfl) (by kernel_rfl) (by decide) ?_
            intro i hi
            simp only [List.mem_cons, List.not_mem_nil, or_false] at hi
            subst hi
            refine atX_quiet (.tuple #[.agg #[.int .i64 x1, .int .i64 x2], .bool false, .bool true]) rfl (quiet_of_walk rfl rfl (by simp) (fun y hy K1 hK1 => ?_)) ?_
            · obtain ⟨g0, g1⟩ := hy
              have HM3 := Lib.hid (snoc_of_own g1).1
              simp only [List.getElem_toArray, List.getElem_cons_zero, List.getElem_cons_succ]
              go_big_quiet_step ((with_reducible refine calls_later (KL2.out _ g10 c11 (g0.trans ((Later.h _).mono g0.size)) (HM3.out.below (Later.h _)))))
              exact wpQuiet_nil hK1
            simp only [Act.put, List.getElem_toArray, List.getElem_cons_zero, List.getElem_cons_succ, List.setIfInBounds_toArray, List.set_cons_zero, List.set_cons_succ]
            refine runX_each [9] (by kernel_rfl) (by kernel_rfl) (by kernel_rfl) (by decide) ?_
            intro i hi
            simp only [List.mem_cons, List.not_mem_nil, or_false] at hi
            subst hi
            refine atX_quiet (.tuple #[.agg #[.int .i64 x1, .int .i64 x2], .bool false, .bool true]) rfl (quiet_read rfl (fun y _ => by go_simp)) ?_
            simp only [Act.put, List.getElem_toArray, List.getElem_cons_zero, List.getElem_cons_succ, List.setIfInBounds_toArray, List.set_cons_zero, List.set_cons_succ]
            refine ⟨?_, fun bx hbx _ => ?_⟩
            · skip
              change Run _ _ _ _ _ 7 _ _ _
              refine run_take (i := 10) (.agg #[.int .i64 x1, .int .i64 x2]) rfl (by kernel_rfl) (by kernel_rfl) (by kernel_rfl) rfl (fun y h => h.1) (fun y _ => by go_simp) ?_
              simp only [Act.put, List.getElem_toArray, List.getElem_cons_zero, List.getElem_cons_succ, List.setIfInBounds_toArray, List.set_cons_zero, List.set_cons_succ]
              refine run_take (i := 11) (.bool false) rfl (by kernel_rfl) (by kernel_rfl) (by kernel_rfl) rfl (fun y h => h.1) (fun y _ => by go_simp) ?_
              simp only [Act.put, List.getElem_toArray, List.getElem_cons_zero, List.getElem_cons_succ, List.setIfInBounds_toArray, List.set_cons_zero, List.set_cons_succ]
              refine run_take (i := 12) (.bool true) rfl (by kernel_rfl) (by kernel_rfl) (by kernel_rfl) rfl (fun y h => h.1) (fun y _ => by go_simp) ?_
              simp only [Act.put, List.getElem_toArray, List.getElem_cons_zero, List.getElem_cons_succ, List.setIfInBounds_toArray, List.set_cons_zero, List.set_cons_succ]
              refine run_alloc (w0 := V) (i := 13) (t := 25) (z := .cells #[.int .i64 0, .int .i64 0] 29 (0, 0)) (by kernel_rfl) rfl rfl rfl (fun a w => by go_simp) (fun y h => h.1.size) ?_
              intro bx hbx
              simp only [Act.put, List.setIfInBounds_toArray, List.set_cons_zero, List.set_cons_succ]
              refine run_store (i := 14) (fun y => Below V.heap.size V y ∧ y.heap[bx]? = some (.cells #[.int .i64 x1, .int .i64 x2] 29 (0, 0))) (by kernel_rfl) rfl rfl (fun y y1 h hb => ⟨h.1.trans (hb.mono h.1.size), (hb.block _ (heap_size_lt h.2)).trans h.2⟩) (fun y h => h.1) ?_ ?_
              · rintro y ⟨⟨g0, g1⟩, g2⟩
                obtain ⟨pc0, pc1, pc2, pc3, pc4⟩ := ratrow2 g2
                refine ⟨put2 y bx x1 x2, ?_, ?_⟩
                · unfold put2
                  go_simp
                · exact ⟨(g0.setCell (p := ⟨bx, 0, none⟩) hbx _).setCell (p := ⟨bx, 1, none⟩) hbx _, put2_row g2 _ _⟩
              simp only [Act.put, List.getElem_toArray, List.getElem_cons_zero, List.getElem_cons_succ]
              refine run_quiet (i := 15) (.bool false) (by kernel_rfl) rfl rfl (fun y _ => by go_simp) ?_
              simp only [Act.put, List.getElem_toArray, List.getElem_cons_zero, List.getElem_cons_succ, List.setIfInBounds_toArray, List.set_cons_zero, List.set_cons_succ]
              refine run_quiet (i := 16) (.bool true) (by kernel_rfl) rfl rfl (fun y _ => by go_simp) ?_
              simp only [Act.put, List.getElem_toArray, List.getElem_cons_zero, List.getElem_cons_succ, List.setIfInBounds_toArray, List.set_cons_zero, List.set_cons_succ]
              refine ⟨by kernel_rfl, fun y hy => ?_⟩
              obtain ⟨g0, g1⟩ := hy
              go_wp2_with fail
              go_meet
              exact ⟨⟨bx, rfl, g1⟩, rfl, rfl, g0⟩
            · skip
              simp only [Act.put, List.setIfInBounds_toArray, List.set_cons_zero, List.set_cons_succ]
              refine run_take (i := 10) (.agg #[.int .i64 x1, .int .i64 x2]) rfl (by kernel_rfl) (by kernel_rfl) (by kernel_rfl) rfl (fun y h => h.1.1) (fun y _ => by go_simp) ?_
              simp only [Act.put, List.getElem_toArray, List.getElem_cons_zero, List.getElem_cons_succ, List.setIfInBounds_toArray, List.set_cons_zero, List.set_cons_succ]
              refine run_take (i := 11) (.bool false) rfl (by kernel_rfl) (by kernel_rfl) (by kernel_rfl) rfl (fun y h => h.1.1) (fun y _ => by go_simp) ?_
              simp only [Act.put, List.getElem_toArray, List.getElem_cons_zero, List.getElem_cons_succ, List.setIfInBounds_toArray, List.set_cons_zero, List.set_cons_succ]
              refine run_take (i := 12) (.bool true) rfl (by kernel_rfl) (by kernel_rfl) (by kernel_rfl) rfl (fun y h => h.1.1) (fun y _ => by go_simp) ?_
              simp only [Act.put, List.getElem_toArray, List.getElem_cons_zero, List.getElem_cons_succ, List.setIfInBounds_toArray, List.set_cons_zero, List.set_cons_succ]
              refine run_store (i := 14) (fun y => Below V.heap.size V y ∧ y.heap[bx]? = some (.cells #[.int .i64 x1, .int .i64 x2] 29 (0, 0))) (by kernel_rfl) rfl rfl (fun y y1 h hb => ⟨h.1.trans (hb.mono h.1.size), (hb.block _ (heap_size_lt h.2)).trans h.2⟩) (fun y h => h.1) ?_ ?_
              · rintro y ⟨⟨g0, g1⟩, g2⟩
                obtain ⟨pc0, pc1, pc2, pc3, pc4⟩ := ratrow2 g2
                refine ⟨put2 y bx x1 x2, ?_, ?_⟩
                · unfold put2
                  go_simp
                · exact ⟨(g0.setCell (p := ⟨bx, 0, none⟩) hbx _).setCell (p := ⟨bx, 1, none⟩) hbx _, put2_row g2 _ _⟩
              simp only [Act.put, List.getElem_toArray, List.getElem_cons_zero, List.getElem_cons_succ]
              refine run_quiet (i := 15) (.bool false) (by kernel_rfl) rfl rfl (fun y _ => by go_simp) ?_
              simp only [Act.put, List.getElem_toArray, List.getElem_cons_zero, List.getElem_cons_succ, List.setIfInBounds_toArray, List.set_cons_zero, List.set_cons_succ]
              refine run_quiet (i := 16) (.bool true) (by kernel_rfl) rfl rfl (fun y _ => by go_simp) ?_
              simp only [Act.put, List.getElem_toArray, List.getElem_cons_zero, List.getElem_cons_succ, List.setIfInBounds_toArray, List.set_cons_zero, List.set_cons_succ]
              refine ⟨by kernel_rfl, fun y hy => ?_⟩
              obtain ⟨g0, g1⟩ := hy
              go_wp2_with fail
              go_meet
              exact ⟨⟨bx, rfl, g1⟩, rfl, rfl, g0⟩
        · skip
          refine atX_upd (fun v y => ∃ d12, v = sl d12 1 1 ∧ (Below V.heap.size V y ∧ RowK k2 y d12)) (fun _ => fun _ => False) rfl rfl ?_ ?_ ?_ ?_ ?_
          · rintro v y y1 ⟨d12, e, ⟨h0, h2⟩⟩ hb
            exact ⟨d12, e, h0.trans (hb.mono h0.size), RowK.st _ _ h2 hb⟩
          · rintro v y ⟨d12, e, ⟨h0, h2⟩⟩
            exact h0
          · rintro v y _ q hq
            exact hq.elim
          · rintro y g0
            refine ⟨sl y.heap.size 1 1, y.alloc (.cells #[.int .i64 k2.p, .int .i64 k2.l0, .int .i64 k2.l1, .int .i64 k2.c0, .int .i64 k2.c1] 68), by go_simp, ⟨y.heap.size, rfl, g0.alloc g0.size _, World.alloc_heap_new y _⟩, fun q zz _ hz => alloc_block y _ hz, fun q hq => .inl hq⟩
          rintro v ⟨_, d12, rfl, -⟩
          refine runX_mono _ _ _ (fun y => Below V.heap.size V y ∧ RowK k2 y d12) _ (fun _ => False) _ ?_ ?_ ?_ ?_
          · rintro y ⟨d12', e, h⟩
            have e2 := (sl_inj e).1
            subst e2
            exact h
          · intro q hq
            exact hq
          · intro q hq
            exact hq
          simp only [Act.put, List.getElem_toArray, List.getElem_cons_zero, List.getElem_cons_succ, List.setIfInBounds_toArray, List.set_cons_zero, List.set_cons_succ]
          refine runX_each [0] (by kernel_rfl) (by kernel_rfl) (by kernel_rfl) (by decide) ?_
          intro i hi
          simp only [List.mem_cons, List.not_mem_nil, or_false] at hi
          subst hi
          refine atX_upd (fun v y => ∃ b13, v = sl b13 0 0 ∧ d12 ≠ b13 ∧ (Below V.heap.size V y ∧ OwnL V.heap.size y b13 ∧ RowK k2 y d12)) (fun v q => ∃ b13, v = sl b13 0 0 ∧ q = b13) rfl rfl ?_ ?_ ?_ ?_ ?_
          · rintro v y y1 ⟨b13, e, hp0, ⟨h0, h1, h2⟩⟩ hb
            exact ⟨b13, e, hp0, h0.trans (hb.mono h0.size), OwnL.st _ _ h1 hb, RowK.st _ _ h2 hb⟩
          · rintro v y ⟨b13, e, hp0, ⟨h0, h1, h2⟩⟩
            exact h0
          · rintro v y ⟨b13, e, hp0, ⟨h0, h1, h2⟩⟩ q ⟨b13', e1, rfl⟩
            have e2 := (sl_inj (e.symm.trans e1)).1
            have := h1.lt.2
            omega
          · rintro y ⟨g0, g2⟩
            refine ⟨sl y.heap.size 0 0, y.alloc (.cells #[] 68), by go_simp, ⟨y.heap.size, rfl, Nat.ne_of_lt (heap_size_lt g2), g0.alloc g0.size _, lit_owns g0.size, RowK.st _ _ g2 ((Below.refl _ y).alloc (Nat.le_refl _) _)⟩, fun q zz _ hz => alloc_block y _ hz, ?_⟩
            rintro q ⟨b', e1, rfl⟩
            right
            have := (sl_inj e1).1
            omega
          rintro v ⟨_, b13, rfl, hp0, -⟩
          refine runX_mono _ _ _ (fun y => Below V.heap.size V y ∧ OwnL V.heap.size y b13 ∧ RowK k2 y d12) _ (fun q => q = b13) _ ?_ ?_ ?_ ?_
          · rintro y ⟨b13', e, _, h⟩
            have e2 := (sl_inj e).1
            subst e2
            exact h
          · intro q hq
            exact ⟨b13, rfl, hq⟩
          · rintro q ⟨b13', e, rfl⟩
            exact ((sl_inj e).1).symm
          simp only [Act.put, List.getElem_toArray, List.getElem_cons_zero, List.setIfInBounds_toArray, List.set_cons_zero, List.set_cons_succ]
          refine runX_each [2] (by kernel_rfl) (by kernel_rfl) (by kernel_rfl) (by decide) ?_
          intro i hi
          simp only [List.mem_cons, List.not_mem_nil, or_false] at hi
          subst hi
          refine atX_upd (fun v y => ∃ g14 c15, v = sl g14 n c15 ∧ d12 ≠ g14 ∧ (Below V.heap.size V y ∧ OwnA V.heap.size n m y g14 c15 ∧ RowK k2 y d12)) (fun v q => ∃ g14 c15, v = sl g14 n c15 ∧ q = g14) rfl rfl ?_ ?_ ?_ ?_ ?_
          · rintro v y y1 ⟨g14, c15, e, hp0, ⟨h0, h1, h2⟩⟩ hb
            exact ⟨g14, c15, e, hp0, h0.trans (hb.mono h0.size), OwnA.st _ _ h1 hb, RowK.st _ _ h2 hb⟩
          · rintro v y ⟨g14, c15, e, hp0, ⟨h0, h1, h2⟩⟩
            exact h0
          · rintro v y ⟨g14, c15, e, hp0, ⟨h0, h1, h2⟩⟩ q ⟨g14', c15', e1, rfl⟩
            have e2 := (sl_inj (e.symm.trans e1)).1
            have := h1.lt.2
            omega
          · rintro y ⟨g0, g1, g2⟩
            obtain ⟨g, c', y', hr, a1, a2, a3, a4⟩ := append_list hi0 hz0 hz1 hz2 (n := n) (cap := cap) g0 rfl (HM.out.below g0) hn16 g1
            have hdg : d12 ≠ g := by
              rcases a4 with a4 | a4
              · rw [a4]
                exact hp0
              · have := heap_size_lt g2
                omega
            refine ⟨sl g n c', y', exec_append _ _ _ rfl _ _ rfl rfl hr, ⟨g, c', rfl, hdg, a2, a1, a3 _ _ hp0 g2⟩, fun q zz hq hz => a3 q zz hq hz, ?_⟩
            rintro q ⟨g'', c'', e1, rfl⟩
            have e2 := (sl_inj e1).1
            subst e2
            exact a4
          rintro v ⟨_, g14, c15, rfl, hp0, -⟩
          refine runX_mono _ _ _ (fun y => Below V.heap.size V y ∧ OwnA V.heap.size n m y g14 c15 ∧ RowK k2 y d12) _ (fun q => q = g14) _ ?_ ?_ ?_ ?_
          · rintro y ⟨g14', c15', e, _, h⟩
            obtain ⟨e2, -, e3⟩ := sl_inj e
            subst e2 e3
            exact h
          · intro q hq
            exact ⟨g14, c15, rfl, hq⟩
          · rintro q ⟨g14', c15', e, rfl⟩
            exact ((sl_inj e).1).symm
          simp only [Act.put, List.getElem_toArray, List.getElem_cons_zero, List.getElem_cons_succ, List.setIfInBounds_toArray, List.set_cons_zero, List.set_cons_succ]
          refine runX_each [5] (by kernel_rfl) (by kernel_rfl) (by kernel_rfl) (by decide) ?_
          intro i hi
          simp only [List.mem_cons, List.not_mem_nil, or_false] at hi
          subst hi
          refine atX_upd (fun v y => ∃ g16 c17, v = sl g16 (n + 1) c17 ∧ (Below V.heap.size V y ∧ OwnZ V.heap.size n m k2 y g16 c17)) (fun v q => ∃ g16 c17, v = sl g16 (n + 1) c17 ∧ q = g16) rfl rfl ?_ ?_ ?_ ?_ ?_
          · rintro v y y1 ⟨g16, c17, e, ⟨h0, h1⟩⟩ hb
            exact ⟨g16, c17, e, h0.trans (hb.mono h0.size), OwnZ.st _ _ h1 hb⟩
          · rintro v y ⟨g16, c17, e, ⟨h0, h1⟩⟩
            exact h0
          · rintro v y ⟨g16, c17, e, ⟨h0, h1⟩⟩ q ⟨g16', c17', e1, rfl⟩
            have e2 := (sl_inj (e.symm.trans e1)).1
            have := h1.lt.2
            omega
          · rintro y ⟨g0, g1, g2⟩
            obtain ⟨g, c', y', hr, a1, a2, a3, a4⟩ := append_one hi0 hz0 hz1 hz2 g0 rfl hn16 g1 g2
            refine ⟨sl g (n + 1) c', y', exec_append _ _ _ rfl _ _ rfl rfl hr, ⟨g, c', rfl, a2, a1⟩, fun q zz hq hz => a3 q zz hq hz, ?_⟩
            rintro q ⟨g'', c'', e1, rfl⟩
            have e2 := (sl_inj e1).1
            subst e2
            exact a4
          rintro v ⟨_, g16, c17, rfl, -⟩
          refine runX_mono _ _ _ (fun y => Below V.heap.size V y ∧ OwnZ V.heap.size n m k2 y g16 c17) _ (fun q => q = g16) _ ?_ ?_ ?_ ?_
          · rintro y ⟨g16', c17', e, h⟩
            obtain ⟨e2, -, e3⟩ := sl_inj e
            subst e2 e3
            exact h
          · intro q hq
            exact ⟨g16, c17, rfl, hq⟩
          · rintro q ⟨g16', c17', e, rfl⟩
            exact ((sl_inj e).1).symm
          simp only [Act.put, List.getElem_toArray, List.getElem_cons_zero, List.getElem_cons_succ, List.setIfInBounds_toArray, List.set_cons_zero, List.set_cons_succ]
          refine runX_each [8] (by kernel_rfl) (by kernel_rfl) (by kernel_rfl) (by decide) ?_
          intro i hi
          simp only [List.mem_cons, List.not_mem_nil, or_false] at hi
          subst hi
          refine atX_quiet (.tuple #[.agg #[.int .i64 x1, .int .i64 x2], .bool false, .bool true]) rfl (quiet_of_walk rfl rfl (by simp) (fun y hy K1 hK1 => ?_)) ?_
          · obtain ⟨g0, g1⟩ := hy
            have HM3 := Lib.hid (snoc_of_own g1).1
            simp only [List.getElem_toArray, List.getElem_cons_zero, List.getElem_cons_succ]
            go_big_quiet_step ((with_reducible refine calls_later (KL2.out _ g16 c17 (g0.trans ((Later.h _).mono g0.size)) (HM3.out.below (Later.h _)))))
            exact wpQuiet_nil hK1
          simp only [Act.put, List.getElem_toArray, List.getElem_cons_zero, List.getElem_cons_succ, List.setIfInBounds_toArray, List.set_cons_zero, List.set_cons_succ]
          refine runX_each [9] (by kernel_rfl) (by kernel_rfl) (by kernel_rfl) (by decide) ?_
          intro i hi
          simp only [List.mem_cons, List.not_mem_nil, or_false] at hi
          subst hi
          refine atX_quiet (.tuple #[.agg #[.int .i64 x1, .int .i64 x2], .bool false, .bool true]) rfl (quiet_read rfl (fun y _ => by go_simp)) ?_
          simp only [Act.put, List.getElem_toArray, List.getElem_cons_zero, List.getElem_cons_succ, List.setIfInBounds_toArray, List.set_cons_zero, List.set_cons_succ]
          refine ⟨?_, fun bx hbx _ => ?_⟩
          · skip
            change Run _ _ _ _ _ 7 _ _ _
            refine run_take (i := 10) (.agg #[.int .i64 x1, .int .i64 x2]) rfl (by kernel_rfl) (by kernel_rfl) (by kernel_rfl) rfl (fun y h => h.1) (fun y _ => by go_simp) ?_
            simp only [Act.put, List.getElem_toArray, List.getElem_cons_zero, List.getElem_cons_succ, List.setIfInBounds_toArray, List.set_cons_zero, List.set_cons_succ]
            refine run_take (i := 11) (.bool false) rfl (by kernel_rfl) (by kernel_rfl) (by kernel_rfl) rfl (fun y h => h.1) (fun y _ => by go_simp) ?_
            simp only [Act.put, List.getElem_toArray, List.getElem_cons_zero, List.getElem_cons_succ, List.setIfInBounds_toArray, List.set_cons_zero, List.set_cons_succ]
            refine run_take (i := 12) (.bool true) rfl (by kernel_rfl) (by kernel_rfl) (by kernel_rfl) rfl (fun y h => h.1) (fun y _ => by go_simp) ?_
            simp only [Act.put, List.getElem_toArray, List.getElem_cons_zero, List.getElem_cons_succ, List.setIfInBounds_toArray, List.set_cons_zero, List.set_cons_succ]
            refine run_alloc (w0 := V) (i := 13) (t := 25) (z := .cells #[.int .i64 0, .int .i64 0] 29 (0, 0)) (by kernel_rfl) rfl rfl rfl (fun a w => by go_simp) (fun y h => h.1.size) ?_
            intro bx hbx
            simp only [Act.put, List.setIfInBounds_toArray, List.set_cons_zero, List.set_cons_succ]
            refine run_store (i := 14) (fun y => Below V.heap.size V y ∧ y.heap[bx]? = some (.cells #[.int .i64 x1, .int .i64 x2] 29 (0, 0))) (by kernel_rfl) rfl rfl (fun y y1 h hb => ⟨h.1.trans (hb.mono h.1.size), (hb.block _ (heap_size_lt h.2)).trans h.2⟩) (fun y h => h.1) ?_ ?_
            · rintro y ⟨⟨g0, g1⟩, g2⟩
              obtain ⟨pc0, pc1, pc2, pc3, pc4⟩ := ratrow2 g2
              refine ⟨put2 y bx x1 x2, ?_, ?_⟩
              · unfold put2
                go_simp
              · exact ⟨(g0.setCell (p := ⟨bx, 0, none⟩) hbx _).setCell (p := ⟨bx, 1, none⟩) hbx _, put2_row g2 _ _⟩
            simp only [Act.put, List.getElem_toArray, List.getElem_cons_zero, List.getElem_cons_succ]
            refine run_quiet (i := 15) (.bool false) (by kernel_rfl) rfl rfl (fun y _ => by go_simp) ?_
            simp only [Act.put, List.getElem_toArray, List.getElem_cons_zero, List.getElem_cons_succ, List.setIfInBounds_toArray, List.set_cons_zero, List.set_cons_succ]
            refine run_quiet (i := 16) (.bool true) (by kernel_rfl) rfl rfl (fun y _ => by go_simp) ?_
            simp only [Act.put, List.getElem_toArray, List.getElem_cons_zero, List.getElem_cons_succ, List.setIfInBounds_toArray, List.set_cons_zero, List.set_cons_succ]
            refine ⟨by kernel_rfl, fun y hy => ?_⟩
            obtain ⟨g0, g1⟩ := hy
            go_wp2_with fail
            go_meet
            exact ⟨⟨bx, rfl, g1⟩, rfl, rfl, g0⟩
          · skip
            simp only [Act.put, List.setIfInBounds_toArray, List.set_cons_zero, List.set_cons_succ]
            refine run_take (i := 10) (.agg #[.int .i64 x1, .int .i64 x2]) rfl (by kernel_rfl) (by kernel_rfl) (by kernel_rfl) rfl (fun y h => h.1.1) (fun y _ => by go_simp) ?_
            simp only [Act.put, List.getElem_toArray, List.getElem_cons_zero, List.getElem_cons_succ, List.setIfInBounds_toArray, List.set_cons_zero, List.set_cons_succ]
            refine run_take (i := 11) (.bool false) rfl (by kernel_rfl) (by kernel_rfl) (by kernel_rfl) rfl (fun y h => h.1.1) (fun y _ => by go_simp) ?_
            simp only [Act.put, List.getElem_toArray, List.getElem_cons_zero, List.getElem_cons_succ, List.setIfInBounds_toArray, List.set_cons_zero, List.set_cons_succ]
            refine run_take (i := 12) (.bool true) rfl (by kernel_rfl) (by kernel_rfl) (by kernel_rfl) rfl (fun y h => h.1.1) (fun y _ => by go_simp) ?_
            simp only [Act.put, List.getElem_toArray, List.getElem_cons_zero, List.getElem_cons_succ, List.setIfInBounds_toArray, List.set_cons_zero, List.set_cons_succ]
            refine run_store (i := 14) (fun y => Below V.heap.size V y ∧ y.heap[bx]? = some (.cells #[.int .i64 x1, .int .i64 x2] 29 (0, 0))) (by kernel_rfl) rfl rfl (fun y y1 h hb => ⟨h.1.trans (hb.mono h.1.size), (hb.block _ (heap_size_lt h.2)).trans h.2⟩) (fun y h => h.1) ?_ ?_
            · rintro y ⟨⟨g0, g1⟩, g2⟩
              obtain ⟨pc0, pc1, pc2, pc3, pc4⟩ := ratrow2 g2
              refine ⟨put2 y bx x1 x2, ?_, ?_⟩
              · unfold put2
                go_simp
              · exact ⟨(g0.setCell (p := ⟨bx, 0, none⟩) hbx _).setCell (p := ⟨bx, 1, none⟩) hbx _, put2_row g2 _ _⟩
            simp only [Act.put, List.getElem_toArray, List.getElem_cons_zero, List.getElem_cons_succ]
            refine run_quiet (i := 15) (.bool false) (by kernel_rfl) rfl rfl (fun y _ => by go_simp) ?_
            simp only [Act.put, List.getElem_toArray, List.getElem_cons_zero, List.getElem_cons_succ, List.setIfInBounds_toArray, List.set_cons_zero, List.set_cons_succ]
            refine run_quiet (i := 16) (.bool true) (by kernel_rfl) rfl rfl (fun y _ => by go_simp) ?_
            simp only [Act.put, List.getElem_toArray, List.getElem_cons_zero, List.getElem_cons_succ, List.setIfInBounds_toArray, List.set_cons_zero, List.set_cons_succ]
            refine ⟨by kernel_rfl, fun y hy => ?_⟩
            obtain ⟨g0, g1⟩ := hy
            go_wp2_with fail
            go_meet
            exact ⟨⟨bx, rfl, g1⟩, rfl, rfl, g0⟩
      case rest =>
      obtain ⟨⟨bX, rfl, hrow⟩, rfl, rfl, hcb⟩ := hcut
      obtain ⟨wy, hww⟩ : ∃ x, x = wc := ⟨_, rfl⟩
      subst hww
      replace HM := Lib.hid (HM.out.below hcb)
      replace HT := Lib.hid (RowIs.below HT.out hcb)
      replace RA := Lib.hid (RowIs.below RA.out hcb)
      replace HK2 := Lib.hid (RowIs.below HK2.out hcb)
      replace hB := bup hB hcb
      have RX := Lib.hid hrow
      clear hrow hcb KL2
      have heq0 := fun (w : World) => eqRat x1 x2 w
      obtain ⟨v190, v191, _, _, v19z⟩ := ratrow2 RA.out
      obtain ⟨v200, v201, _, _, v20z⟩ := ratrow2 RX.out
      go_wp2_with fail
      refine (works_c _).mono ?_
      rintro e wz ⟨rfl, hbz⟩
      go_wp2
      go_ret
      exact ⟨rfl, bup hB hbz⟩
    case true =>
      obtain ⟨hi2, hlt9⟩ := himp rfl
      subst hi2
      have hsm := Hp1.out
      have hsy := Hpy.out
      rw [if_pos rfl] at hsm hsy
      have hC21 := fine_c (some ⟨gx, 0, none⟩) (n + 1) cx (snocM n m k) l c wx HX.out
      rw [hdx] at hC21
      try dsimp only [re2, re3, proofV, zeroP] at hC21
      have C21 := Lib.hid hC21
      clear hC21
      obtain ⟨tc0, tc1, _, _, tz⟩ := ratrow2 HT.out
      go_wp2_with fail
      clear tc0 tc1 tz
      refine C21.out.mono ?_
      rintro e w22 ⟨rfl, hw23⟩
      clear C21
      replace HM := Lib.hid (HM.out.below hw23)
      replace HT := Lib.hid (RowIs.below HT.out hw23)
      replace HK := Lib.hid (RowIs.below HK.out hw23)
      replace RA := Lib.hid (RowIs.below RA.out hw23)
      replace HX := Lib.hid (HX.out.below hw23)
      replace hB := bup hB hw23
      have hC24 := lawLeast_c (some ⟨gx, 0, none⟩) (n + 1) cx (snocM n m k) l c sure true (y1, y2) w22 HX.out (by omega) Ly.out Hpy.out
      try dsimp only [re2, re3, proofV, zeroP] at hC24
      have C24 := Lib.hid hC24
      clear hC24
      obtain ⟨tc0, tc1, _, _, tz⟩ := ratrow2 HT.out
      go_wp2_with fail
      clear hw23 tc0 tc1 tz
      refine C24.out.mono ?_
      rintro e w25 ⟨rfl, hw26⟩
      clear C24
      replace HM := Lib.hid (HM.out.below hw26)
      replace HT := Lib.hid (RowIs.below HT.out hw26)
      replace HK := Lib.hid (RowIs.below HK.out hw26)
      replace RA := Lib.hid (RowIs.below RA.out hw26)
      replace HX := Lib.hid (HX.out.below hw26)
      replace hB := bup hB hw26
      simp only [leastV]
      obtain ⟨Y27, hY27⟩ : ∃ Y27, w25.alloc (.cells #[.int .i64 y1, .int .i64 y2] 29) = Y27 := ⟨_, rfl⟩
      have hy28 : Below w25.heap.size w25 Y27 := by rw [← hY27]; exact Below.alloc1 (Below.refl _ _) _ (Nat.le_refl _)
      replace HM := Lib.hid (HM.out.below hy28)
      replace HT := Lib.hid (RowIs.below HT.out hy28)
      replace HK := Lib.hid (RowIs.below HK.out hy28)
      replace RA := Lib.hid (RowIs.below RA.out hy28)
      replace HX := Lib.hid (HX.out.below hy28)
      replace hB := bup hB hy28
      have RB := Lib.hid (show RowIs Y27 w25.heap.size #[.int .i64 y1, .int .i64 y2] 29 by rw [← hY27]; exact heap_new_at _ _ _ rfl)
      obtain ⟨bRB, hbRB⟩ : ∃ bRB, w25.heap.size = bRB := ⟨_, rfl⟩
      rw [hbRB] at RB
      have hC29 := less_small hsm hsy Y27
      rw [hlt9] at hC29
      try dsimp only [re2, re3, proofV, zeroP] at hC29
      have C29 := Lib.hid hC29
      clear hC29
      obtain ⟨v300, v301, _, _, v30z⟩ := ratrow2 RA.out
      obtain ⟨v310, v311, _, _, v31z⟩ := ratrow2 RB.out
      go_wp2_with fail
      clear hw26 hbRB hY27 hy28 v300 v301 v30z v310 v311 v31z
      refine C29.out.mono ?_
      rintro e w32 ⟨rfl, hw33⟩
      clear C29
      replace HM := Lib.hid (HM.out.below hw33)
      replace HT := Lib.hid (RowIs.below HT.out hw33)
      replace HK := Lib.hid (RowIs.below HK.out hw33)
      replace RA := Lib.hid (RowIs.below RA.out hw33)
      replace HX := Lib.hid (HX.out.below hw33)
      replace RB := Lib.hid (RowIs.below RB.out hw33)
      replace hB := bup hB hw33
      obtain ⟨_, _, he_, hmz, q0, q1, q2, q3, q4⟩ := Metals.at HM.out i hin
      cases he_
      have hqb := Hq.out
      have e0 : min (1000 : Int) (((m i).p + pr)) = k2.p := by rw [← Hk2.out]; rfl
      have e1 : min (1000 : Int) (((m i).l0 + le)) = k2.l0 := by rw [← Hk2.out]; rfl
      have e2 : min (1000 : Int) (((m i).l1 + le)) = k2.l1 := by rw [← Hk2.out]; rfl
      have e3 : max (0 : Int) (((m i).c0 - co)) = k2.c0 := by rw [← Hk2.out]; rfl
      have e4 : max (0 : Int) (((m i).c1 - co)) = k2.c1 := by rw [← Hk2.out]; rfl
      obtain ⟨Y, hY⟩ : ∃ Y, w32.alloc (.cells #[.int .i64 (m i).p, .int .i64 (m i).l0, .int .i64 (m i).l1, .int .i64 (m i).c0, .int .i64 (m i).c1] 68) = Y := ⟨_, rfl⟩
      have hyY : Below w32.heap.size w32 Y := by rw [← hY]; exact Below.alloc1 (Below.refl _ _) _ (Nat.le_refl _)
      have rY : RowIs Y w32.heap.size #[.int .i64 (m i).p, .int .i64 (m i).l0, .int .i64 (m i).l1, .int .i64 (m i).c0, .int .i64 (m i).c1] 68 := by rw [← hY]; exact heap_new_at _ _ _ rfl
      obtain ⟨⟨y0, y1, y2, y3, y4⟩, yz⟩ := row5 rY
      have yf0 : Y.frozen? ⟨w32.heap.size, 0, none⟩ = false := RowIs.frozen rY 0
      have yf1 : Y.frozen? ⟨w32.heap.size, 1, none⟩ = false := RowIs.frozen rY 1
      have yf2 : Y.frozen? ⟨w32.heap.size, 2, none⟩ = false := RowIs.frozen rY 2
      have yf3 : Y.frozen? ⟨w32.heap.size, 3, none⟩ = false := RowIs.frozen rY 3
      have yf4 : Y.frozen? ⟨w32.heap.size, 4, none⟩ = false := RowIs.frozen rY 4
      obtain ⟨V, hV⟩ : ∃ V, ((((Y.setCell ⟨w32.heap.size, 0, none⟩ (.int .i64 k2.p)).setCell ⟨w32.heap.size, 1, none⟩ (.int .i64 k2.l0)).setCell ⟨w32.heap.size, 2, none⟩ (.int .i64 k2.l1)).setCell ⟨w32.heap.size, 3, none⟩ (.int .i64 k2.c0)).setCell ⟨w32.heap.size, 4, none⟩ (.int .i64 k2.c1) = V := ⟨_, rfl⟩
      have rV : RowIs V w32.heap.size #[.int .i64 k2.p, .int .i64 k2.l0, .int .i64 k2.l1, .int .i64 k2.c0, .int .i64 k2.c1] 68 := by rw [← hV]; simpa using ((((rY.set 0 (.int .i64 k2.p)).set 1 (.int .i64 k2.l0)).set 2 (.int .i64 k2.l1)).set 3 (.int .i64 k2.c0)).set 4 (.int .i64 k2.c1)
      have hbV : Below w32.heap.size w32 V := hyY.trans (by rw [← hV]; exact (((((Below.refl _ Y).setCell (p := ⟨w32.heap.size, 0, none⟩) (Nat.le_refl _) _).setCell (p := ⟨w32.heap.size, 1, none⟩) (Nat.le_refl _) _).setCell (p := ⟨w32.heap.size, 2, none⟩) (Nat.le_refl _) _).setCell (p := ⟨w32.heap.size, 3, none⟩) (Nat.le_refl _) _).setCell (p := ⟨w32.heap.size, 4, none⟩) (Nat.le_refl _) _)
      clear HK HX RB
      replace HM := Lib.hid (HM.out.below hbV)
      replace HT := Lib.hid (RowIs.below HT.out hbV)
      replace RA := Lib.hid (RowIs.below RA.out hbV)
      replace hB := bup hB hbV
      have HK2 := Lib.hid rV
      go_wp2_with fail
      clear hw33
      clear q0 q1 q2 q3 q4 e0 e1 e2 e3 e4 y0 y1 y2 y3 y4 yf0 yf1 yf2 yf3 yf4 hY hV rY rV hyY hbV yz
      obtain ⟨bk, hbk⟩ : ∃ b, w32.heap.size = b := ⟨_, rfl⟩
      rw [hbk] at HK2 ⊢
      clear hbk
      have KL2 := Lib.hid (fun (x : World) (g c' : Nat) (hx : Below V.heap.size V x) (hM : Metals x (some ⟨g, 0, none⟩) (n + 1) (snocM n m k2)) => by
        have h := lawLeast_c (some ⟨g, 0, none⟩) (n + 1) c' (snocM n m k2) l c sure true (x1, x2) x hM (by omega) HL2.out Hp1.out
        dsimp only [leastV] at h
        exact h)
      go_cut [25, 26, 19] from 125 to 137 (fun e f g wx => (∃ b, e = .pointer (some ⟨b, 0, none⟩) ∧ RowIs wx b #[.int .i64 x1, .int .i64 x2] 29) ∧ f = .bool true ∧ g = .bool true ∧ Below V.heap.size V wx)
      case first =>
        clear RA
        refine wp_region_run0 (by kernel_rfl) ?_
        change Run _ _ _ _ _ 17 _ _ _
        refine run_take (i := 1) (.slice (some ⟨ba, oa, none⟩) n cap) rfl (by kernel_rfl) (by kernel_rfl) (by kernel_rfl) rfl (fun y h => h) (fun y _ => by go_simp) ?_
        simp only [Act.put, List.getElem_toArray, List.getElem_cons_zero, List.getElem_cons_succ, List.setIfInBounds_toArray, List.set_cons_zero, List.set_cons_succ]
        refine run_take (i := 3) (.agg #[.int .i64 k2.p, .int .i64 k2.l0, .int .i64 k2.l1, .int .i64 k2.c0, .int .i64 k2.c1]) rfl (by kernel_rfl) (by kernel_rfl) (by kernel_rfl) rfl (fun y h => h) (fun y hy => by
          obtain ⟨⟨z0, z1, z2, z3, z4⟩, zz⟩ := row5 (RowIs.below HK2.out hy)
          go_simp) ?_
        simp only [Act.put, List.getElem_toArray, List.getElem_cons_zero, List.getElem_cons_succ, List.setIfInBounds_toArray, List.set_cons_zero, List.set_cons_succ]
        refine run_take (i := 6) (.agg #[.int .i64 l, .int .i64 c]) rfl (by kernel_rfl) (by kernel_rfl) (by kernel_rfl) rfl (fun y h => h) (fun y hy => by
          obtain ⟨z0, z1, _, _, zz⟩ := ratrow2 (RowIs.below HT.out hy)
          go_simp) ?_
        simp only [Act.put, List.getElem_toArray, List.getElem_cons_zero, List.getElem_cons_succ, List.setIfInBounds_toArray, List.set_cons_zero, List.set_cons_succ]
        refine run_take (i := 7) (.bool sure) rfl (by kernel_rfl) (by kernel_rfl) (by kernel_rfl) rfl (fun y h => h) (fun y _ => by go_simp) ?_
        simp only [Act.put, List.getElem_toArray, List.getElem_cons_zero, List.getElem_cons_succ, List.setIfInBounds_toArray, List.set_cons_zero, List.set_cons_succ]
        change Run _ _ _ _ _ (6 + 6 + 1) _ _ _
        refine runX_float (w0 := V) (x := 13) (c := 9) (tx := 25) (z := .cells #[.int .i64 0, .int .i64 0] 29 (0, 0)) (g := 6) rfl rfl rfl (fun a w => by go_simp) (Region.noSelect_spec (by kernel_rfl)) (by kernel_rfl) (by kernel_rfl) (by decide) (fun y h => h.size) 6 _ _ _ (fun _ => False) (by kernel_rfl) (fun y h => h) (fun y _ b hb => hb.elim) ?_
        refine runX_each [0, 4] (by kernel_rfl) (by kernel_rfl) (by kernel_rfl) (by decide) ?_
        intro i hi
        simp only [List.mem_cons, List.not_mem_nil, or_false] at hi
        rcases hi with rfl | rfl
        · skip
          refine atX_upd (fun v y => ∃ b1, v = sl b1 0 0 ∧ (Below V.heap.size V y ∧ OwnL V.heap.size y b1)) (fun v q => ∃ b1, v = sl b1 0 0 ∧ q = b1) rfl rfl ?_ ?_ ?_ ?_ ?_
          · rintro v y y1 ⟨b1, e, ⟨h0, h1⟩⟩ hb
            exact ⟨b1, e, h0.trans (hb.mono h0.size), OwnL.st _ _ h1 hb⟩
          · rintro v y ⟨b1, e, ⟨h0, h1⟩⟩
            exact h0
          · rintro v y ⟨b1, e, ⟨h0, h1⟩⟩ q ⟨b1', e1, rfl⟩
            have e2 := (sl_inj (e.symm.trans e1)).1
            have := h1.lt.2
            omega
          · rintro y g0
            refine ⟨sl y.heap.size 0 0, y.alloc (.cells #[] 68), by go_simp, ⟨y.heap.size, rfl, g0.alloc g0.size _, lit_owns g0.size⟩, fun q zz _ hz => alloc_block y _ hz, ?_⟩
            rintro q ⟨b', e1, rfl⟩
            right
            have := (sl_inj e1).1
            omega
          rintro v ⟨_, b1, rfl, -⟩
          refine runX_mono _ _ _ (fun y => Below V.heap.size V y ∧ OwnL V.heap.size y b1) _ (fun q => q = b1) _ ?_ ?_ ?_ ?_
          · rintro y ⟨b1', e, h⟩
            have e2 := (sl_inj e).1
            subst e2
            exact h
          · intro q hq
            exact ⟨b1, rfl, hq⟩
          · rintro q ⟨b1', e, rfl⟩
            exact ((sl_inj e).1).symm
          simp only [Act.put, List.getElem_toArray, List.getElem_cons_zero, List.setIfInBounds_toArray, List.set_cons_zero, List.set_cons_succ]
          refine runX_each [2, 4] (by kernel_rfl) (by kernel_rfl) (by kernel_rfl) (by decide) ?_
          intro i hi
          simp only [List.mem_cons, List.not_mem_nil, or_false] at hi
          rcases hi with rfl | rfl
          · skip
            refine atX_upd (fun v y => ∃ g2 c3, v = sl g2 n c3 ∧ (Below V.heap.size V y ∧ OwnA V.heap.size n m y g2 c3)) (fun v q => ∃ g2 c3, v = sl g2 n c3 ∧ q = g2) rfl rfl ?_ ?_ ?_ ?_ ?_
            · rintro v y y1 ⟨g2, c3, e, ⟨h0, h1⟩⟩ hb
              exact ⟨g2, c3, e, h0.trans (hb.mono h0.size), OwnA.st _ _ h1 hb⟩
            · rintro v y ⟨g2, c3, e, ⟨h0, h1⟩⟩
              exact h0
            · rintro v y ⟨g2, c3, e, ⟨h0, h1⟩⟩ q ⟨g2', c3', e1, rfl⟩
              have e2 := (sl_inj (e.symm.trans e1)).1
              have := h1.lt.2
              omega
            · rintro y ⟨g0, g1⟩
              obtain ⟨g, c', y', hr, a1, a2, a3, a4⟩ := append_list hi0 hz0 hz1 hz2 (n := n) (cap := cap) g0 rfl (HM.out.below g0) hn16 g1
              refine ⟨sl g n c', y', exec_append _ _ _ rfl _ _ rfl rfl hr, ⟨g, c', rfl, a2, a1⟩, fun q zz hq hz => a3 q zz hq hz, ?_⟩
              rintro q ⟨g'', c'', e1, rfl⟩
              have e2 := (sl_inj e1).1
              subst e2
              exact a4
            rintro v ⟨_, g2, c3, rfl, -⟩
            refine runX_mono _ _ _ (fun y => Below V.heap.size V y ∧ OwnA V.heap.size n m y g2 c3) _ (fun q => q = g2) _ ?_ ?_ ?_ ?_
            · rintro y ⟨g2', c3', e, h⟩
              obtain ⟨e2, -, e3⟩ := sl_inj e
              subst e2 e3
              exact h
            · intro q hq
              exact ⟨g2, c3, rfl, hq⟩
            · rintro q ⟨g2', c3', e, rfl⟩
              exact ((sl_inj e).1).symm
            simp only [Act.put, List.getElem_toArray, List.getElem_cons_zero, List.getElem_cons_succ, List.setIfInBounds_toArray, List.set_cons_zero, List.set_cons_succ]
            refine runX_each [4] (by kernel_rfl) (by kernel_rfl) (by kernel_rfl) (by decide) ?_
            intro i hi
            simp only [List.mem_cons, List.not_mem_nil, or_false] at hi
            subst hi
            refine atX_upd (fun v y => ∃ d4, v = sl d4 1 1 ∧ d4 ≠ g2 ∧ (Below V.heap.size V y ∧ OwnA V.heap.size n m y g2 c3 ∧ RowK k2 y d4)) (fun _ => fun q => q = g2) rfl rfl ?_ ?_ ?_ ?_ ?_
            · rintro v y y1 ⟨d4, e, hp0, ⟨h0, h1, h2⟩⟩ hb
              exact ⟨d4, e, hp0, h0.trans (hb.mono h0.size), OwnA.st _ _ h1 hb, RowK.st _ _ h2 hb⟩
            · rintro v y ⟨d4, e, hp0, ⟨h0, h1, h2⟩⟩
              exact h0
            · rintro v y ⟨d4, e, hp0, ⟨h0, h1, h2⟩⟩ q hq
              have := h1.lt.2
              omega
            · rintro y ⟨g0, g1⟩
              refine ⟨sl y.heap.size 1 1, y.alloc (.cells #[.int .i64 k2.p, .int .i64 k2.l0, .int .i64 k2.l1, .int .i64 k2.c0, .int .i64 k2.c1] 68), by go_simp, ⟨y.heap.size, rfl, Nat.ne_of_gt g1.lt.2, g0.alloc g0.size _, OwnA.st _ _ g1 ((Below.refl _ y).alloc (Nat.le_refl _) _), World.alloc_heap_new y _⟩, fun q zz _ hz => alloc_block y _ hz, fun q hq => .inl hq⟩
            rintro v ⟨_, d4, rfl, hp0, -⟩
            refine runX_mono _ _ _ (fun y => Below V.heap.size V y ∧ OwnA V.heap.size n m y g2 c3 ∧ RowK k2 y d4) _ (fun q => q = g2) _ ?_ ?_ ?_ ?_
            · rintro y ⟨d4', e, _, h⟩
              have e2 := (sl_inj e).1
              subst e2
              exact h
            · intro q hq
              exact hq
            · intro q hq
              exact hq
            simp only [Act.put, List.getElem_toArray, List.getElem_cons_zero, List.getElem_cons_succ, List.setIfInBounds_toArray, List.set_cons_zero, List.set_cons_succ]
            refine runX_each [5] (by kernel_rfl) (by kernel_rfl) (by kernel_rfl) (by decide) ?_
            intro i hi
            simp only [List.mem_cons, List.not_mem_nil, or_false] at hi
            subst hi
            refine atX_upd (fun v y => ∃ g5 c6, v = sl g5 (n + 1) c6 ∧ (Below V.heap.size V y ∧ OwnZ V.heap.size n m k2 y g5 c6)) (fun v q => ∃ g5 c6, v = sl g5 (n + 1) c6 ∧ q = g5) rfl rfl ?_ ?_ ?_ ?_ ?_
            · rintro v y y1 ⟨g5, c6, e, ⟨h0, h1⟩⟩ hb
              exact ⟨g5, c6, e, h0.trans (hb.mono h0.size), OwnZ.st _ _ h1 hb⟩
            · rintro v y ⟨g5, c6, e, ⟨h0, h1⟩⟩
              exact h0
            · rintro v y ⟨g5, c6, e, ⟨h0, h1⟩⟩ q ⟨g5', c6', e1, rfl⟩
              have e2 := (sl_inj (e.symm.trans e1)).1
              have := h1.lt.2
              omega
            · rintro y ⟨g0, g1, g2⟩
              obtain ⟨g, c', y', hr, a1, a2, a3, a4⟩ := append_one hi0 hz0 hz1 hz2 g0 rfl hn16 g1 g2
              refine ⟨sl g (n + 1) c', y', exec_append _ _ _ rfl _ _ rfl rfl hr, ⟨g, c', rfl, a2, a1⟩, fun q zz hq hz => a3 q zz hq hz, ?_⟩
              rintro q ⟨g'', c'', e1, rfl⟩
              have e2 := (sl_inj e1).1
              subst e2
              exact a4
            rintro v ⟨_, g5, c6, rfl, -⟩
            refine runX_mono _ _ _ (fun y => Below V.heap.size V y ∧ OwnZ V.heap.size n m k2 y g5 c6) _ (fun q => q = g5) _ ?_ ?_ ?_ ?_
            · rintro y ⟨g5', c6', e, h⟩
              obtain ⟨e2, -, e3⟩ := sl_inj e
              subst e2 e3
              exact h
            · intro q hq
              exact ⟨g5, c6, rfl, hq⟩
            · rintro q ⟨g5', c6', e, rfl⟩
              exact ((sl_inj e).1).symm
            simp only [Act.put, List.getElem_toArray, List.getElem_cons_zero, List.getElem_cons_succ, List.setIfInBounds_toArray, List.set_cons_zero, List.set_cons_succ]
            refine runX_each [8] (by kernel_rfl) (by kernel_rfl) (by kernel_rfl) (by decide) ?_
            intro i hi
            simp only [List.mem_cons, List.not_mem_nil, or_false] at hi
            subst hi
            refine atX_quiet (.tuple #[.agg #[.int .i64 x1, .int .i64 x2], .bool true, .bool true]) rfl (quiet_of_walk rfl rfl (by simp) (fun y hy K1 hK1 => ?_)) ?_
            · obtain ⟨g0, g1⟩ := hy
              have HM3 := Lib.hid (snoc_of_own g1).1
              simp only [List.getElem_toArray, List.getElem_cons_zero, List.getElem_cons_succ]
              go_big_quiet_step ((with_reducible refine calls_later (KL2.out _ g5 c6 (g0.trans ((Later.h _).mono g0.size)) (HM3.out.below (Later.h _)))))
              exact wpQuiet_nil hK1
            simp only [Act.put, List.getElem_toArray, List.getElem_cons_zero, List.getElem_cons_succ, List.setIfInBounds_toArray, List.set_cons_zero, List.set_cons_succ]
            refine runX_each [9] (by kernel_rfl) (by kernel_rfl) (by kernel_rfl) (by decide) ?_
            intro i hi
            simp only [List.mem_cons, List.not_mem_nil, or_false] at hi
            subst hi
            refine atX_quiet (.tuple #[.agg #[.int .i64 x1, .int .i64 x2], .bool true, .bool true]) rfl (quiet_read rfl (fun y _ => by go_simp)) ?_
            simp only [Act.put, List.getElem_toArray, List.getElem_cons_zero, List.getElem_cons_succ, List.setIfInBounds_toArray, List.set_cons_zero, List.set_cons_succ]
            refine ⟨?_, fun bx hbx _ => ?_⟩
            · skip
              change Run _ _ _ _ _ 7 _ _ _
              refine run_take (i := 10) (.agg #[.int .i64 x1, .int .i64 x2]) rfl (by kernel_rfl) (by kernel_rfl) (by kernel_rfl) rfl (fun y h => h.1) (fun y _ => by go_simp) ?_
              simp only [Act.put, List.getElem_toArray, List.getElem_cons_zero, List.getElem_cons_succ, List.setIfInBounds_toArray, List.set_cons_zero, List.set_cons_succ]
              refine run_take (i := 11) (.bool true) rfl (by kernel_rfl) (by kernel_rfl) (by kernel_rfl) rfl (fun y h => h.1) (fun y _ => by go_simp) ?_
              simp only [Act.put, List.getElem_toArray, List.getElem_cons_zero, List.getElem_cons_succ, List.setIfInBounds_toArray, List.set_cons_zero, List.set_cons_succ]
              refine run_take (i := 12) (.bool true) rfl (by kernel_rfl) (by kernel_rfl) (by kernel_rfl) rfl (fun y h => h.1) (fun y _ => by go_simp) ?_
              simp only [Act.put, List.getElem_toArray, List.getElem_cons_zero, List.getElem_cons_succ, List.setIfInBounds_toArray, List.set_cons_zero, List.set_cons_succ]
              refine run_alloc (w0 := V) (i := 13) (t := 25) (z := .cells #[.int .i64 0, .int .i64 0] 29 (0, 0)) (by kernel_rfl) rfl rfl rfl (fun a w => by go_simp) (fun y h => h.1.size) ?_
              intro bx hbx
              simp only [Act.put, List.setIfInBounds_toArray, List.set_cons_zero, List.set_cons_succ]
              refine run_store (i := 14) (fun y => Below V.heap.size V y ∧ y.heap[bx]? = some (.cells #[.int .i64 x1, .int .i64 x2] 29 (0, 0))) (by kernel_rfl) rfl rfl (fun y y1 h hb => ⟨h.1.trans (hb.mono h.1.size), (hb.block _ (heap_size_lt h.2)).trans h.2⟩) (fun y h => h.1) ?_ ?_
              · rintro y ⟨⟨g0, g1⟩, g2⟩
                obtain ⟨pc0, pc1, pc2, pc3, pc4⟩ := ratrow2 g2
                refine ⟨put2 y bx x1 x2, ?_, ?_⟩
                · unfold put2
                  go_simp
                · exact ⟨(g0.setCell (p := ⟨bx, 0, none⟩) hbx _).setCell (p := ⟨bx, 1, none⟩) hbx _, put2_row g2 _ _⟩
              simp only [Act.put, List.getElem_toArray, List.getElem_cons_zero, List.getElem_cons_succ]
              refine run_quiet (i := 15) (.bool true) (by kernel_rfl) rfl rfl (fun y _ => by go_simp) ?_
              simp only [Act.put, List.getElem_toArray, List.getElem_cons_zero, List.getElem_cons_succ, List.setIfInBounds_toArray, List.set_cons_zero, List.set_cons_succ]
              refine run_quiet (i := 16) (.bool true) (by kernel_rfl) rfl rfl (fun y _ => by go_simp) ?_
              simp only [Act.put, List.getElem_toArray, List.getElem_cons_zero, List.getElem_cons_succ, List.setIfInBounds_toArray, List.set_cons_zero, List.set_cons_succ]
              refine ⟨by kernel_rfl, fun y hy => ?_⟩
              obtain ⟨g0, g1⟩ := hy
              go_wp2_with fail
              go_meet
              exact ⟨⟨bx, rfl, g1⟩, rfl, rfl, g0⟩
            · skip
              simp only [Act.put, List.setIfInBounds_toArray, List.set_cons_zero, List.set_cons_succ]
              refine run_take (i := 10) (.agg #[.int .i64 x1, .int .i64 x2]) rfl (by kernel_rfl) (by kernel_rfl) (by kernel_rfl) rfl (fun y h => h.1.1) (fun y _ => by go_simp) ?_
              simp only [Act.put, List.getElem_toArray, List.getElem_cons_zero, List.getElem_cons_succ, List.setIfInBounds_toArray, List.set_cons_zero, List.set_cons_succ]
              refine run_take (i := 11) (.bool true) rfl (by kernel_rfl) (by kernel_rfl) (by kernel_rfl) rfl (fun y h => h.1.1) (fun y _ => by go_simp) ?_
              simp only [Act.put, List.getElem_toArray, List.getElem_cons_zero, List.getElem_cons_succ, List.setIfInBounds_toArray, List.set_cons_zero, List.set_cons_succ]
              refine run_take (i := 12) (.bool true) rfl (by kernel_rfl) (by kernel_rfl) (by kernel_rfl) rfl (fun y h => h.1.1) (fun y _ => by go_simp) ?_
              simp only [Act.put, List.getElem_toArray, List.getElem_cons_zero, List.getElem_cons_succ, List.setIfInBounds_toArray, List.set_cons_zero, List.set_cons_succ]
              refine run_store (i := 14) (fun y => Below V.heap.size V y ∧ y.heap[bx]? = some (.cells #[.int .i64 x1, .int .i64 x2] 29 (0, 0))) (by kernel_rfl) rfl rfl (fun y y1 h hb => ⟨h.1.trans (hb.mono h.1.size), (hb.block _ (heap_size_lt h.2)).trans h.2⟩) (fun y h => h.1) ?_ ?_
              · rintro y ⟨⟨g0, g1⟩, g2⟩
                obtain ⟨pc0, pc1, pc2, pc3, pc4⟩ := ratrow2 g2
                refine ⟨put2 y bx x1 x2, ?_, ?_⟩
                · unfold put2
                  go_simp
                · exact ⟨(g0.setCell (p := ⟨bx, 0, none⟩) hbx _).setCell (p := ⟨bx, 1, none⟩) hbx _, put2_row g2 _ _⟩
              simp only [Act.put, List.getElem_toArray, List.getElem_cons_zero, List.getElem_cons_succ]
              refine run_quiet (i := 15) (.bool true) (by kernel_rfl) rfl rfl (fun y _ => by go_simp) ?_
              simp only [Act.put, List.getElem_toArray, List.getElem_cons_zero, List.getElem_cons_succ, List.setIfInBounds_toArray, List.set_cons_zero, List.set_cons_succ]
              refine run_quiet (i := 16) (.bool true) (by kernel_rfl) rfl rfl (fun y _ => by go_simp) ?_
              simp only [Act.put, List.getElem_toArray, List.getElem_cons_zero, List.getElem_cons_succ, List.setIfInBounds_toArray, List.set_cons_zero, List.set_cons_succ]
              refine ⟨by kernel_rfl, fun y hy => ?_⟩
              obtain ⟨g0, g1⟩ := hy
              go_wp2_with fail
              go_meet
              exact ⟨⟨bx, rfl, g1⟩, rfl, rfl, g0⟩
          · skip
            refine atX_upd (fun v y => ∃ d7, v = sl d7 1 1 ∧ d7 ≠ b1 ∧ (Below V.heap.size V y ∧ OwnL V.heap.size y b1 ∧ RowK k2 y d7)) (fun _ => fun q => q = b1) rfl rfl ?_ ?_ ?_ ?_ ?_
            · rintro v y y1 ⟨d7, e, hp0, ⟨h0, h1, h2⟩⟩ hb
              exact ⟨d7, e, hp0, h0.trans (hb.mono h0.size), OwnL.st _ _ h1 hb, RowK.st _ _ h2 hb⟩
            · rintro v y ⟨d7, e, hp0, ⟨h0, h1, h2⟩⟩
              exact h0
            · rintro v y ⟨d7, e, hp0, ⟨h0, h1, h2⟩⟩ q hq
              have := h1.lt.2
              omega
            · rintro y ⟨g0, g1⟩
              refine ⟨sl y.heap.size 1 1, y.alloc (.cells #[.int .i64 k2.p, .int .i64 k2.l0, .int .i64 k2.l1, .int .i64 k2.c0, .int .i64 k2.c1] 68), by go_simp, ⟨y.heap.size, rfl, Nat.ne_of_gt g1.lt.2, g0.alloc g0.size _, OwnL.st _ _ g1 ((Below.refl _ y).alloc (Nat.le_refl _) _), World.alloc_heap_new y _⟩, fun q zz _ hz => alloc_block y _ hz, fun q hq => .inl hq⟩
            rintro v ⟨_, d7, rfl, hp0, -⟩
            refine runX_mono _ _ _ (fun y => Below V.heap.size V y ∧ OwnL V.heap.size y b1 ∧ RowK k2 y d7) _ (fun q => q = b1) _ ?_ ?_ ?_ ?_
            · rintro y ⟨d7', e, _, h⟩
              have e2 := (sl_inj e).1
              subst e2
              exact h
            · intro q hq
              exact hq
            · intro q hq
              exact hq
            simp only [Act.put, List.getElem_toArray, List.getElem_cons_zero, List.getElem_cons_succ, List.setIfInBounds_toArray, List.set_cons_zero, List.set_cons_succ]
            refine runX_each [2] (by kernel_rfl) (by kernel_rfl) (by kernel_rfl) (by decide) ?_
            intro i hi
            simp only [List.mem_cons, List.not_mem_nil, or_false] at hi
            subst hi
            refine atX_upd (fun v y => ∃ g8 c9, v = sl g8 n c9 ∧ d7 ≠ g8 ∧ (Below V.heap.size V y ∧ OwnA V.heap.size n m y g8 c9 ∧ RowK k2 y d7)) (fun v q => ∃ g8 c9, v = sl g8 n c9 ∧ q = g8) rfl rfl ?_ ?_ ?_ ?_ ?_
            · rintro v y y1 ⟨g8, c9, e, hp0, ⟨h0, h1, h2⟩⟩ hb
              exact ⟨g8, c9, e, hp0, h0.trans (hb.mono h0.size), OwnA.st _ _ h1 hb, RowK.st _ _ h2 hb⟩
            · rintro v y ⟨g8, c9, e, hp0, ⟨h0, h1, h2⟩⟩
              exact h0
            · rintro v y ⟨g8, c9, e, hp0, ⟨h0, h1, h2⟩⟩ q ⟨g8', c9', e1, rfl⟩
              have e2 := (sl_inj (e.symm.trans e1)).1
              have := h1.lt.2
              omega
            · rintro y ⟨g0, g1, g2⟩
              obtain ⟨g, c', y', hr, a1, a2, a3, a4⟩ := append_list hi0 hz0 hz1 hz2 (n := n) (cap := cap) g0 rfl (HM.out.below g0) hn16 g1
              have hdg : d7 ≠ g := by
                rcases a4 with a4 | a4
                · rw [a4]
                  exact hp0
                · have := heap_size_lt g2
                  omega
              refine ⟨sl g n c', y', exec_append _ _ _ rfl _ _ rfl rfl hr, ⟨g, c', rfl, hdg, a2, a1, a3 _ _ hp0 g2⟩, fun q zz hq hz => a3 q zz hq hz, ?_⟩
              rintro q ⟨g'', c'', e1, rfl⟩
              have e2 := (sl_inj e1).1
              subst e2
              exact a4
            rintro v ⟨_, g8, c9, rfl, hp0, -⟩
            refine runX_mono _ _ _ (fun y => Below V.heap.size V y ∧ OwnA V.heap.size n m y g8 c9 ∧ RowK k2 y d7) _ (fun q => q = g8) _ ?_ ?_ ?_ ?_
            · rintro y ⟨g8', c9', e, _, h⟩
              obtain ⟨e2, -, e3⟩ := sl_inj e
              subst e2 e3
              exact h
            · intro q hq
              exact ⟨g8, c9, rfl, hq⟩
            · rintro q ⟨g8', c9', e, rfl⟩
              exact ((sl_inj e).1).symm
            simp only [Act.put, List.getElem_toArray, List.getElem_cons_zero, List.getElem_cons_succ, List.setIfInBounds_toArray, List.set_cons_zero, List.set_cons_succ]
            refine runX_each [5] (by kernel_rfl) (by kernel_rfl) (by kernel_rfl) (by decide) ?_
            intro i hi
            simp only [List.mem_cons, List.not_mem_nil, or_false] at hi
            subst hi
            refine atX_upd (fun v y => ∃ g10 c11, v = sl g10 (n + 1) c11 ∧ (Below V.heap.size V y ∧ OwnZ V.heap.size n m k2 y g10 c11)) (fun v q => ∃ g10 c11, v = sl g10 (n + 1) c11 ∧ q = g10) rfl rfl ?_ ?_ ?_ ?_ ?_
            · rintro v y y1 ⟨g10, c11, e, ⟨h0, h1⟩⟩ hb
              exact ⟨g10, c11, e, h0.trans (hb.mono h0.size), OwnZ.st _ _ h1 hb⟩
            · rintro v y ⟨g10, c11, e, ⟨h0, h1⟩⟩
              exact h0
            · rintro v y ⟨g10, c11, e, ⟨h0, h1⟩⟩ q ⟨g10', c11', e1, rfl⟩
              have e2 := (sl_inj (e.symm.trans e1)).1
              have := h1.lt.2
              omega
            · rintro y ⟨g0, g1, g2⟩
              obtain ⟨g, c', y', hr, a1, a2, a3, a4⟩ := append_one hi0 hz0 hz1 hz2 g0 rfl hn16 g1 g2
              refine ⟨sl g (n + 1) c', y', exec_append _ _ _ rfl _ _ rfl rfl hr, ⟨g, c', rfl, a2, a1⟩, fun q zz hq hz => a3 q zz hq hz, ?_⟩
              rintro q ⟨g'', c'', e1, rfl⟩
              have e2 := (sl_inj e1).1
              subst e2
              exact a4
            rintro v ⟨_, g10, c11, rfl, -⟩
            refine runX_mono _ _ _ (fun y => Below V.heap.size V y ∧ OwnZ V.heap.size n m k2 y g10 c11) _ (fun q => q = g10) _ ?_ ?_ ?_ ?_
            · rintro y ⟨g10', c11', e, h⟩
              obtain ⟨e2, -, e3⟩ := sl_inj e
              subst e2 e3
              exact h
            · intro q hq
              exact ⟨g10, c11, rfl, hq⟩
            · rintro q ⟨g10', c11', e, rfl⟩
              exact ((sl_inj e).1).symm
            simp only [Act.put, List.getElem_toArray, List.getElem_cons_zero, List.getElem_cons_succ, List.setIfInBounds_toArray, List.set_cons_zero, List.set_cons_succ]
            refine runX_each [8] (by kernel_rfl) (by kernel_rfl) (by kernel_rfl) (by decide) ?_
            intro i hi
            simp only [List.mem_cons, List.not_mem_nil, or_false] at hi
            subst hi
            refine atX_quiet (.tuple #[.agg #[.int .i64 x1, .int .i64 x2], .bool true, .bool true]) rfl (quiet_of_walk rfl rfl (by simp) (fun y hy K1 hK1 => ?_)) ?_
            · obtain ⟨g0, g1⟩ := hy
              have HM3 := Lib.hid (snoc_of_own g1).1
              simp only [List.getElem_toArray, List.getElem_cons_zero, List.getElem_cons_succ]
              go_big_quiet_step ((with_reducible refine calls_later (KL2.out _ g10 c11 (g0.trans ((Later.h _).mono g0.size)) (HM3.out.below (Later.h _)))))
              exact wpQuiet_nil hK1
            simp only [Act.put, List.getElem_toArray, List.getElem_cons_zero, List.getElem_cons_succ, List.setIfInBounds_toArray, List.set_cons_zero, List.set_cons_succ]
            refine runX_each [9] (by kernel_rfl) (by kernel_rfl) (by kernel_rfl) (by decide) ?_
            intro i hi
            simp only [List.mem_cons, List.not_mem_nil, or_false] at hi
            subst hi
            refine atX_quiet (.tuple #[.agg #[.int .i64 x1, .int .i64 x2], .bool true, .bool true]) rfl (quiet_read rfl (fun y _ => by go_simp)) ?_
            simp only [Act.put, List.getElem_toArray, List.getElem_cons_zero, List.getElem_cons_succ, List.setIfInBounds_toArray, List.set_cons_zero, List.set_cons_succ]
            refine ⟨?_, fun bx hbx _ => ?_⟩
            · skip
              change Run _ _ _ _ _ 7 _ _ _
              refine run_take (i := 10) (.agg #[.int .i64 x1, .int .i64 x2]) rfl (by kernel_rfl) (by kernel_rfl) (by kernel_rfl) rfl (fun y h => h.1) (fun y _ => by go_simp) ?_
              simp only [Act.put, List.getElem_toArray, List.getElem_cons_zero, List.getElem_cons_succ, List.setIfInBounds_toArray, List.set_cons_zero, List.set_cons_succ]
              refine run_take (i := 11) (.bool true) rfl (by kernel_rfl) (by kernel_rfl) (by kernel_rfl) rfl (fun y h => h.1) (fun y _ => by go_simp) ?_
              simp only [Act.put, List.getElem_toArray, List.getElem_cons_zero, List.getElem_cons_succ, List.setIfInBounds_toArray, List.set_cons_zero, List.set_cons_succ]
              refine run_take (i := 12) (.bool true) rfl (by kernel_rfl) (by kernel_rfl) (by kernel_rfl) rfl (fun y h => h.1) (fun y _ => by go_simp) ?_
              simp only [Act.put, List.getElem_toArray, List.getElem_cons_zero, List.getElem_cons_succ, List.setIfInBounds_toArray, List.set_cons_zero, List.set_cons_succ]
              refine run_alloc (w0 := V) (i := 13) (t := 25) (z := .cells #[.int .i64 0, .int .i64 0] 29 (0, 0)) (by kernel_rfl) rfl rfl rfl (fun a w => by go_simp) (fun y h => h.1.size) ?_
              intro bx hbx
              simp only [Act.put, List.setIfInBounds_toArray, List.set_cons_zero, List.set_cons_succ]
              refine run_store (i := 14) (fun y => Below V.heap.size V y ∧ y.heap[bx]? = some (.cells #[.int .i64 x1, .int .i64 x2] 29 (0, 0))) (by kernel_rfl) rfl rfl (fun y y1 h hb => ⟨h.1.trans (hb.mono h.1.size), (hb.block _ (heap_size_lt h.2)).trans h.2⟩) (fun y h => h.1) ?_ ?_
              · rintro y ⟨⟨g0, g1⟩, g2⟩
                obtain ⟨pc0, pc1, pc2, pc3, pc4⟩ := ratrow2 g2
                refine ⟨put2 y bx x1 x2, ?_, ?_⟩
                · unfold put2
                  go_simp
                · exact ⟨(g0.setCell (p := ⟨bx, 0, none⟩) hbx _).setCell (p := ⟨bx, 1, none⟩) hbx _, put2_row g2 _ _⟩
              simp only [Act.put, List.getElem_toArray, List.getElem_cons_zero, List.getElem_cons_succ]
              refine run_quiet (i := 15) (.bool true) (by kernel_rfl) rfl rfl (fun y _ => by go_simp) ?_
              simp only [Act.put, List.getElem_toArray, List.getElem_cons_zero, List.getElem_cons_succ, List.setIfInBounds_toArray, List.set_cons_zero, List.set_cons_succ]
              refine run_quiet (i := 16) (.bool true) (by kernel_rfl) rfl rfl (fun y _ => by go_simp) ?_
              simp only [Act.put, List.getElem_toArray, List.getElem_cons_zero, List.getElem_cons_succ, List.setIfInBounds_toArray, List.set_cons_zero, List.set_cons_succ]
              refine ⟨by kernel_rfl, fun y hy => ?_⟩
              obtain ⟨g0, g1⟩ := hy
              go_wp2_with fail
              go_meet
              exact ⟨⟨bx, rfl, g1⟩, rfl, rfl, g0⟩
            · skip
              simp only [Act.put, List.setIfInBounds_toArray, List.set_cons_zero, List.set_cons_succ]
              refine run_take (i := 10) (.agg #[.int .i64 x1, .int .i64 x2]) rfl (by kernel_rfl) (by kernel_rfl) (by kernel_rfl) rfl (fun y h => h.1.1) (fun y _ => by go_simp) ?_
              simp only [Act.put, List.getElem_toArray, List.getElem_cons_zero, List.getElem_cons_succ, List.setIfInBounds_toArray, List.set_cons_zero, List.set_cons_succ]
              refine run_take (i := 11) (.bool true) rfl (by kernel_rfl) (by kernel_rfl) (by kernel_rfl) rfl (fun y h => h.1.1) (fun y _ => by go_simp) ?_
              simp only [Act.put, List.getElem_toArray, List.getElem_cons_zero, List.getElem_cons_succ, List.setIfInBounds_toArray, List.set_cons_zero, List.set_cons_succ]
              refine run_take (i := 12) (.bool true) rfl (by kernel_rfl) (by kernel_rfl) (by kernel_rfl) rfl (fun y h => h.1.1) (fun y _ => by go_simp) ?_
              simp only [Act.put, List.getElem_toArray, List.getElem_cons_zero, List.getElem_cons_succ, List.setIfInBounds_toArray, List.set_cons_zero, List.set_cons_succ]
              refine run_store (i := 14) (fun y => Below V.heap.size V y ∧ y.heap[bx]? = some (.cells #[.int .i64 x1, .int .i64 x2] 29 (0, 0))) (by kernel_rfl) rfl rfl (fun y y1 h hb => ⟨h.1.trans (hb.mono h.1.size), (hb.block _ (heap_size_lt h.2)).trans h.2⟩) (fun y h => h.1) ?_ ?_
              · rintro y ⟨⟨g0, g1⟩, g2⟩
                obtain ⟨pc0, pc1, pc2, pc3, pc4⟩ := ratrow2 g2
                refine ⟨put2 y bx x1 x2, ?_, ?_⟩
                · unfold put2
                  go_simp
                · exact ⟨(g0.setCell (p := ⟨bx, 0, none⟩) hbx _).setCell (p := ⟨bx, 1, none⟩) hbx _, put2_row g2 _ _⟩
              simp only [Act.put, List.getElem_toArray, List.getElem_cons_zero, List.getElem_cons_succ]
              refine run_quiet (i := 15) (.bool true) (by kernel_rfl) rfl rfl (fun y _ => by go_simp) ?_
              simp only [Act.put, List.getElem_toArray, List.getElem_cons_zero, List.getElem_cons_succ, List.setIfInBounds_toArray, List.set_cons_zero, List.set_cons_succ]
              refine run_quiet (i := 16) (.bool true) (by kernel_rfl) rfl rfl (fun y _ => by go_simp) ?_
              simp only [Act.put, List.getElem_toArray, List.getElem_cons_zero, List.getElem_cons_succ, List.setIfInBounds_toArray, List.set_cons_zero, List.set_cons_succ]
              refine ⟨by kernel_rfl, fun y hy => ?_⟩
              obtain ⟨g0, g1⟩ := hy
              go_wp2_with fail
              go_meet
              exact ⟨⟨bx, rfl, g1⟩, rfl, rfl, g0⟩
        · skip
          refine atX_upd (fun v y => ∃ d12, v = sl d12 1 1 ∧ (Below V.heap.size V y ∧ RowK k2 y d12)) (fun _ => fun _ => False) rfl rfl ?_ ?_ ?_ ?_ ?_
          · rintro v y y1 ⟨d12, e, ⟨h0, h2⟩⟩ hb
            exact ⟨d12, e, h0.trans (hb.mono h0.size), RowK.st _ _ h2 hb⟩
          · rintro v y ⟨d12, e, ⟨h0, h2⟩⟩
            exact h0
          · rintro v y _ q hq
            exact hq.elim
          · rintro y g0
            refine ⟨sl y.heap.size 1 1, y.alloc (.cells #[.int .i64 k2.p, .int .i64 k2.l0, .int .i64 k2.l1, .int .i64 k2.c0, .int .i64 k2.c1] 68), by go_simp, ⟨y.heap.size, rfl, g0.alloc g0.size _, World.alloc_heap_new y _⟩, fun q zz _ hz => alloc_block y _ hz, fun q hq => .inl hq⟩
          rintro v ⟨_, d12, rfl, -⟩
          refine runX_mono _ _ _ (fun y => Below V.heap.size V y ∧ RowK k2 y d12) _ (fun _ => False) _ ?_ ?_ ?_ ?_
          · rintro y ⟨d12', e, h⟩
            have e2 := (sl_inj e).1
            subst e2
            exact h
          · intro q hq
            exact hq
          · intro q hq
            exact hq
          simp only [Act.put, List.getElem_toArray, List.getElem_cons_zero, List.getElem_cons_succ, List.setIfInBounds_toArray, List.set_cons_zero, List.set_cons_succ]
          refine runX_each [0] (by kernel_rfl) (by kernel_rfl) (by kernel_rfl) (by decide) ?_
          intro i hi
          simp only [List.mem_cons, List.not_mem_nil, or_false] at hi
          subst hi
          refine atX_upd (fun v y => ∃ b13, v = sl b13 0 0 ∧ d12 ≠ b13 ∧ (Below V.heap.size V y ∧ OwnL V.heap.size y b13 ∧ RowK k2 y d12)) (fun v q => ∃ b13, v = sl b13 0 0 ∧ q = b13) rfl rfl ?_ ?_ ?_ ?_ ?_
          · rintro v y y1 ⟨b13, e, hp0, ⟨h0, h1, h2⟩⟩ hb
            exact ⟨b13, e, hp0, h0.trans (hb.mono h0.size), OwnL.st _ _ h1 hb, RowK.st _ _ h2 hb⟩
          · rintro v y ⟨b13, e, hp0, ⟨h0, h1, h2⟩⟩
            exact h0
          · rintro v y ⟨b13, e, hp0, ⟨h0, h1, h2⟩⟩ q ⟨b13', e1, rfl⟩
            have e2 := (sl_inj (e.symm.trans e1)).1
            have := h1.lt.2
            omega
          · rintro y ⟨g0, g2⟩
            refine ⟨sl y.heap.size 0 0, y.alloc (.cells #[] 68), by go_simp, ⟨y.heap.size, rfl, Nat.ne_of_lt (heap_size_lt g2), g0.alloc g0.size _, lit_owns g0.size, RowK.st _ _ g2 ((Below.refl _ y).alloc (Nat.le_refl _) _)⟩, fun q zz _ hz => alloc_block y _ hz, ?_⟩
            rintro q ⟨b', e1, rfl⟩
            right
            have := (sl_inj e1).1
            omega
          rintro v ⟨_, b13, rfl, hp0, -⟩
          refine runX_mono _ _ _ (fun y => Below V.heap.size V y ∧ OwnL V.heap.size y b13 ∧ RowK k2 y d12) _ (fun q => q = b13) _ ?_ ?_ ?_ ?_
          · rintro y ⟨b13', e, _, h⟩
            have e2 := (sl_inj e).1
            subst e2
            exact h
          · intro q hq
            exact ⟨b13, rfl, hq⟩
          · rintro q ⟨b13', e, rfl⟩
            exact ((sl_inj e).1).symm
          simp only [Act.put, List.getElem_toArray, List.getElem_cons_zero, List.setIfInBounds_toArray, List.set_cons_zero, List.set_cons_succ]
          refine runX_each [2] (by kernel_rfl) (by kernel_rfl) (by kernel_rfl) (by decide) ?_
          intro i hi
          simp only [List.mem_cons, List.not_mem_nil, or_false] at hi
          subst hi
          refine atX_upd (fun v y => ∃ g14 c15, v = sl g14 n c15 ∧ d12 ≠ g14 ∧ (Below V.heap.size V y ∧ OwnA V.heap.size n m y g14 c15 ∧ RowK k2 y d12)) (fun v q => ∃ g14 c15, v = sl g14 n c15 ∧ q = g14) rfl rfl ?_ ?_ ?_ ?_ ?_
          · rintro v y y1 ⟨g14, c15, e, hp0, ⟨h0, h1, h2⟩⟩ hb
            exact ⟨g14, c15, e, hp0, h0.trans (hb.mono h0.size), OwnA.st _ _ h1 hb, RowK.st _ _ h2 hb⟩
          · rintro v y ⟨g14, c15, e, hp0, ⟨h0, h1, h2⟩⟩
            exact h0
          · rintro v y ⟨g14, c15, e, hp0, ⟨h0, h1, h2⟩⟩ q ⟨g14', c15', e1, rfl⟩
            have e2 := (sl_inj (e.symm.trans e1)).1
            have := h1.lt.2
            omega
          · rintro y ⟨g0, g1, g2⟩
            obtain ⟨g, c', y', hr, a1, a2, a3, a4⟩ := append_list hi0 hz0 hz1 hz2 (n := n) (cap := cap) g0 rfl (HM.out.below g0) hn16 g1
            have hdg : d12 ≠ g := by
              rcases a4 with a4 | a4
              · rw [a4]
                exact hp0
              · have := heap_size_lt g2
                omega
            refine ⟨sl g n c', y', exec_append _ _ _ rfl _ _ rfl rfl hr, ⟨g, c', rfl, hdg, a2, a1, a3 _ _ hp0 g2⟩, fun q zz hq hz => a3 q zz hq hz, ?_⟩
            rintro q ⟨g'', c'', e1, rfl⟩
            have e2 := (sl_inj e1).1
            subst e2
            exact a4
          rintro v ⟨_, g14, c15, rfl, hp0, -⟩
          refine runX_mono _ _ _ (fun y => Below V.heap.size V y ∧ OwnA V.heap.size n m y g14 c15 ∧ RowK k2 y d12) _ (fun q => q = g14) _ ?_ ?_ ?_ ?_
          · rintro y ⟨g14', c15', e, _, h⟩
            obtain ⟨e2, -, e3⟩ := sl_inj e
            subst e2 e3
            exact h
          · intro q hq
            exact ⟨g14, c15, rfl, hq⟩
          · rintro q ⟨g14', c15', e, rfl⟩
            exact ((sl_inj e).1).symm
          simp only [Act.put, List.getElem_toArray, List.getElem_cons_zero, List.getElem_cons_succ, List.setIfInBounds_toArray, List.set_cons_zero, List.set_cons_succ]
          refine runX_each [5] (by kernel_rfl) (by kernel_rfl) (by kernel_rfl) (by decide) ?_
          intro i hi
          simp only [List.mem_cons, List.not_mem_nil, or_false] at hi
          subst hi
          refine atX_upd (fun v y => ∃ g16 c17, v = sl g16 (n + 1) c17 ∧ (Below V.heap.size V y ∧ OwnZ V.heap.size n m k2 y g16 c17)) (fun v q => ∃ g16 c17, v = sl g16 (n + 1) c17 ∧ q = g16) rfl rfl ?_ ?_ ?_ ?_ ?_
          · rintro v y y1 ⟨g16, c17, e, ⟨h0, h1⟩⟩ hb
            exact ⟨g16, c17, e, h0.trans (hb.mono h0.size), OwnZ.st _ _ h1 hb⟩
          · rintro v y ⟨g16, c17, e, ⟨h0, h1⟩⟩
            exact h0
          · rintro v y ⟨g16, c17, e, ⟨h0, h1⟩⟩ q ⟨g16', c17', e1, rfl⟩
            have e2 := (sl_inj (e.symm.trans e1)).1
            have := h1.lt.2
            omega
          · rintro y ⟨g0, g1, g2⟩
            obtain ⟨g, c', y', hr, a1, a2, a3, a4⟩ := append_one hi0 hz0 hz1 hz2 g0 rfl hn16 g1 g2
            refine ⟨sl g (n + 1) c', y', exec_append _ _ _ rfl _ _ rfl rfl hr, ⟨g, c', rfl, a2, a1⟩, fun q zz hq hz => a3 q zz hq hz, ?_⟩
            rintro q ⟨g'', c'', e1, rfl⟩
            have e2 := (sl_inj e1).1
            subst e2
            exact a4
          rintro v ⟨_, g16, c17, rfl, -⟩
          refine runX_mono _ _ _ (fun y => Below V.heap.size V y ∧ OwnZ V.heap.size n m k2 y g16 c17) _ (fun q => q = g16) _ ?_ ?_ ?_ ?_
          · rintro y ⟨g16', c17', e, h⟩
            obtain ⟨e2, -, e3⟩ := sl_inj e
            subst e2 e3
            exact h
          · intro q hq
            exact ⟨g16, c17, rfl, hq⟩
          · rintro q ⟨g16', c17', e, rfl⟩
            exact ((sl_inj e).1).symm
          simp only [Act.put, List.getElem_toArray, List.getElem_cons_zero, List.getElem_cons_succ, List.setIfInBounds_toArray, List.set_cons_zero, List.set_cons_succ]
          refine runX_each [8] (by kernel_rfl) (by kernel_rfl) (by kernel_rfl) (by decide) ?_
          intro i hi
          simp only [List.mem_cons, List.not_mem_nil, or_false] at hi
          subst hi
          refine atX_quiet (.tuple #[.agg #[.int .i64 x1, .int .i64 x2], .bool true, .bool true]) rfl (quiet_of_walk rfl rfl (by simp) (fun y hy K1 hK1 => ?_)) ?_
          · obtain ⟨g0, g1⟩ := hy
            have HM3 := Lib.hid (snoc_of_own g1).1
            simp only [List.getElem_toArray, List.getElem_cons_zero, List.getElem_cons_succ]
            go_big_quiet_step ((with_reducible refine calls_later (KL2.out _ g16 c17 (g0.trans ((Later.h _).mono g0.size)) (HM3.out.below (Later.h _)))))
            exact wpQuiet_nil hK1
          simp only [Act.put, List.getElem_toArray, List.getElem_cons_zero, List.getElem_cons_succ, List.setIfInBounds_toArray, List.set_cons_zero, List.set_cons_succ]
          refine runX_each [9] (by kernel_rfl) (by kernel_rfl) (by kernel_rfl) (by decide) ?_
          intro i hi
          simp only [List.mem_cons, List.not_mem_nil, or_false] at hi
          subst hi
          refine atX_quiet (.tuple #[.agg #[.int .i64 x1, .int .i64 x2], .bool true, .bool true]) rfl (quiet_read rfl (fun y _ => by go_simp)) ?_
          simp only [Act.put, List.getElem_toArray, List.getElem_cons_zero, List.getElem_cons_succ, List.setIfInBounds_toArray, List.set_cons_zero, List.set_cons_succ]
          refine ⟨?_, fun bx hbx _ => ?_⟩
          · skip
            change Run _ _ _ _ _ 7 _ _ _
            refine run_take (i := 10) (.agg #[.int .i64 x1, .int .i64 x2]) rfl (by kernel_rfl) (by kernel_rfl) (by kernel_rfl) rfl (fun y h => h.1) (fun y _ => by go_simp) ?_
            simp only [Act.put, List.getElem_toArray, List.getElem_cons_zero, List.getElem_cons_succ, List.setIfInBounds_toArray, List.set_cons_zero, List.set_cons_succ]
            refine run_take (i := 11) (.bool true) rfl (by kernel_rfl) (by kernel_rfl) (by kernel_rfl) rfl (fun y h => h.1) (fun y _ => by go_simp) ?_
            simp only [Act.put, List.getElem_toArray, List.getElem_cons_zero, List.getElem_cons_succ, List.setIfInBounds_toArray, List.set_cons_zero, List.set_cons_succ]
            refine run_take (i := 12) (.bool true) rfl (by kernel_rfl) (by kernel_rfl) (by kernel_rfl) rfl (fun y h => h.1) (fun y _ => by go_simp) ?_
            simp only [Act.put, List.getElem_toArray, List.getElem_cons_zero, List.getElem_cons_succ, List.setIfInBounds_toArray, List.set_cons_zero, List.set_cons_succ]
            refine run_alloc (w0 := V) (i := 13) (t := 25) (z := .cells #[.int .i64 0, .int .i64 0] 29 (0, 0)) (by kernel_rfl) rfl rfl rfl (fun a w => by go_simp) (fun y h => h.1.size) ?_
            intro bx hbx
            simp only [Act.put, List.setIfInBounds_toArray, List.set_cons_zero, List.set_cons_succ]
            refine run_store (i := 14) (fun y => Below V.heap.size V y ∧ y.heap[bx]? = some (.cells #[.int .i64 x1, .int .i64 x2] 29 (0, 0))) (by kernel_rfl) rfl rfl (fun y y1 h hb => ⟨h.1.trans (hb.mono h.1.size), (hb.block _ (heap_size_lt h.2)).trans h.2⟩) (fun y h => h.1) ?_ ?_
            · rintro y ⟨⟨g0, g1⟩, g2⟩
              obtain ⟨pc0, pc1, pc2, pc3, pc4⟩ := ratrow2 g2
              refine ⟨put2 y bx x1 x2, ?_, ?_⟩
              · unfold put2
                go_simp
              · exact ⟨(g0.setCell (p := ⟨bx, 0, none⟩) hbx _).setCell (p := ⟨bx, 1, none⟩) hbx _, put2_row g2 _ _⟩
            simp only [Act.put, List.getElem_toArray, List.getElem_cons_zero, List.getElem_cons_succ]
            refine run_quiet (i := 15) (.bool true) (by kernel_rfl) rfl rfl (fun y _ => by go_simp) ?_
            simp only [Act.put, List.getElem_toArray, List.getElem_cons_zero, List.getElem_cons_succ, List.setIfInBounds_toArray, List.set_cons_zero, List.set_cons_succ]
            refine run_quiet (i := 16) (.bool true) (by kernel_rfl) rfl rfl (fun y _ => by go_simp) ?_
            simp only [Act.put, List.getElem_toArray, List.getElem_cons_zero, List.getElem_cons_succ, List.setIfInBounds_toArray, List.set_cons_zero, List.set_cons_succ]
            refine ⟨by kernel_rfl, fun y hy => ?_⟩
            obtain ⟨g0, g1⟩ := hy
            go_wp2_with fail
            go_meet
            exact ⟨⟨bx, rfl, g1⟩, rfl, rfl, g0⟩
          · skip
            simp only [Act.put, List.setIfInBounds_toArray, List.set_cons_zero, List.set_cons_succ]
            refine run_take (i := 10) (.agg #[.int .i64 x1, .int .i64 x2]) rfl (by kernel_rfl) (by kernel_rfl) (by kernel_rfl) rfl (fun y h => h.1.1) (fun y _ => by go_simp) ?_
            simp only [Act.put, List.getElem_toArray, List.getElem_cons_zero, List.getElem_cons_succ, List.setIfInBounds_toArray, List.set_cons_zero, List.set_cons_succ]
            refine run_take (i := 11) (.bool true) rfl (by kernel_rfl) (by kernel_rfl) (by kernel_rfl) rfl (fun y h => h.1.1) (fun y _ => by go_simp) ?_
            simp only [Act.put, List.getElem_toArray, List.getElem_cons_zero, List.getElem_cons_succ, List.setIfInBounds_toArray, List.set_cons_zero, List.set_cons_succ]
            refine run_take (i := 12) (.bool true) rfl (by kernel_rfl) (by kernel_rfl) (by kernel_rfl) rfl (fun y h => h.1.1) (fun y _ => by go_simp) ?_
            simp only [Act.put, List.getElem_toArray, List.getElem_cons_zero, List.getElem_cons_succ, List.setIfInBounds_toArray, List.set_cons_zero, List.set_cons_succ]
            refine run_store (i := 14) (fun y => Below V.heap.size V y ∧ y.heap[bx]? = some (.cells #[.int .i64 x1, .int .i64 x2] 29 (0, 0))) (by kernel_rfl) rfl rfl (fun y y1 h hb => ⟨h.1.trans (hb.mono h.1.size), (hb.block _ (heap_size_lt h.2)).trans h.2⟩) (fun y h => h.1) ?_ ?_
            · rintro y ⟨⟨g0, g1⟩, g2⟩
              obtain ⟨pc0, pc1, pc2, pc3, pc4⟩ := ratrow2 g2
              refine ⟨put2 y bx x1 x2, ?_, ?_⟩
              · unfold put2
                go_simp
              · exact ⟨(g0.setCell (p := ⟨bx, 0, none⟩) hbx _).setCell (p := ⟨bx, 1, none⟩) hbx _, put2_row g2 _ _⟩
            simp only [Act.put, List.getElem_toArray, List.getElem_cons_zero, List.getElem_cons_succ]
            refine run_quiet (i := 15) (.bool true) (by kernel_rfl) rfl rfl (fun y _ => by go_simp) ?_
            simp only [Act.put, List.getElem_toArray, List.getElem_cons_zero, List.getElem_cons_succ, List.setIfInBounds_toArray, List.set_cons_zero, List.set_cons_succ]
            refine run_quiet (i := 16) (.bool true) (by kernel_rfl) rfl rfl (fun y _ => by go_simp) ?_
            simp only [Act.put, List.getElem_toArray, List.getElem_cons_zero, List.getElem_cons_succ, List.setIfInBounds_toArray, List.set_cons_zero, List.set_cons_succ]
            refine ⟨by kernel_rfl, fun y hy => ?_⟩
            obtain ⟨g0, g1⟩ := hy
            go_wp2_with fail
            go_meet
            exact ⟨⟨bx, rfl, g1⟩, rfl, rfl, g0⟩
      case rest =>
      obtain ⟨⟨bX, rfl, hrow⟩, rfl, rfl, hcb⟩ := hcut
      obtain ⟨wy, hww⟩ : ∃ x, x = wc := ⟨_, rfl⟩
      subst hww
      replace HM := Lib.hid (HM.out.below hcb)
      replace HT := Lib.hid (RowIs.below HT.out hcb)
      replace RA := Lib.hid (RowIs.below RA.out hcb)
      replace HK2 := Lib.hid (RowIs.below HK2.out hcb)
      replace hB := bup hB hcb
      have RX := Lib.hid hrow
      clear hrow hcb KL2
      have heq0 := fun (w : World) => eqRat x1 x2 w
      obtain ⟨v340, v341, _, _, v34z⟩ := ratrow2 RA.out
      obtain ⟨v350, v351, _, _, v35z⟩ := ratrow2 RX.out
      go_wp2_with fail
      refine (works_c _).mono ?_
      rintro e wz ⟨rfl, hbz⟩
      go_wp2
      go_ret
      exact ⟨rfl, bup hB hbz⟩

end Go.Proofs.YtehafggcncbnkaaGreat
