/- For whatever arguments, the law MouldMore returns true, and each argument reads behind the call as it read before. No condition. -/
import Derived.Shelf.Abstract
import Derived.Shelf.RegionOpen
import Derived.Deep.RegionHeld3
import Derived.Deep.CutRange
import Derived.Deep.DeepCutAuto
import Derived.Test.YtbjgbgchagfokaaProg
import Derived.Test.YtbjgbgchagfokaaBasaa
import Derived.Test.YtbjgbgchagfokaaBasaj
import Derived.Test.YtbjgbgchagfokaaQmoaa
import Derived.Test.YtbjgbgchagfokaaBasay
import Derived.Test.YtbjgbgchagfokaaBasbc
import Derived.Test.YtbjgbgchagfokaaRows
import Derived.Test.YtbjgbgchagfokaaBasbd
import Derived.ProofKit
namespace Go.Proofs.Ytbjgbgchagfokaa
open Go Go.RowKit Go.Shelf


set_option maxRecDepth 100000 in
set_option maxHeartbeats 64000000 in
theorem law_more_c (S M : Int) (a : Option Addr) (n cap : Nat) (f : Nat → W2) (x y : Int) (w : World) (hf : Wants w a n f) (hx : 0 ≤ x ∧ x ≤ 255) (hy : 0 ≤ y ∧ y ≤ 255) :
    Calls Try.prog 11 #[bookV S M a n cap, .int .u8 x, .int .u8 y] w fun e w' => e = .returned (.bool true) ∧ Below w.heap.size w w' := by
  obtain ⟨x, rfl⟩ := Int.eq_ofNat_of_zero_le hx.1
  obtain ⟨y, rfl⟩ := Int.eq_ofNat_of_zero_le hy.1
  obtain ⟨W, hW⟩ : ∃ W, w.alloc (.cells #[.int .i64 S, .int .i64 M, .slice a n cap] 24) = W := ⟨_, rfl⟩
  have hB : Below w.heap.size w W := by rw [← hW]; exact Below.alloc1 (Below.refl _ _) _ (Nat.le_refl _)
  have hR : RowIs W w.heap.size #[.int .i64 S, .int .i64 M, .slice a n cap] 24 := by rw [← hW]; exact heap_new_at _ _ _ rfl
  have r0 : W.cell? ⟨w.heap.size, 0, none⟩ = some (.int .i64 S) := RowIs.cell hR 0
  have r1 : W.cell? ⟨w.heap.size, 1, none⟩ = some (.int .i64 M) := RowIs.cell hR 1
  have r2 : W.cell? ⟨w.heap.size, 2, none⟩ = some (.slice a n cap) := RowIs.cell hR 2
  have rz : w.heap.size < W.heap.size := hR.lt
  have HF := Lib.hid (hf.below hB)
  have HR := Lib.hid hR
  clear hR hf
  cases hE : decide (bookE S M n f = 0) with
  | false =>
    have HC := Lib.hid (fun (x : World) (h : Wants x a n f) => fine_c S M a n cap f x h)
    rw [hE] at HC
    clear hE
    go_enter Try.func11, Try.ntmps11
    go_wp2_with fail
    refine (HC.out _ HF.out).mono ?_
    rintro e w1 ⟨rfl, hb1⟩
    replace HR := Lib.hid (RowIs.below HR.out hb1)
    replace HF := Lib.hid (HF.out.below hb1)
    replace hB := bup hB hb1
    clear r0 r1 r2 rz hb1
    have r0 : w1.cell? ⟨w.heap.size, 0, none⟩ = some (.int .i64 S) := RowIs.cell HR.out 0
    have r1 : w1.cell? ⟨w.heap.size, 1, none⟩ = some (.int .i64 M) := RowIs.cell HR.out 1
    have r2 : w1.cell? ⟨w.heap.size, 2, none⟩ = some (.slice a n cap) := RowIs.cell HR.out 2
    have rz : w.heap.size < w1.heap.size := HR.out.lt
    go_wp2_with fail
    refine (works_c _).mono ?_
    rintro e wz ⟨rfl, hbz⟩
    go_wp2_with fail
    go_ret
    exact ⟨rfl, bup hB hbz⟩
  | true =>
    have HC := Lib.hid (fun (x : World) (h : Wants x a n f) => fine_c S M a n cap f x h)
    rw [hE] at HC
    have hE0 := of_decide_eq_true hE
    clear hE
    have hGB := book_good hE0
    obtain ⟨s, rfl⟩ : ∃ s : Nat, S = s := ⟨S.toNat, by have := hGB.1; omega⟩
    obtain ⟨m, rfl⟩ : ∃ m : Nat, M = m := ⟨M.toNat, by have := hGB.2.1; omega⟩
    have hs1 : 1 ≤ s ∧ s ≤ 6 := by have := hGB.1; omega
    have hm1 : 1 ≤ m ∧ m ≤ 6 := by have := hGB.2.1; omega
    have hn14 := hGB.2.2.1
    by_cases h14 : 14 ≤ n
    · have t0 : decide ((14 : Int) ≤ (n : Int)) = true := by simp; omega
      go_enter Try.func11, Try.ntmps11
      go_wp2_with fail
      refine (HC.out _ HF.out).mono ?_
      rintro e w1 ⟨rfl, hb1⟩
      replace HR := Lib.hid (RowIs.below HR.out hb1)
      replace HF := Lib.hid (HF.out.below hb1)
      replace hB := bup hB hb1
      clear r0 r1 r2 rz hb1
      have r0 : w1.cell? ⟨w.heap.size, 0, none⟩ = some (.int .i64 s) := RowIs.cell HR.out 0
      have r1 : w1.cell? ⟨w.heap.size, 1, none⟩ = some (.int .i64 m) := RowIs.cell HR.out 1
      have r2 : w1.cell? ⟨w.heap.size, 2, none⟩ = some (.slice a n cap) := RowIs.cell HR.out 2
      have rz : w.heap.size < w1.heap.size := HR.out.lt
      go_wp2_with fail
      refine (works_c _).mono ?_
      rintro e wz ⟨rfl, hbz⟩
      go_wp2_with fail
      go_ret
      exact ⟨rfl, bup hB hbz⟩
    have t0 : decide ((14 : Int) ≤ (n : Int)) = false := by simp; omega
    obtain ⟨p, hp⟩ : ∃ p, x % s = p := ⟨_, rfl⟩
    obtain ⟨q, hq⟩ : ∃ q, y % m = q := ⟨_, rfl⟩
    have hps : p < s := by rw [← hp]; exact Nat.mod_lt _ (by omega)
    have hqm : q < m := by rw [← hq]; exact Nat.mod_lt _ (by omega)
    have ta1 : Int.tmod (x : Int) (s : Int) = (p : Int) := by rw [← hp]; exact (Int.ofNat_tmod x s).symm
    have tb1 : (x : Int) % (s : Int) = (p : Int) := by rw [← hp]; exact (Int.natCast_emod x s).symm
    have ta2 : Int.tmod (y : Int) (m : Int) = (q : Int) := by rw [← hq]; exact (Int.ofNat_tmod y m).symm
    have tb2 : (y : Int) % (m : Int) = (q : Int) := by rw [← hq]; exact (Int.natCast_emod y m).symm
    have tc1 : IntKind.i64.wrap (x : Int) = (x : Int) := IntWalk.i64_in _ (by omega)
    have tc2 : IntKind.i64.wrap (y : Int) = (y : Int) := IntWalk.i64_in _ (by omega)
    obtain ⟨k, hk⟩ : ∃ k : W2, (⟨(p : Int), (q : Int)⟩ : W2) = k := ⟨_, rfl⟩
    have hks : k.s = (p : Int) := by rw [← hk]
    have hkm : k.m = (q : Int) := by rw [← hk]
    have hG2 := more_good (s := k.s) (m := k.m) hGB (by omega) (by omega) (by omega)
    have hE2 := good_bookE hG2
    have HE := Lib.hid hE0
    have HE2 := Lib.hid hE2
    obtain ⟨u1, u2⟩ := more_best f n k.s k.m
    have HK1 := Lib.hid hks
    have HK2 := Lib.hid hkm
    clear hE0 hE2 hG2 hp hq hk hks hkm
    go_enter Try.func11, Try.ntmps11
    go_wp2_with fail
    refine (HC.out _ HF.out).mono ?_
    rintro e w1 ⟨rfl, hb1⟩
    replace HR := Lib.hid (RowIs.below HR.out hb1)
    replace HF := Lib.hid (HF.out.below hb1)
    replace hB := bup hB hb1
    clear r0 r1 r2 rz hb1
    have r0 : w1.cell? ⟨w.heap.size, 0, none⟩ = some (.int .i64 s) := RowIs.cell HR.out 0
    have r1 : w1.cell? ⟨w.heap.size, 1, none⟩ = some (.int .i64 m) := RowIs.cell HR.out 1
    have r2 : w1.cell? ⟨w.heap.size, 2, none⟩ = some (.slice a n cap) := RowIs.cell HR.out 2
    have rz : w.heap.size < w1.heap.size := HR.out.lt
    go_wp2_with fail
    clear HC t0
    refine wp_region_float 11 7 113 (.cells #[.int .i64 0, .int .i64 0] 58 (0, 0)) _ (by kernel_rfl) (by kernel_rfl) rfl rfl rfl ?hal (by kernel_rfl) (by kernel_rfl) rfl rfl ?_
    case hal => intro a w; go_simp
    simp only [List.take_succ_cons, List.take_zero, List.drop_succ_cons, List.drop_zero]
    apply Exists.intro
    refine ⟨fun w2 hb2 K hK => ?_, ?_⟩
    · have hlc := fun (x : Later w2) => later_cell2 hb2 x
      repeat (go_big_quiet_step (fail))
      exact wpQuiet_nil hK
    intro bk w2 hbk hb2 hz
    have hr2 : RowIs w2 bk #[.int .i64 0, .int .i64 0] 58 := hz
    clear r0 r1 r2 rz
    have c0 := hr2.cell 0
    have c1 := hr2.cell 1
    have z0 := hr2.frozen 0
    have z1 := hr2.frozen 1
    simp at c0 c1
    have hbz := (Array.getElem?_eq_some_iff.1 hr2).1
    have Hr2 := Lib.hid hr2
    clear hz hr2
    go_wp2_with fail
    obtain ⟨w3, hw3⟩ : ∃ w3, (w2.setCell ⟨bk, 0, none⟩ (.int .i64 (p : Int))).setCell ⟨bk, 1, none⟩ (.int .i64 (q : Int)) = w3 := ⟨_, rfl⟩
    have hr3 : RowIs w3 bk #[.int .i64 k.s, .int .i64 k.m] 58 := by rw [← hw3, HK1.out, HK2.out]; simpa using (Hr2.out.set 0 (.int .i64 (p : Int))).set 1 (.int .i64 (q : Int))
    have hb3 : Below w1.heap.size w1 w3 := by rw [← hw3]; exact (hb2.setCell (p := ⟨bk, 0, none⟩) hbk _).setCell (p := ⟨bk, 1, none⟩) hbk _
    rw [hw3]
    have HRK := Lib.hid hr3
    clear hw3 hr3 hb2 c0 c1 z0 z1 hbz Hr2 ta1 tb1 ta2 tb2 tc1 tc2 HK1 HK2
    replace HR := Lib.hid (RowIs.below HR.out hb3)
    replace HF := Lib.hid (HF.out.below hb3)
    replace hB := bup hB hb3
    clear hb3
    have r0 : w3.cell? ⟨w.heap.size, 0, none⟩ = some (.int .i64 s) := RowIs.cell HR.out 0
    have r1 : w3.cell? ⟨w.heap.size, 1, none⟩ = some (.int .i64 m) := RowIs.cell HR.out 1
    have r2 : w3.cell? ⟨w.heap.size, 2, none⟩ = some (.slice a n cap) := RowIs.cell HR.out 2
    have rz : w.heap.size < w3.heap.size := HR.out.lt
    clear hbk
    go_cut [8] from 40 to 51 (fun e wx => ∃ bx gx cx, e = .pointer (some ⟨bx, 0, none⟩) ∧ RowIs wx bx #[.int .i64 s, .int .i64 m, .slice (some ⟨gx, 0, none⟩) (n + 1) cx] 24 ∧ Wants wx (some ⟨gx, 0, none⟩) (n + 1) (moreW f n k.s k.m) ∧ Below w3.heap.size w3 wx)
    case first =>
      refine wp_region_run0 (by kernel_rfl) ?_
      change Run _ _ _ _ _ 14 _ _ _
      refine run_take (i := 0) (.pointer (some ⟨w.heap.size, 0, none⟩)) rfl (by kernel_rfl) (by kernel_rfl) (by kernel_rfl) rfl (fun y h => h) (fun y hy => by go_simp) ?_
      simp only [Act.put, List.getElem_toArray, List.getElem_cons_zero, List.setIfInBounds_toArray, List.set_cons_zero, List.set_cons_succ]
      refine run_take (i := 1) (.int .i64 (s : Int)) rfl (by kernel_rfl) (by kernel_rfl) (by kernel_rfl) rfl (fun y h => h) (fun y hy => by have c0 := (hy.cell (p := ⟨w.heap.size, 0, none⟩) rz).trans r0; go_simp) ?_
      simp only [Act.put, List.getElem_toArray, List.getElem_cons_zero, List.getElem_cons_succ, List.setIfInBounds_toArray, List.set_cons_zero, List.set_cons_succ]
      refine run_take (i := 2) (.pointer (some ⟨w.heap.size, 1, none⟩)) rfl (by kernel_rfl) (by kernel_rfl) (by kernel_rfl) rfl (fun y h => h) (fun y hy => by go_simp) ?_
      simp only [Act.put, List.getElem_toArray, List.getElem_cons_zero, List.getElem_cons_succ, List.setIfInBounds_toArray, List.set_cons_zero, List.set_cons_succ]
      refine run_take (i := 3) (.int .i64 (m : Int)) rfl (by kernel_rfl) (by kernel_rfl) (by kernel_rfl) rfl (fun y h => h) (fun y hy => by have c0 := (hy.cell (p := ⟨w.heap.size, 1, none⟩) rz).trans r1; go_simp) ?_
      simp only [Act.put, List.getElem_toArray, List.getElem_cons_zero, List.getElem_cons_succ, List.setIfInBounds_toArray, List.set_cons_zero, List.set_cons_succ]
      refine run_take (i := 5) (.pointer (some ⟨w.heap.size, 2, none⟩)) rfl (by kernel_rfl) (by kernel_rfl) (by kernel_rfl) rfl (fun y h => h) (fun y hy => by go_simp) ?_
      simp only [Act.put, List.getElem_toArray, List.getElem_cons_zero, List.getElem_cons_succ, List.setIfInBounds_toArray, List.set_cons_zero, List.set_cons_succ]
      refine run_take (i := 6) (.slice a n cap) rfl (by kernel_rfl) (by kernel_rfl) (by kernel_rfl) rfl (fun y h => h) (fun y hy => by have c0 := (hy.cell (p := ⟨w.heap.size, 2, none⟩) rz).trans r2; go_simp) ?_
      simp only [Act.put, List.getElem_toArray, List.getElem_cons_zero, List.getElem_cons_succ, List.setIfInBounds_toArray, List.set_cons_zero, List.set_cons_succ]
      refine run_take (i := 8) (.agg #[.int .i64 k.s, .int .i64 k.m]) rfl (by kernel_rfl) (by kernel_rfl) (by kernel_rfl) rfl (fun y h => h) (fun y hy => by have hr := RowIs.below HRK.out hy; have c0 := hr.cell 0; have c1 := hr.cell 1; have cz := hr.lt; simp at c0 c1; go_simp) ?_
      simp only [Act.put, List.getElem_toArray, List.getElem_cons_zero, List.getElem_cons_succ, List.setIfInBounds_toArray, List.set_cons_zero, List.set_cons_succ]
      change Run _ _ _ _ _ (4 + 2 + 1) _ _ _
      refine runX_float (w0 := w3) (x := 12) (c := 10) (tx := 8) (z := .cells #[.int .i64 0, .int .i64 0, .slice none 0 0] 24 (0, 0)) (g := 2) rfl rfl rfl (fun a w => by go_simp) (Region.noSelect_spec (by kernel_rfl)) (by kernel_rfl) (by kernel_rfl) (by decide) (fun y h => h.size) 4 _ _ _ (fun _ => False) (by kernel_rfl) (fun y h => h) (fun y _ b hb => hb.elim) ?_
      refine runX_each [4, 9] (by kernel_rfl) (by kernel_rfl) (by kernel_rfl) (by decide) ?_
      intro i hi
      simp only [List.mem_cons, List.not_mem_nil, or_false] at hi
      rcases hi with rfl | rfl
      · skip
        refine atX_upd (fun v y => ∃ b1, v = sl b1 0 0 ∧ (Below w3.heap.size w3 y ∧ OwnL w3.heap.size y b1)) (fun v q => ∃ b1, v = sl b1 0 0 ∧ q = b1) rfl rfl ?_ ?_ ?_ ?_ ?_
        · rintro v y y1 ⟨b1, e, ⟨h0, h1⟩⟩ hb
          exact ⟨b1, e, h0.trans (hb.mono h0.size), OwnL.st _ _ h1 hb⟩
        · rintro v y ⟨b1, e, ⟨h0, h1⟩⟩
          exact h0
        · rintro v y ⟨b1, e, ⟨h0, h1⟩⟩ q ⟨b1', e1, rfl⟩
          have e2 := (sl_inj (e.symm.trans e1)).1
          have := h1.lt.2
          omega
        · rintro y g0
          refine ⟨sl y.heap.size 0 0, y.alloc (.cells #[] 58), by go_simp, ⟨y.heap.size, rfl, g0.alloc g0.size _, lit_owns g0.size⟩, fun q zz _ hz => alloc_block y _ hz, ?_⟩
          rintro q ⟨b', e1, rfl⟩
          right
          have := (sl_inj e1).1
          omega
        rintro v ⟨_, b1, rfl, -⟩
        refine runX_mono _ _ _ (fun y => Below w3.heap.size w3 y ∧ OwnL w3.heap.size y b1) _ (fun q => q = b1) _ ?_ ?_ ?_ ?_
        · rintro y ⟨b1', e, h⟩
          have e2 := (sl_inj e).1
          subst e2
          exact h
        · intro q hq
          exact ⟨b1, rfl, hq⟩
        · rintro q ⟨b1', e, rfl⟩
          exact ((sl_inj e).1).symm
        simp only [Act.put, List.getElem_toArray, List.getElem_cons_zero, List.getElem_cons_succ, List.setIfInBounds_toArray, List.set_cons_zero, List.set_cons_succ]
        refine runX_each [7, 9] (by kernel_rfl) (by kernel_rfl) (by kernel_rfl) (by decide) ?_
        intro i hi
        simp only [List.mem_cons, List.not_mem_nil, or_false] at hi
        rcases hi with rfl | rfl
        · skip
          refine atX_upd (fun v y => ∃ g2 c3, v = sl g2 n c3 ∧ (Below w3.heap.size w3 y ∧ OwnA w3.heap.size n f y g2 c3)) (fun v q => ∃ g2 c3, v = sl g2 n c3 ∧ q = g2) rfl rfl ?_ ?_ ?_ ?_ ?_
          · rintro v y y1 ⟨g2, c3, e, ⟨h0, h1⟩⟩ hb
            exact ⟨g2, c3, e, h0.trans (hb.mono h0.size), OwnA.st _ _ h1 hb⟩
          · rintro v y ⟨g2, c3, e, ⟨h0, h1⟩⟩
            exact h0
          · rintro v y ⟨g2, c3, e, ⟨h0, h1⟩⟩ q ⟨g2', c3', e1, rfl⟩
            have e2 := (sl_inj (e.symm.trans e1)).1
            have := h1.lt.2
            omega
          · rintro y ⟨g0, g1⟩
            obtain ⟨g, c', y', hr, a1, a2, a3, a4⟩ := append_list (n := n) (cap := cap) g0 rfl (HF.out.below g0) (by omega) g1
            refine ⟨sl g n c', y', exec_app _ _ _ rfl _ _ rfl rfl hr, ⟨g, c', rfl, a2, a1⟩, fun q zz hq hz => a3 q zz hq hz, ?_⟩
            rintro q ⟨g'', c'', e1, rfl⟩
            have e2 := (sl_inj e1).1
            subst e2
            exact a4
          rintro v ⟨_, g2, c3, rfl, -⟩
          refine runX_mono _ _ _ (fun y => Below w3.heap.size w3 y ∧ OwnA w3.heap.size n f y g2 c3) _ (fun q => q = g2) _ ?_ ?_ ?_ ?_
          · rintro y ⟨g2', c3', e, h⟩
            obtain ⟨e2, -, e3⟩ := sl_inj e
            subst e2 e3
            exact h
          · intro q hq
            exact ⟨g2, c3, rfl, hq⟩
          · rintro q ⟨g2', c3', e, rfl⟩
            exact ((sl_inj e).1).symm
          simp only [Act.put, List.getElem_toArray, List.getElem_cons_zero, List.getElem_cons_succ, List.setIfInBounds_toArray, List.set_cons_zero, List.set_cons_succ]
          refine runX_each [9] (by kernel_rfl) (by kernel_rfl) (by kernel_rfl) (by decide) ?_
          intro i hi
          simp only [List.mem_cons, List.not_mem_nil, or_false] at hi
          subst hi
          refine atX_upd (fun v y => ∃ d4, v = sl d4 1 1 ∧ d4 ≠ g2 ∧ (Below w3.heap.size w3 y ∧ OwnA w3.heap.size n f y g2 c3 ∧ RowW k y d4)) (fun _ => fun q => q = g2) rfl rfl ?_ ?_ ?_ ?_ ?_
          · rintro v y y1 ⟨d4, e, hp0, ⟨h0, h1, h2⟩⟩ hb
            exact ⟨d4, e, hp0, h0.trans (hb.mono h0.size), OwnA.st _ _ h1 hb, RowW.st _ _ h2 hb⟩
          · rintro v y ⟨d4, e, hp0, ⟨h0, h1, h2⟩⟩
            exact h0
          · rintro v y ⟨d4, e, hp0, ⟨h0, h1, h2⟩⟩ q hq
            have := h1.lt.2
            omega
          · rintro y ⟨g0, g1⟩
            refine ⟨sl y.heap.size 1 1, y.alloc (.cells #[.int .i64 k.s, .int .i64 k.m] 58), by go_simp, ⟨y.heap.size, rfl, Nat.ne_of_gt g1.lt.2, g0.alloc g0.size _, OwnA.st _ _ g1 ((Below.refl _ y).alloc (Nat.le_refl _) _), World.alloc_heap_new y _⟩, fun q zz _ hz => alloc_block y _ hz, fun q hq => .inl hq⟩
          rintro v ⟨_, d4, rfl, hp0, -⟩
          refine runX_mono _ _ _ (fun y => Below w3.heap.size w3 y ∧ OwnA w3.heap.size n f y g2 c3 ∧ RowW k y d4) _ (fun q => q = g2) _ ?_ ?_ ?_ ?_
          · rintro y ⟨d4', e, _, h⟩
            have e2 := (sl_inj e).1
            subst e2
            exact h
          · intro q hq
            exact hq
          · intro q hq
            exact hq
          simp only [Act.put, List.getElem_toArray, List.getElem_cons_zero, List.getElem_cons_succ, List.setIfInBounds_toArray, List.set_cons_zero, List.set_cons_succ]
          refine runX_each [10] (by kernel_rfl) (by kernel_rfl) (by kernel_rfl) (by decide) ?_
          intro i hi
          simp only [List.mem_cons, List.not_mem_nil, or_false] at hi
          subst hi
          refine atX_upd (fun v y => ∃ g5 c6, v = sl g5 (n + 1) c6 ∧ (Below w3.heap.size w3 y ∧ OwnZ w3.heap.size n f k y g5 c6)) (fun v q => ∃ g5 c6, v = sl g5 (n + 1) c6 ∧ q = g5) rfl rfl ?_ ?_ ?_ ?_ ?_
          · rintro v y y1 ⟨g5, c6, e, ⟨h0, h1⟩⟩ hb
            exact ⟨g5, c6, e, h0.trans (hb.mono h0.size), OwnZ.st _ _ h1 hb⟩
          · rintro v y ⟨g5, c6, e, ⟨h0, h1⟩⟩
            exact h0
          · rintro v y ⟨g5, c6, e, ⟨h0, h1⟩⟩ q ⟨g5', c6', e1, rfl⟩
            have e2 := (sl_inj (e.symm.trans e1)).1
            have := h1.lt.2
            omega
          · rintro y ⟨g0, g1, g2⟩
            obtain ⟨g, c', y', hr, a1, a2, a3, a4⟩ := append_one g0 rfl (by omega) g1 g2
            refine ⟨sl g (n + 1) c', y', exec_app _ _ _ rfl _ _ rfl rfl hr, ⟨g, c', rfl, a2, a1⟩, fun q zz hq hz => a3 q zz hq hz, ?_⟩
            rintro q ⟨g'', c'', e1, rfl⟩
            have e2 := (sl_inj e1).1
            subst e2
            exact a4
          rintro v ⟨_, g5, c6, rfl, -⟩
          refine runX_mono _ _ _ (fun y => Below w3.heap.size w3 y ∧ OwnZ w3.heap.size n f k y g5 c6) _ (fun q => q = g5) _ ?_ ?_ ?_ ?_
          · rintro y ⟨g5', c6', e, h⟩
            obtain ⟨e2, -, e3⟩ := sl_inj e
            subst e2 e3
            exact h
          · intro q hq
            exact ⟨g5, c6, rfl, hq⟩
          · rintro q ⟨g5', c6', e, rfl⟩
            exact ((sl_inj e).1).symm
          simp only [Act.put, List.getElem_toArray, List.getElem_cons_zero, List.getElem_cons_succ, List.setIfInBounds_toArray, List.set_cons_zero, List.set_cons_succ]
          refine ⟨?_, fun bx hbx hbX => ?_⟩
          · skip
            change Run _ _ _ _ _ 3 _ _ _
            refine run_take (i := 11) (.agg #[.int .i64 s, .int .i64 m, .slice (some ⟨g5, 0, none⟩) (n + 1) c6]) rfl (by kernel_rfl) (by kernel_rfl) (by kernel_rfl) rfl (fun y h => h.1) (fun y _ => by go_simp) ?_
            simp only [Act.put, List.getElem_toArray, List.getElem_cons_zero, List.getElem_cons_succ, List.setIfInBounds_toArray, List.set_cons_zero, List.set_cons_succ]
            refine run_alloc (w0 := w3) (i := 12) (t := 8) (z := .cells #[.int .i64 0, .int .i64 0, .slice none 0 0] 24 (0, 0)) (by kernel_rfl) rfl rfl rfl (fun a w => by go_simp) (fun y h => h.1.size) ?_
            intro bx hbx
            simp only [Act.put, List.setIfInBounds_toArray, List.set_cons_zero, List.set_cons_succ]
            refine run_store (i := 13) (fun y => (Below w3.heap.size w3 y ∧ OwnZ w3.heap.size n f k y g5 c6) ∧ RowIs y bx #[.int .i64 s, .int .i64 m, .slice (some ⟨g5, 0, none⟩) (n + 1) c6] 24) (by kernel_rfl) rfl rfl (fun y y1 h hb => ⟨⟨h.1.1.trans (hb.mono h.1.1.size), OwnZ.st _ _ h.1.2 hb⟩, RowIs.below h.2 hb⟩) (fun y h => h.1.1) ?_ ?_
            · rintro y ⟨⟨g0, g1⟩, g2⟩
              have hzr : RowIs y bx #[.int .i64 0, .int .i64 0, .slice none 0 0] 24 := g2
              have e0 := hzr.cell 0
              have e1 := hzr.cell 1
              have e2 := hzr.cell 2
              have f0 := hzr.frozen 0
              have f1 := hzr.frozen 1
              have f2 := hzr.frozen 2
              have ez := hzr.lt
              simp at e0 e1 e2
              have hne : g5 ≠ bx := OwnR.ne g1 g2 (by decide)
              refine ⟨((y.setCell ⟨bx, 0, none⟩ (.int .i64 s)).setCell ⟨bx, 1, none⟩ (.int .i64 m)).setCell ⟨bx, 2, none⟩ (.slice (some ⟨g5, 0, none⟩) (n + 1) c6), by go_simp, ⟨((g0.setCell (p := ⟨bx, 0, none⟩) hbx _).setCell (p := ⟨bx, 1, none⟩) hbx _).setCell (p := ⟨bx, 2, none⟩) hbx _, ?_⟩, ?_⟩
              · exact OwnR.keep g1 (((Below.heap_setCell _ _ _ _ hne).trans (Below.heap_setCell _ _ _ _ hne)).trans (Below.heap_setCell _ _ _ _ hne))
              · exact RowIs.set (RowIs.set (RowIs.set hzr 0 (.int .i64 s)) 1 (.int .i64 m)) 2 _
            simp only [Act.put, List.getElem_toArray, List.getElem_cons_zero, List.getElem_cons_succ]
            refine ⟨by kernel_rfl, fun y hy => ?_⟩
            obtain ⟨⟨g0, g1⟩, g2⟩ := hy
            have G1 := Lib.hid g1
            have G2 := Lib.hid g2
            have G0 := Lib.hid g0
            clear g0 g1 g2
            go_wp2_with fail
            go_meet
            exact ⟨bx, g5, c6, rfl, G2.out, OwnZ.wants G1.out, G0.out⟩
          · skip
            simp only [Act.put, List.setIfInBounds_toArray, List.set_cons_zero, List.set_cons_succ]
            refine run_take (i := 11) (.agg #[.int .i64 s, .int .i64 m, .slice (some ⟨g5, 0, none⟩) (n + 1) c6]) rfl (by kernel_rfl) (by kernel_rfl) (by kernel_rfl) rfl (fun y h => h.1.1) (fun y _ => by go_simp) ?_
            simp only [Act.put, List.getElem_toArray, List.getElem_cons_zero, List.getElem_cons_succ, List.setIfInBounds_toArray, List.set_cons_zero, List.set_cons_succ]
            refine run_store (i := 13) (fun y => (Below w3.heap.size w3 y ∧ OwnZ w3.heap.size n f k y g5 c6) ∧ RowIs y bx #[.int .i64 s, .int .i64 m, .slice (some ⟨g5, 0, none⟩) (n + 1) c6] 24) (by kernel_rfl) rfl rfl (fun y y1 h hb => ⟨⟨h.1.1.trans (hb.mono h.1.1.size), OwnZ.st _ _ h.1.2 hb⟩, RowIs.below h.2 hb⟩) (fun y h => h.1.1) ?_ ?_
            · rintro y ⟨⟨g0, g1⟩, g2⟩
              have hzr : RowIs y bx #[.int .i64 0, .int .i64 0, .slice none 0 0] 24 := g2
              have e0 := hzr.cell 0
              have e1 := hzr.cell 1
              have e2 := hzr.cell 2
              have f0 := hzr.frozen 0
              have f1 := hzr.frozen 1
              have f2 := hzr.frozen 2
              have ez := hzr.lt
              simp at e0 e1 e2
              have hne : g5 ≠ bx := OwnR.ne g1 g2 (by decide)
              refine ⟨((y.setCell ⟨bx, 0, none⟩ (.int .i64 s)).setCell ⟨bx, 1, none⟩ (.int .i64 m)).setCell ⟨bx, 2, none⟩ (.slice (some ⟨g5, 0, none⟩) (n + 1) c6), by go_simp, ⟨((g0.setCell (p := ⟨bx, 0, none⟩) hbx _).setCell (p := ⟨bx, 1, none⟩) hbx _).setCell (p := ⟨bx, 2, none⟩) hbx _, ?_⟩, ?_⟩
              · exact OwnR.keep g1 (((Below.heap_setCell _ _ _ _ hne).trans (Below.heap_setCell _ _ _ _ hne)).trans (Below.heap_setCell _ _ _ _ hne))
              · exact RowIs.set (RowIs.set (RowIs.set hzr 0 (.int .i64 s)) 1 (.int .i64 m)) 2 _
            simp only [Act.put, List.getElem_toArray, List.getElem_cons_zero, List.getElem_cons_succ]
            refine ⟨by kernel_rfl, fun y hy => ?_⟩
            obtain ⟨⟨g0, g1⟩, g2⟩ := hy
            have G1 := Lib.hid g1
            have G2 := Lib.hid g2
            have G0 := Lib.hid g0
            clear g0 g1 g2
            go_wp2_with fail
            go_meet
            exact ⟨bx, g5, c6, rfl, G2.out, OwnZ.wants G1.out, G0.out⟩
        · skip
          refine atX_upd (fun v y => ∃ d7, v = sl d7 1 1 ∧ d7 ≠ b1 ∧ (Below w3.heap.size w3 y ∧ OwnL w3.heap.size y b1 ∧ RowW k y d7)) (fun _ => fun q => q = b1) rfl rfl ?_ ?_ ?_ ?_ ?_
          · rintro v y y1 ⟨d7, e, hp0, ⟨h0, h1, h2⟩⟩ hb
            exact ⟨d7, e, hp0, h0.trans (hb.mono h0.size), OwnL.st _ _ h1 hb, RowW.st _ _ h2 hb⟩
          · rintro v y ⟨d7, e, hp0, ⟨h0, h1, h2⟩⟩
            exact h0
          · rintro v y ⟨d7, e, hp0, ⟨h0, h1, h2⟩⟩ q hq
            have := h1.lt.2
            omega
          · rintro y ⟨g0, g1⟩
            refine ⟨sl y.heap.size 1 1, y.alloc (.cells #[.int .i64 k.s, .int .i64 k.m] 58), by go_simp, ⟨y.heap.size, rfl, Nat.ne_of_gt g1.lt.2, g0.alloc g0.size _, OwnL.st _ _ g1 ((Below.refl _ y).alloc (Nat.le_refl _) _), World.alloc_heap_new y _⟩, fun q zz _ hz => alloc_block y _ hz, fun q hq => .inl hq⟩
          rintro v ⟨_, d7, rfl, hp0, -⟩
          refine runX_mono _ _ _ (fun y => Below w3.heap.size w3 y ∧ OwnL w3.heap.size y b1 ∧ RowW k y d7) _ (fun q => q = b1) _ ?_ ?_ ?_ ?_
          · rintro y ⟨d7', e, _, h⟩
            have e2 := (sl_inj e).1
            subst e2
            exact h
          · intro q hq
            exact hq
          · intro q hq
            exact hq
          simp only [Act.put, List.getElem_toArray, List.getElem_cons_zero, List.getElem_cons_succ, List.setIfInBounds_toArray, List.set_cons_zero, List.set_cons_succ]
          refine runX_each [7] (by kernel_rfl) (by kernel_rfl) (by kernel_rfl) (by decide) ?_
          intro i hi
          simp only [List.mem_cons, List.not_mem_nil, or_false] at hi
          subst hi
          refine atX_upd (fun v y => ∃ g8 c9, v = sl g8 n c9 ∧ d7 ≠ g8 ∧ (Below w3.heap.size w3 y ∧ OwnA w3.heap.size n f y g8 c9 ∧ RowW k y d7)) (fun v q => ∃ g8 c9, v = sl g8 n c9 ∧ q = g8) rfl rfl ?_ ?_ ?_ ?_ ?_
          · rintro v y y1 ⟨g8, c9, e, hp0, ⟨h0, h1, h2⟩⟩ hb
            exact ⟨g8, c9, e, hp0, h0.trans (hb.mono h0.size), OwnA.st _ _ h1 hb, RowW.st _ _ h2 hb⟩
          · rintro v y ⟨g8, c9, e, hp0, ⟨h0, h1, h2⟩⟩
            exact h0
          · rintro v y ⟨g8, c9, e, hp0, ⟨h0, h1, h2⟩⟩ q ⟨g8', c9', e1, rfl⟩
            have e2 := (sl_inj (e.symm.trans e1)).1
            have := h1.lt.2
            omega
          · rintro y ⟨g0, g1, g2⟩
            obtain ⟨g, c', y', hr, a1, a2, a3, a4⟩ := append_list (n := n) (cap := cap) g0 rfl (HF.out.below g0) (by omega) g1
            have hdg : d7 ≠ g := by
              rcases a4 with a4 | a4
              · rw [a4]
                exact hp0
              · have := heap_size_lt g2
                omega
            refine ⟨sl g n c', y', exec_app _ _ _ rfl _ _ rfl rfl hr, ⟨g, c', rfl, hdg, a2, a1, a3 _ _ hp0 g2⟩, fun q zz hq hz => a3 q zz hq hz, ?_⟩
            rintro q ⟨g'', c'', e1, rfl⟩
            have e2 := (sl_inj e1).1
            subst e2
            exact a4
          rintro v ⟨_, g8, c9, rfl, hp0, -⟩
          refine runX_mono _ _ _ (fun y => Below w3.heap.size w3 y ∧ OwnA w3.heap.size n f y g8 c9 ∧ RowW k y d7) _ (fun q => q = g8) _ ?_ ?_ ?_ ?_
          · rintro y ⟨g8', c9', e, _, h⟩
            obtain ⟨e2, -, e3⟩ := sl_inj e
            subst e2 e3
            exact h
          · intro q hq
            exact ⟨g8, c9, rfl, hq⟩
          · rintro q ⟨g8', c9', e, rfl⟩
            exact ((sl_inj e).1).symm
          simp only [Act.put, List.getElem_toArray, List.getElem_cons_zero, List.getElem_cons_succ, List.setIfInBounds_toArray, List.set_cons_zero, List.set_cons_succ]
          refine runX_each [10] (by kernel_rfl) (by kernel_rfl) (by kernel_rfl) (by decide) ?_
          intro i hi
          simp only [List.mem_cons, List.not_mem_nil, or_false] at hi
          subst hi
          refine atX_upd (fun v y => ∃ g10 c11, v = sl g10 (n + 1) c11 ∧ (Below w3.heap.size w3 y ∧ OwnZ w3.heap.size n f k y g10 c11)) (fun v q => ∃ g10 c11, v = sl g10 (n + 1) c11 ∧ q = g10) rfl rfl ?_ ?_ ?_ ?_ ?_
          · rintro v y y1 ⟨g10, c11, e, ⟨h0, h1⟩⟩ hb
            exact ⟨g10, c11, e, h0.trans (hb.mono h0.size), OwnZ.st _ _ h1 hb⟩
          · rintro v y ⟨g10, c11, e, ⟨h0, h1⟩⟩
            exact h0
          · rintro v y ⟨g10, c11, e, ⟨h0, h1⟩⟩ q ⟨g10', c11', e1, rfl⟩
            have e2 := (sl_inj (e.symm.trans e1)).1
            have := h1.lt.2
            omega
          · rintro y ⟨g0, g1, g2⟩
            obtain ⟨g, c', y', hr, a1, a2, a3, a4⟩ := append_one g0 rfl (by omega) g1 g2
            refine ⟨sl g (n + 1) c', y', exec_app _ _ _ rfl _ _ rfl rfl hr, ⟨g, c', rfl, a2, a1⟩, fun q zz hq hz => a3 q zz hq hz, ?_⟩
            rintro q ⟨g'', c'', e1, rfl⟩
            have e2 := (sl_inj e1).1
            subst e2
            exact a4
          rintro v ⟨_, g10, c11, rfl, -⟩
          refine runX_mono _ _ _ (fun y => Below w3.heap.size w3 y ∧ OwnZ w3.heap.size n f k y g10 c11) _ (fun q => q = g10) _ ?_ ?_ ?_ ?_
          · rintro y ⟨g10', c11', e, h⟩
            obtain ⟨e2, -, e3⟩ := sl_inj e
            subst e2 e3
            exact h
          · intro q hq
            exact ⟨g10, c11, rfl, hq⟩
          · rintro q ⟨g10', c11', e, rfl⟩
            exact ((sl_inj e).1).symm
          simp only [Act.put, List.getElem_toArray, List.getElem_cons_zero, List.getElem_cons_succ, List.setIfInBounds_toArray, List.set_cons_zero, List.set_cons_succ]
          refine ⟨?_, fun bx hbx hbX => ?_⟩
          · skip
            change Run _ _ _ _ _ 3 _ _ _
            refine run_take (i := 11) (.agg #[.int .i64 s, .int .i64 m, .slice (some ⟨g10, 0, none⟩) (n + 1) c11]) rfl (by kernel_rfl) (by kernel_rfl) (by kernel_rfl) rfl (fun y h => h.1) (fun y _ => by go_simp) ?_
            simp only [Act.put, List.getElem_toArray, List.getElem_cons_zero, List.getElem_cons_succ, List.setIfInBounds_toArray, List.set_cons_zero, List.set_cons_succ]
            refine run_alloc (w0 := w3) (i := 12) (t := 8) (z := .cells #[.int .i64 0, .int .i64 0, .slice none 0 0] 24 (0, 0)) (by kernel_rfl) rfl rfl rfl (fun a w => by go_simp) (fun y h => h.1.size) ?_
            intro bx hbx
            simp only [Act.put, List.setIfInBounds_toArray, List.set_cons_zero, List.set_cons_succ]
            refine run_store (i := 13) (fun y => (Below w3.heap.size w3 y ∧ OwnZ w3.heap.size n f k y g10 c11) ∧ RowIs y bx #[.int .i64 s, .int .i64 m, .slice (some ⟨g10, 0, none⟩) (n + 1) c11] 24) (by kernel_rfl) rfl rfl (fun y y1 h hb => ⟨⟨h.1.1.trans (hb.mono h.1.1.size), OwnZ.st _ _ h.1.2 hb⟩, RowIs.below h.2 hb⟩) (fun y h => h.1.1) ?_ ?_
            · rintro y ⟨⟨g0, g1⟩, g2⟩
              have hzr : RowIs y bx #[.int .i64 0, .int .i64 0, .slice none 0 0] 24 := g2
              have e0 := hzr.cell 0
              have e1 := hzr.cell 1
              have e2 := hzr.cell 2
              have f0 := hzr.frozen 0
              have f1 := hzr.frozen 1
              have f2 := hzr.frozen 2
              have ez := hzr.lt
              simp at e0 e1 e2
              have hne : g10 ≠ bx := OwnR.ne g1 g2 (by decide)
              refine ⟨((y.setCell ⟨bx, 0, none⟩ (.int .i64 s)).setCell ⟨bx, 1, none⟩ (.int .i64 m)).setCell ⟨bx, 2, none⟩ (.slice (some ⟨g10, 0, none⟩) (n + 1) c11), by go_simp, ⟨((g0.setCell (p := ⟨bx, 0, none⟩) hbx _).setCell (p := ⟨bx, 1, none⟩) hbx _).setCell (p := ⟨bx, 2, none⟩) hbx _, ?_⟩, ?_⟩
              · exact OwnR.keep g1 (((Below.heap_setCell _ _ _ _ hne).trans (Below.heap_setCell _ _ _ _ hne)).trans (Below.heap_setCell _ _ _ _ hne))
              · exact RowIs.set (RowIs.set (RowIs.set hzr 0 (.int .i64 s)) 1 (.int .i64 m)) 2 _
            simp only [Act.put, List.getElem_toArray, List.getElem_cons_zero, List.getElem_cons_succ]
            refine ⟨by kernel_rfl, fun y hy => ?_⟩
            obtain ⟨⟨g0, g1⟩, g2⟩ := hy
            have G1 := Lib.hid g1
            have G2 := Lib.hid g2
            have G0 := Lib.hid g0
            clear g0 g1 g2
            go_wp2_with fail
            go_meet
            exact ⟨bx, g10, c11, rfl, G2.out, OwnZ.wants G1.out, G0.out⟩
          · skip
            simp only [Act.put, List.setIfInBounds_toArray, List.set_cons_zero, List.set_cons_succ]
            refine run_take (i := 11) (.agg #[.int .i64 s, .int .i64 m, .slice (some ⟨g10, 0, none⟩) (n + 1) c11]) rfl (by kernel_rfl) (by kernel_rfl) (by kernel_rfl) rfl (fun y h => h.1.1) (fun y _ => by go_simp) ?_
            simp only [Act.put, List.getElem_toArray, List.getElem_cons_zero, List.getElem_cons_succ, List.setIfInBounds_toArray, List.set_cons_zero, List.set_cons_succ]
            refine run_store (i := 13) (fun y => (Below w3.heap.size w3 y ∧ OwnZ w3.heap.size n f k y g10 c11) ∧ RowIs y bx #[.int .i64 s, .int .i64 m, .slice (some ⟨g10, 0, none⟩) (n + 1) c11] 24) (by kernel_rfl) rfl rfl (fun y y1 h hb => ⟨⟨h.1.1.trans (hb.mono h.1.1.size), OwnZ.st _ _ h.1.2 hb⟩, RowIs.below h.2 hb⟩) (fun y h => h.1.1) ?_ ?_
            · rintro y ⟨⟨g0, g1⟩, g2⟩
              have hzr : RowIs y bx #[.int .i64 0, .int .i64 0, .slice none 0 0] 24 := g2
              have e0 := hzr.cell 0
              have e1 := hzr.cell 1
              have e2 := hzr.cell 2
              have f0 := hzr.frozen 0
              have f1 := hzr.frozen 1
              have f2 := hzr.frozen 2
              have ez := hzr.lt
              simp at e0 e1 e2
              have hne : g10 ≠ bx := OwnR.ne g1 g2 (by decide)
              refine ⟨((y.setCell ⟨bx, 0, none⟩ (.int .i64 s)).setCell ⟨bx, 1, none⟩ (.int .i64 m)).setCell ⟨bx, 2, none⟩ (.slice (some ⟨g10, 0, none⟩) (n + 1) c11), by go_simp, ⟨((g0.setCell (p := ⟨bx, 0, none⟩) hbx _).setCell (p := ⟨bx, 1, none⟩) hbx _).setCell (p := ⟨bx, 2, none⟩) hbx _, ?_⟩, ?_⟩
              · exact OwnR.keep g1 (((Below.heap_setCell _ _ _ _ hne).trans (Below.heap_setCell _ _ _ _ hne)).trans (Below.heap_setCell _ _ _ _ hne))
              · exact RowIs.set (RowIs.set (RowIs.set hzr 0 (.int .i64 s)) 1 (.int .i64 m)) 2 _
            simp only [Act.put, List.getElem_toArray, List.getElem_cons_zero, List.getElem_cons_succ]
            refine ⟨by kernel_rfl, fun y hy => ?_⟩
            obtain ⟨⟨g0, g1⟩, g2⟩ := hy
            have G1 := Lib.hid g1
            have G2 := Lib.hid g2
            have G0 := Lib.hid g0
            clear g0 g1 g2
            go_wp2_with fail
            go_meet
            exact ⟨bx, g10, c11, rfl, G2.out, OwnZ.wants G1.out, G0.out⟩
      · skip
        refine atX_upd (fun v y => ∃ d12, v = sl d12 1 1 ∧ (Below w3.heap.size w3 y ∧ RowW k y d12)) (fun _ => fun _ => False) rfl rfl ?_ ?_ ?_ ?_ ?_
        · rintro v y y1 ⟨d12, e, ⟨h0, h2⟩⟩ hb
          exact ⟨d12, e, h0.trans (hb.mono h0.size), RowW.st _ _ h2 hb⟩
        · rintro v y ⟨d12, e, ⟨h0, h2⟩⟩
          exact h0
        · rintro v y _ q hq
          exact hq.elim
        · rintro y g0
          refine ⟨sl y.heap.size 1 1, y.alloc (.cells #[.int .i64 k.s, .int .i64 k.m] 58), by go_simp, ⟨y.heap.size, rfl, g0.alloc g0.size _, World.alloc_heap_new y _⟩, fun q zz _ hz => alloc_block y _ hz, fun q hq => .inl hq⟩
        rintro v ⟨_, d12, rfl, -⟩
        refine runX_mono _ _ _ (fun y => Below w3.heap.size w3 y ∧ RowW k y d12) _ (fun _ => False) _ ?_ ?_ ?_ ?_
        · rintro y ⟨d12', e, h⟩
          have e2 := (sl_inj e).1
          subst e2
          exact h
        · intro q hq
          exact hq
        · intro q hq
          exact hq
        simp only [Act.put, List.getElem_toArray, List.getElem_cons_zero, List.getElem_cons_succ, List.setIfInBounds_toArray, List.set_cons_zero, List.set_cons_succ]
        refine runX_each [4] (by kernel_rfl) (by kernel_rfl) (by kernel_rfl) (by decide) ?_
        intro i hi
        simp only [List.mem_cons, List.not_mem_nil, or_false] at hi
        subst hi
        refine atX_upd (fun v y => ∃ b13, v = sl b13 0 0 ∧ d12 ≠ b13 ∧ (Below w3.heap.size w3 y ∧ OwnL w3.heap.size y b13 ∧ RowW k y d12)) (fun v q => ∃ b13, v = sl b13 0 0 ∧ q = b13) rfl rfl ?_ ?_ ?_ ?_ ?_
        · rintro v y y1 ⟨b13, e, hp0, ⟨h0, h1, h2⟩⟩ hb
          exact ⟨b13, e, hp0, h0.trans (hb.mono h0.size), OwnL.st _ _ h1 hb, RowW.st _ _ h2 hb⟩
        · rintro v y ⟨b13, e, hp0, ⟨h0, h1, h2⟩⟩
          exact h0
        · rintro v y ⟨b13, e, hp0, ⟨h0, h1, h2⟩⟩ q ⟨b13', e1, rfl⟩
          have e2 := (sl_inj (e.symm.trans e1)).1
          have := h1.lt.2
          omega
        · rintro y ⟨g0, g2⟩
          refine ⟨sl y.heap.size 0 0, y.alloc (.cells #[] 58), by go_simp, ⟨y.heap.size, rfl, Nat.ne_of_lt (heap_size_lt g2), g0.alloc g0.size _, lit_owns g0.size, RowW.st _ _ g2 ((Below.refl _ y).alloc (Nat.le_refl _) _)⟩, fun q zz _ hz => alloc_block y _ hz, ?_⟩
          rintro q ⟨b', e1, rfl⟩
          right
          have := (sl_inj e1).1
          omega
        rintro v ⟨_, b13, rfl, hp0, -⟩
        refine runX_mono _ _ _ (fun y => Below w3.heap.size w3 y ∧ OwnL w3.heap.size y b13 ∧ RowW k y d12) _ (fun q => q = b13) _ ?_ ?_ ?_ ?_
        · rintro y ⟨b13', e, _, h⟩
          have e2 := (sl_inj e).1
          subst e2
          exact h
        · intro q hq
          exact ⟨b13, rfl, hq⟩
        · rintro q ⟨b13', e, rfl⟩
          exact ((sl_inj e).1).symm
        simp only [Act.put, List.getElem_toArray, List.getElem_cons_zero, List.getElem_cons_succ, List.setIfInBounds_toArray, List.set_cons_zero, List.set_cons_succ]
        refine runX_each [7] (by kernel_rfl) (by kernel_rfl) (by kernel_rfl) (by decide) ?_
        intro i hi
        simp only [List.mem_cons, List.not_mem_nil, or_false] at hi
        subst hi
        refine atX_upd (fun v y => ∃ g14 c15, v = sl g14 n c15 ∧ d12 ≠ g14 ∧ (Below w3.heap.size w3 y ∧ OwnA w3.heap.size n f y g14 c15 ∧ RowW k y d12)) (fun v q => ∃ g14 c15, v = sl g14 n c15 ∧ q = g14) rfl rfl ?_ ?_ ?_ ?_ ?_
        · rintro v y y1 ⟨g14, c15, e, hp0, ⟨h0, h1, h2⟩⟩ hb
          exact ⟨g14, c15, e, hp0, h0.trans (hb.mono h0.size), OwnA.st _ _ h1 hb, RowW.st _ _ h2 hb⟩
        · rintro v y ⟨g14, c15, e, hp0, ⟨h0, h1, h2⟩⟩
          exact h0
        · rintro v y ⟨g14, c15, e, hp0, ⟨h0, h1, h2⟩⟩ q ⟨g14', c15', e1, rfl⟩
          have e2 := (sl_inj (e.symm.trans e1)).1
          have := h1.lt.2
          omega
        · rintro y ⟨g0, g1, g2⟩
          obtain ⟨g, c', y', hr, a1, a2, a3, a4⟩ := append_list (n := n) (cap := cap) g0 rfl (HF.out.below g0) (by omega) g1
          have hdg : d12 ≠ g := by
            rcases a4 with a4 | a4
            · rw [a4]
              exact hp0
            · have := heap_size_lt g2
              omega
          refine ⟨sl g n c', y', exec_app _ _ _ rfl _ _ rfl rfl hr, ⟨g, c', rfl, hdg, a2, a1, a3 _ _ hp0 g2⟩, fun q zz hq hz => a3 q zz hq hz, ?_⟩
          rintro q ⟨g'', c'', e1, rfl⟩
          have e2 := (sl_inj e1).1
          subst e2
          exact a4
        rintro v ⟨_, g14, c15, rfl, hp0, -⟩
        refine runX_mono _ _ _ (fun y => Below w3.heap.size w3 y ∧ OwnA w3.heap.size n f y g14 c15 ∧ RowW k y d12) _ (fun q => q = g14) _ ?_ ?_ ?_ ?_
        · rintro y ⟨g14', c15', e, _, h⟩
          obtain ⟨e2, -, e3⟩ := sl_inj e
          subst e2 e3
          exact h
        · intro q hq
          exact ⟨g14, c15, rfl, hq⟩
        · rintro q ⟨g14', c15', e, rfl⟩
          exact ((sl_inj e).1).symm
        simp only [Act.put, List.getElem_toArray, List.getElem_cons_zero, List.getElem_cons_succ, List.setIfInBounds_toArray, List.set_cons_zero, List.set_cons_succ]
        refine runX_each [10] (by kernel_rfl) (by kernel_rfl) (by kernel_rfl) (by decide) ?_
        intro i hi
        simp only [List.mem_cons, List.not_mem_nil, or_false] at hi
        subst hi
        refine atX_upd (fun v y => ∃ g16 c17, v = sl g16 (n + 1) c17 ∧ (Below w3.heap.size w3 y ∧ OwnZ w3.heap.size n f k y g16 c17)) (fun v q => ∃ g16 c17, v = sl g16 (n + 1) c17 ∧ q = g16) rfl rfl ?_ ?_ ?_ ?_ ?_
        · rintro v y y1 ⟨g16, c17, e, ⟨h0, h1⟩⟩ hb
          exact ⟨g16, c17, e, h0.trans (hb.mono h0.size), OwnZ.st _ _ h1 hb⟩
        · rintro v y ⟨g16, c17, e, ⟨h0, h1⟩⟩
          exact h0
        · rintro v y ⟨g16, c17, e, ⟨h0, h1⟩⟩ q ⟨g16', c17', e1, rfl⟩
          have e2 := (sl_inj (e.symm.trans e1)).1
          have := h1.lt.2
          omega
        · rintro y ⟨g0, g1, g2⟩
          obtain ⟨g, c', y', hr, a1, a2, a3, a4⟩ := append_one g0 rfl (by omega) g1 g2
          refine ⟨sl g (n + 1) c', y', exec_app _ _ _ rfl _ _ rfl rfl hr, ⟨g, c', rfl, a2, a1⟩, fun q zz hq hz => a3 q zz hq hz, ?_⟩
          rintro q ⟨g'', c'', e1, rfl⟩
          have e2 := (sl_inj e1).1
          subst e2
          exact a4
        rintro v ⟨_, g16, c17, rfl, -⟩
        refine runX_mono _ _ _ (fun y => Below w3.heap.size w3 y ∧ OwnZ w3.heap.size n f k y g16 c17) _ (fun q => q = g16) _ ?_ ?_ ?_ ?_
        · rintro y ⟨g16', c17', e, h⟩
          obtain ⟨e2, -, e3⟩ := sl_inj e
          subst e2 e3
          exact h
        · intro q hq
          exact ⟨g16, c17, rfl, hq⟩
        · rintro q ⟨g16', c17', e, rfl⟩
          exact ((sl_inj e).1).symm
        simp only [Act.put, List.getElem_toArray, List.getElem_cons_zero, List.getElem_cons_succ, List.setIfInBounds_toArray, List.set_cons_zero, List.set_cons_succ]
        refine ⟨?_, fun bx hbx hbX => ?_⟩
        · skip
          change Run _ _ _ _ _ 3 _ _ _
          refine run_take (i := 11) (.agg #[.int .i64 s, .int .i64 m, .slice (some ⟨g16, 0, none⟩) (n + 1) c17]) rfl (by kernel_rfl) (by kernel_rfl) (by kernel_rfl) rfl (fun y h => h.1) (fun y _ => by go_simp) ?_
          simp only [Act.put, List.getElem_toArray, List.getElem_cons_zero, List.getElem_cons_succ, List.setIfInBounds_toArray, List.set_cons_zero, List.set_cons_succ]
          refine run_alloc (w0 := w3) (i := 12) (t := 8) (z := .cells #[.int .i64 0, .int .i64 0, .slice none 0 0] 24 (0, 0)) (by kernel_rfl) rfl rfl rfl (fun a w => by go_simp) (fun y h => h.1.size) ?_
          intro bx hbx
          simp only [Act.put, List.setIfInBounds_toArray, List.set_cons_zero, List.set_cons_succ]
          refine run_store (i := 13) (fun y => (Below w3.heap.size w3 y ∧ OwnZ w3.heap.size n f k y g16 c17) ∧ RowIs y bx #[.int .i64 s, .int .i64 m, .slice (some ⟨g16, 0, none⟩) (n + 1) c17] 24) (by kernel_rfl) rfl rfl (fun y y1 h hb => ⟨⟨h.1.1.trans (hb.mono h.1.1.size), OwnZ.st _ _ h.1.2 hb⟩, RowIs.below h.2 hb⟩) (fun y h => h.1.1) ?_ ?_
          · rintro y ⟨⟨g0, g1⟩, g2⟩
            have hzr : RowIs y bx #[.int .i64 0, .int .i64 0, .slice none 0 0] 24 := g2
            have e0 := hzr.cell 0
            have e1 := hzr.cell 1
            have e2 := hzr.cell 2
            have f0 := hzr.frozen 0
            have f1 := hzr.frozen 1
            have f2 := hzr.frozen 2
            have ez := hzr.lt
            simp at e0 e1 e2
            have hne : g16 ≠ bx := OwnR.ne g1 g2 (by decide)
            refine ⟨((y.setCell ⟨bx, 0, none⟩ (.int .i64 s)).setCell ⟨bx, 1, none⟩ (.int .i64 m)).setCell ⟨bx, 2, none⟩ (.slice (some ⟨g16, 0, none⟩) (n + 1) c17), by go_simp, ⟨((g0.setCell (p := ⟨bx, 0, none⟩) hbx _).setCell (p := ⟨bx, 1, none⟩) hbx _).setCell (p := ⟨bx, 2, none⟩) hbx _, ?_⟩, ?_⟩
            · exact OwnR.keep g1 (((Below.heap_setCell _ _ _ _ hne).trans (Below.heap_setCell _ _ _ _ hne)).trans (Below.heap_setCell _ _ _ _ hne))
            · exact RowIs.set (RowIs.set (RowIs.set hzr 0 (.int .i64 s)) 1 (.int .i64 m)) 2 _
          simp only [Act.put, List.getElem_toArray, List.getElem_cons_zero, List.getElem_cons_succ]
          refine ⟨by kernel_rfl, fun y hy => ?_⟩
          obtain ⟨⟨g0, g1⟩, g2⟩ := hy
          have G1 := Lib.hid g1
          have G2 := Lib.hid g2
          have G0 := Lib.hid g0
          clear g0 g1 g2
          go_wp2_with fail
          go_meet
          exact ⟨bx, g16, c17, rfl, G2.out, OwnZ.wants G1.out, G0.out⟩
        · skip
          simp only [Act.put, List.setIfInBounds_toArray, List.set_cons_zero, List.set_cons_succ]
          refine run_take (i := 11) (.agg #[.int .i64 s, .int .i64 m, .slice (some ⟨g16, 0, none⟩) (n + 1) c17]) rfl (by kernel_rfl) (by kernel_rfl) (by kernel_rfl) rfl (fun y h => h.1.1) (fun y _ => by go_simp) ?_
          simp only [Act.put, List.getElem_toArray, List.getElem_cons_zero, List.getElem_cons_succ, List.setIfInBounds_toArray, List.set_cons_zero, List.set_cons_succ]
          refine run_store (i := 13) (fun y => (Below w3.heap.size w3 y ∧ OwnZ w3.heap.size n f k y g16 c17) ∧ RowIs y bx #[.int .i64 s, .int .i64 m, .slice (some ⟨g16, 0, none⟩) (n + 1) c17] 24) (by kernel_rfl) rfl rfl (fun y y1 h hb => ⟨⟨h.1.1.trans (hb.mono h.1.1.size), OwnZ.st _ _ h.1.2 hb⟩, RowIs.below h.2 hb⟩) (fun y h => h.1.1) ?_ ?_
          · rintro y ⟨⟨g0, g1⟩, g2⟩
            have hzr : RowIs y bx #[.int .i64 0, .int .i64 0, .slice none 0 0] 24 := g2
            have e0 := hzr.cell 0
            have e1 := hzr.cell 1
            have e2 := hzr.cell 2
            have f0 := hzr.frozen 0
            have f1 := hzr.frozen 1
            have f2 := hzr.frozen 2
            have ez := hzr.lt
            simp at e0 e1 e2
            have hne : g16 ≠ bx := OwnR.ne g1 g2 (by decide)
            refine ⟨((y.setCell ⟨bx, 0, none⟩ (.int .i64 s)).setCell ⟨bx, 1, none⟩ (.int .i64 m)).setCell ⟨bx, 2, none⟩ (.slice (some ⟨g16, 0, none⟩) (n + 1) c17), by go_simp, ⟨((g0.setCell (p := ⟨bx, 0, none⟩) hbx _).setCell (p := ⟨bx, 1, none⟩) hbx _).setCell (p := ⟨bx, 2, none⟩) hbx _, ?_⟩, ?_⟩
            · exact OwnR.keep g1 (((Below.heap_setCell _ _ _ _ hne).trans (Below.heap_setCell _ _ _ _ hne)).trans (Below.heap_setCell _ _ _ _ hne))
            · exact RowIs.set (RowIs.set (RowIs.set hzr 0 (.int .i64 s)) 1 (.int .i64 m)) 2 _
          simp only [Act.put, List.getElem_toArray, List.getElem_cons_zero, List.getElem_cons_succ]
          refine ⟨by kernel_rfl, fun y hy => ?_⟩
          obtain ⟨⟨g0, g1⟩, g2⟩ := hy
          have G1 := Lib.hid g1
          have G2 := Lib.hid g2
          have G0 := Lib.hid g0
          clear g0 g1 g2
          go_wp2_with fail
          go_meet
          exact ⟨bx, g16, c17, rfl, G2.out, OwnZ.wants G1.out, G0.out⟩
    case rest =>
    obtain ⟨bx, gx, cx, rfl, hrx, hwx, hcb⟩ := hcut
    obtain ⟨w4, hww⟩ : ∃ x, x = wc := ⟨_, rfl⟩
    subst hww
    replace HR := Lib.hid (RowIs.below HR.out hcb)
    replace HF := Lib.hid (HF.out.below hcb)
    replace hB := bup hB hcb
    clear r0 r1 r2 rz hcb
    have r0 : w4.cell? ⟨w.heap.size, 0, none⟩ = some (.int .i64 s) := RowIs.cell HR.out 0
    have r1 : w4.cell? ⟨w.heap.size, 1, none⟩ = some (.int .i64 m) := RowIs.cell HR.out 1
    have r2 : w4.cell? ⟨w.heap.size, 2, none⟩ = some (.slice a n cap) := RowIs.cell HR.out 2
    have rz : w.heap.size < w4.heap.size := HR.out.lt
    have HX := Lib.hid hwx
    have HRX := Lib.hid hrx
    clear hrx hwx HRK
    obtain ⟨f2, hf2⟩ : ∃ f2, moreW f n k.s k.m = f2 := ⟨_, rfl⟩
    rw [hf2] at HE2 HX u1 u2
    have HF2 := Lib.hid hf2
    clear hf2
    clear r0 r1 r2 rz
    have r0 : w4.cell? ⟨w.heap.size, 0, none⟩ = some (.int .i64 s) := RowIs.cell HR.out 0
    have r1 : w4.cell? ⟨w.heap.size, 1, none⟩ = some (.int .i64 m) := RowIs.cell HR.out 1
    have r2 : w4.cell? ⟨w.heap.size, 2, none⟩ = some (.slice a n cap) := RowIs.cell HR.out 2
    have rz : w.heap.size < w4.heap.size := HR.out.lt
    have q0 : w4.cell? ⟨bx, 0, none⟩ = some (.int .i64 s) := RowIs.cell HRX.out 0
    have q1 : w4.cell? ⟨bx, 1, none⟩ = some (.int .i64 m) := RowIs.cell HRX.out 1
    have q2 : w4.cell? ⟨bx, 2, none⟩ = some (.slice (some ⟨gx, 0, none⟩) (n + 1) cx) := RowIs.cell HRX.out 2
    have qz : bx < w4.heap.size := HRX.out.lt
    go_wp2_with fail
    refine (few_c s m a n cap f _ HF.out HE.out).mono ?_
    rintro e w5 ⟨db1, d1, D, rfl, -, -, hb5, -, hG1, -⟩
    have HG1 := Lib.hid hG1
    clear hG1
    replace HR := Lib.hid (RowIs.below HR.out hb5)
    replace HRX := Lib.hid (RowIs.below HRX.out hb5)
    replace HF := Lib.hid (HF.out.below hb5)
    replace HX := Lib.hid (HX.out.below hb5)
    replace hB := bup hB hb5
    clear r0 r1 r2 rz q0 q1 q2 qz hb5
    have r0 : w5.cell? ⟨w.heap.size, 0, none⟩ = some (.int .i64 s) := RowIs.cell HR.out 0
    have r1 : w5.cell? ⟨w.heap.size, 1, none⟩ = some (.int .i64 m) := RowIs.cell HR.out 1
    have r2 : w5.cell? ⟨w.heap.size, 2, none⟩ = some (.slice a n cap) := RowIs.cell HR.out 2
    have rz : w.heap.size < w5.heap.size := HR.out.lt
    have q0 : w5.cell? ⟨bx, 0, none⟩ = some (.int .i64 s) := RowIs.cell HRX.out 0
    have q1 : w5.cell? ⟨bx, 1, none⟩ = some (.int .i64 m) := RowIs.cell HRX.out 1
    have q2 : w5.cell? ⟨bx, 2, none⟩ = some (.slice (some ⟨gx, 0, none⟩) (n + 1) cx) := RowIs.cell HRX.out 2
    have qz : bx < w5.heap.size := HRX.out.lt
    go_wp2_with fail
    refine (few_c s m (some ⟨gx, 0, none⟩) (n + 1) cx f2 _ HX.out HE2.out).mono ?_
    rintro e w6 ⟨db2, d2, D2, rfl, -, -, hb6, hD14, hG2, -⟩
    obtain ⟨v1, v2⟩ := more_few (s := k.s) (m := k.m) HG1.out (by rw [HF2.out]; exact hG2)
    clear hG2 HG1 HF2
    replace HR := Lib.hid (RowIs.below HR.out hb6)
    replace HRX := Lib.hid (RowIs.below HRX.out hb6)
    replace HF := Lib.hid (HF.out.below hb6)
    replace HX := Lib.hid (HX.out.below hb6)
    replace hB := bup hB hb6
    clear r0 r1 r2 rz q0 q1 q2 qz hb6
    have r0 : w6.cell? ⟨w.heap.size, 0, none⟩ = some (.int .i64 s) := RowIs.cell HR.out 0
    have r1 : w6.cell? ⟨w.heap.size, 1, none⟩ = some (.int .i64 m) := RowIs.cell HR.out 1
    have r2 : w6.cell? ⟨w.heap.size, 2, none⟩ = some (.slice a n cap) := RowIs.cell HR.out 2
    have rz : w.heap.size < w6.heap.size := HR.out.lt
    have q0 : w6.cell? ⟨bx, 0, none⟩ = some (.int .i64 s) := RowIs.cell HRX.out 0
    have q1 : w6.cell? ⟨bx, 1, none⟩ = some (.int .i64 m) := RowIs.cell HRX.out 1
    have q2 : w6.cell? ⟨bx, 2, none⟩ = some (.slice (some ⟨gx, 0, none⟩) (n + 1) cx) := RowIs.cell HRX.out 2
    have qz : bx < w6.heap.size := HRX.out.lt
    obtain ⟨L1, hL1⟩ : ∃ L1, bestOf f n = L1 := ⟨_, rfl⟩
    obtain ⟨L2, hL2⟩ : ∃ L2, bestOf f2 (n + 1) = L2 := ⟨_, rfl⟩
    have HB1 := Lib.hid (fun (x : World) (h : Wants x a n f) => best_c s m a n cap f x h HE.out)
    have HB2 := Lib.hid (fun (x : World) (h : Wants x (some ⟨gx, 0, none⟩) (n + 1) f2) => best_c s m (some ⟨gx, 0, none⟩) (n + 1) cx f2 x h HE2.out)
    have hl14 : (bestOf f n).length ≤ 14 := by have := (best_most f n).2.1; have h2 := cnt_atmost (fun i => i ∈ bestOf f n) n; omega
    rw [hL1] at HB1 u1 u2 hl14
    rw [hL2] at HB2 u1 u2
    clear hL1 hL2
    go_wp2_with fail
    refine (HB1.out _ HF.out).mono ?_
    rintro e w7 ⟨p1, c1, rfl, -, hb7⟩
    replace HR := Lib.hid (RowIs.below HR.out hb7)
    replace HRX := Lib.hid (RowIs.below HRX.out hb7)
    replace HF := Lib.hid (HF.out.below hb7)
    replace HX := Lib.hid (HX.out.below hb7)
    replace hB := bup hB hb7
    clear r0 r1 r2 rz q0 q1 q2 qz hb7
    have r0 : w7.cell? ⟨w.heap.size, 0, none⟩ = some (.int .i64 s) := RowIs.cell HR.out 0
    have r1 : w7.cell? ⟨w.heap.size, 1, none⟩ = some (.int .i64 m) := RowIs.cell HR.out 1
    have r2 : w7.cell? ⟨w.heap.size, 2, none⟩ = some (.slice a n cap) := RowIs.cell HR.out 2
    have rz : w.heap.size < w7.heap.size := HR.out.lt
    have q0 : w7.cell? ⟨bx, 0, none⟩ = some (.int .i64 s) := RowIs.cell HRX.out 0
    have q1 : w7.cell? ⟨bx, 1, none⟩ = some (.int .i64 m) := RowIs.cell HRX.out 1
    have q2 : w7.cell? ⟨bx, 2, none⟩ = some (.slice (some ⟨gx, 0, none⟩) (n + 1) cx) := RowIs.cell HRX.out 2
    have qz : bx < w7.heap.size := HRX.out.lt
    go_wp2_with fail
    refine (HB2.out _ HX.out).mono ?_
    rintro e w8 ⟨p2, c2, rfl, -, hb8⟩
    replace HR := Lib.hid (RowIs.below HR.out hb8)
    replace HRX := Lib.hid (RowIs.below HRX.out hb8)
    replace HF := Lib.hid (HF.out.below hb8)
    replace HX := Lib.hid (HX.out.below hb8)
    replace hB := bup hB hb8
    clear r0 r1 r2 rz q0 q1 q2 qz hb8
    have r0 : w8.cell? ⟨w.heap.size, 0, none⟩ = some (.int .i64 s) := RowIs.cell HR.out 0
    have r1 : w8.cell? ⟨w.heap.size, 1, none⟩ = some (.int .i64 m) := RowIs.cell HR.out 1
    have r2 : w8.cell? ⟨w.heap.size, 2, none⟩ = some (.slice a n cap) := RowIs.cell HR.out 2
    have rz : w.heap.size < w8.heap.size := HR.out.lt
    have q0 : w8.cell? ⟨bx, 0, none⟩ = some (.int .i64 s) := RowIs.cell HRX.out 0
    have q1 : w8.cell? ⟨bx, 1, none⟩ = some (.int .i64 m) := RowIs.cell HRX.out 1
    have q2 : w8.cell? ⟨bx, 2, none⟩ = some (.slice (some ⟨gx, 0, none⟩) (n + 1) cx) := RowIs.cell HRX.out 2
    have qz : bx < w8.heap.size := HRX.out.lt
    obtain ⟨l1, hl1⟩ : ∃ l1, L1.length = l1 := ⟨_, rfl⟩
    obtain ⟨l2, hl2⟩ : ∃ l2, L2.length = l2 := ⟨_, rfl⟩
    rw [hl1, hl2] at u1 u2
    rw [hl1, hl2]
    have hl3 : l1 ≤ 14 := by rw [← hl1]; exact hl14
    clear hl1 hl2 HB1 HB2
    have t1 : decide ((D : Int) ≤ (D2 : Int)) = true := by simp; omega
    have t2 : decide ((D2 : Int) ≤ (D : Int) + 1) = true := by simp; omega
    have t3 : decide ((l1 : Int) ≤ (l2 : Int)) = true := by simp; omega
    have t4 : decide ((l2 : Int) ≤ (l1 : Int) + 1) = true := by simp; omega
    have t5 : IntKind.i64.wrap ((D : Int) + 1) = (D : Int) + 1 := IntWalk.i64_in _ (by omega)
    have t6 : IntKind.i64.wrap ((l1 : Int) + 1) = (l1 : Int) + 1 := IntWalk.i64_in _ (by omega)
    have hD2 : D ≤ 14 := by omega
    clear HRX
    clear HX HF HR
    clear r0 r1 r2 rz q0 q1 q2 qz
    go_wp2_with fail
    refine (works_c _).mono ?_
    rintro e wz ⟨rfl, hbz⟩
    go_wp2_with fail
    go_ret
    exact ⟨rfl, bup hB hbz⟩

end Go.Proofs.Ytbjgbgchagfokaa

namespace Go.Proofs.Ytbjgbgchagfokaa
open Go Go.RowKit Go.ChangeShapes Go.WideShapes Go.ChangeAt

theorem own_more : ownKnob Try.prog.godebug = .none := by kernel_rfl
theorem laidOut_more : laidOutB Try.prog = true := by kernel_rfl

set_option maxRecDepth 100000 in
theorem more_lifted (os : Os) (started : os.Started) (H : Type) (enc : TypeId × Value → H) :
    ReturnsInHanded {} Try.checked os 11 .any (Rows.mouldMoreSpec.pre6 enc Try.prog Try.f11 Rows.mouldMoreRow.domain false) (Rows.mouldMoreSpec.post enc Try.prog Try.f11 false true false false) := by
  refine returnsInHanded_of_change (C := Try.checked) own_more started (by kernel_rfl) Try.func11
    (ChangeSpec.witness6 (enc := enc) (C := Try.checked) false ⟨#[], #[.agg #[.int .i64 0, .int .i64 0, .slice .none 0 0], .int .u8 0, .int .u8 0], []⟩ 8 (by kernel_rfl) (by kernel_rfl) (by kernel_rfl) (by kernel_rfl)) ?_
  intro W base args ds gs before hval0 hW hcnd _
  have hval : ∀ (j : Nat) t v, Try.f11.params[j]? = some t → args[j]? = some v → Value.okWide Try.prog W .any base t v := hval0
  have hW' := hW
  obtain ⟨p, q, hA0, hV, rfl, hfz, hnd⟩ := hW
  have hA : DataW.TrodAll enc Try.prog W 0 (fun _ => true) true Try.f11.params.toList args.toList ds p := hA0
  rw [Try.params11] at hA hval
  obtain ⟨v0, vs0, d0, ds0, p0, q0, hargs, rfl, rfl, h0, r0⟩ := trodAll_cons hA
  obtain ⟨v1, vs1, d1, ds1, p1, q1, rfl, rfl, rfl, h1, r1⟩ := trodAll_cons r0
  obtain ⟨v2, vs2, d2, ds2, p2, q2, rfl, rfl, rfl, h2, r2⟩ := trodAll_cons r1
  obtain ⟨rfl, rfl, rfl⟩ := trodAll_nil r2
  obtain rfl : args = #[v0, v1, v2] := by cases args; simp_all
  obtain ⟨rfl, rfl⟩ := trodVars_none hV
  obtain ⟨S0, M0, a0, n0, cap0, f0, rfl, hF0⟩ := open_book (hval 0 24 v0 rfl rfl) h0
  obtain ⟨z1, hz1, _, _, hw1⟩ := open_int Try.underlying5 (hval 1 5 v1 rfl rfl) h1
  obtain ⟨z2, hz2, _, _, hw2⟩ := open_int Try.underlying5 (hval 2 5 v2 rfl rfl) h2
  subst hz1 hz2
  refine (law_more_c S0 M0 a0 n0 cap0 f0 z1 z2 W hF0 (wfu8 hw1) (wfu8 hw2)).mono fun e W' ⟨he, hb⟩ => ?_
  subst he
  have hlt := hW'.lt
  simp only [List.append_nil, List.mem_append] at hlt
  refine ⟨_, rfl, _, _, _, [], p0 ++ (p1 ++ (p2 ++ [])), [], hW', trodAll_mk1 (shut_bool Try.underlying4 true), ?_, rfl, hb.frame _, fun h => Bool.noConfusion h⟩
  exact trodAll_cons_mk (Below.trod laidOut_more (by kernel_rfl) (of_decide_eq_true (by kernel_rfl)) h0 hb fun x hx => hlt x (by simp [hx])) (trodAll_cons_mk (Below.trod laidOut_more (by kernel_rfl) (of_decide_eq_true (by kernel_rfl)) h1 hb fun x hx => hlt x (by simp [hx])) (trodAll_cons_mk (Below.trod laidOut_more (by kernel_rfl) (of_decide_eq_true (by kernel_rfl)) h2 hb fun x hx => hlt x (by simp [hx])) trodAll_mk0))

theorem more_holds : Rows.MouldMoreSaid :=
  OpenClaim.holds_of_wide 11 Try.f11 rfl rfl rfl rfl rfl rfl rfl ⟨rfl, rfl, rfl, rfl, rfl⟩ rfl rfl rfl rfl rfl (by kernel_rfl) Try.func11 (by kernel_rfl)
    (of_decide_eq_true (by kernel_rfl)) (by unfold Func.isWrapper; first | (rw [if_pos (by decide +kernel)]; kernel_rfl) | (rw [if_neg (by decide +kernel)]; exact ⟨rfl, rfl⟩))
    (fun os started H enc _ => more_lifted os started H enc)
end Go.Proofs.Ytbjgbgchagfokaa
