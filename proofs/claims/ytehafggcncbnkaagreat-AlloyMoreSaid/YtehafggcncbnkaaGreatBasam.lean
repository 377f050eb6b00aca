/- Contracts of package alloy: proofs. -/
import Derived.RangeFuncBound
import Derived.Shelf.Abstract
import Derived.Shelf.RegionOpen
import Derived.OwnWalkIn
import Derived.TacticsInMore
import Derived.LoopNIn
import Derived.LoopIn
import Derived.Scope
import Derived.Maps.OwnIn
import Derived.Sort.MapsRangeIn
import Derived.Test.YtehafggcncbnkaaGreatProg
import Derived.Test.YtehafggcncbnkaaGreatBasaa
import Derived.Test.YtehafggcncbnkaaGreatBasah
import Derived.Test.YtehafggcncbnkaaGreatBasaf
import Derived.Test.YtehafggcncbnkaaGreatBasag
import Derived.Test.YtehafggcncbnkaaGreatBasal
import Derived.Test.YtehafggcncbnkaaGreatBasai
import Derived.Test.YtehafggcncbnkaaGreatBasad
import Derived.Test.YtehafggcncbnkaaGreatBasak
import Derived.Shelf.AbstractIn
import Derived.RangeFuncGives
import Derived.WalkKit
import Derived.Deep.QuietTactic
import Derived.Shelf.SlSortCmp.WholeK
namespace Go.Proofs.YtehafggcncbnkaaGreat
open Go Go.RowKit Go.Shelf Go.Maps
attribute [local go_sem] Oper.semAt_some

theorem infoSums2 : (Tryz.prog.info? 92).map (fun i => (i.zero, i.size, i.bytes)) = some (some (.agg #[.int .i64 0, .int .i64 0, .int .i64 0, .int .i64 0]), 4, 32) := by kernel_rfl

/-- The cells of the first n rows, one behind the other. -/
def uCells (u : Nat → U4) (n : Nat) : List Value := catF (fun i => (u i).cells) n

theorem uCells_len (u : Nat → U4) (n : Nat) : (uCells u n).length = n * 4 := catF_length _ 4 (fun _ => rfl) n

theorem uCells_at {w : World} {g n : Nat} {u : Nat → U4} (hu : Units w (some ⟨g, 0, none⟩) n u) (j : Nat) (v : Value) (h : (uCells u n)[j]? = some v) : w.cell? ((⟨g, 0, none⟩ : Addr).add j) = some v := by
  have hj : j < n * 4 := by
    have := (List.getElem?_eq_some_iff.1 h).1
    rwa [uCells_len] at this
  have hi : j / 4 < n := by omega
  have hm : j % 4 < 4 := Nat.mod_lt _ (by decide)
  have hc := catF_get (fun i => (u i).cells) 4 (fun _ => rfl) (j / 4) (j % 4) hm n hi
  rw [show j / 4 * 4 + j % 4 = j by omega] at hc
  have hv : ((u (j / 4)).cells)[j % 4]? = some v := by rw [← hc]; exact h
  obtain ⟨b, off, e, hb, c0, c1, c2, c3⟩ := Units.at hu (j / 4) hi
  cases e
  simp only [Nat.zero_add] at c0 c1 c2 c3
  rw [Addr.add_lit, Nat.zero_add]
  have hcase : j % 4 = 0 ∨ j % 4 = 1 ∨ j % 4 = 2 ∨ j % 4 = 3 := by omega
  rcases hcase with e | e | e | e
  · rw [e] at hv; rw [show j = j / 4 * 4 by omega, c0]; exact hv
  · rw [e] at hv; rw [show j = j / 4 * 4 + 1 by omega, c1]; exact hv
  · rw [e] at hv; rw [show j = j / 4 * 4 + 2 by omega, c2]; exact hv
  · rw [e] at hv; rw [show j = j / 4 * 4 + 3 by omega, c3]; exact hv

theorem rows_cells (n : Nat) (u : Nat → U4) : uCells u n ++ [.int .i64 0, .int .i64 1, .int .i64 0, .int .i64 0, .int .i64 0, .int .i64 0, .int .i64 1, .int .i64 0, .int .i64 0, .int .i64 0, .int .i64 0, .int .i64 (-1)] = uCells (rowsU n u) (n + 3) := by
  have h : uCells (rowsU n u) n = uCells u n := by
    unfold uCells
    have : ∀ k, k ≤ n → catF (fun i => (rowsU n u i).cells) k = catF (fun i => (u i).cells) k := by
      intro k
      induction k with
      | zero => intro _; rfl
      | succ k ih =>
        intro hk
        simp only [catF]
        rw [ih (by omega)]
        simp [rowsU, show k < n by omega]
    exact this n (Nat.le_refl _)
  have r0 : rowsU n u n = ⟨0, 1, 0, 0⟩ := by unfold rowsU; rw [if_neg (Nat.lt_irrefl n), if_pos rfl]
  have r1 : rowsU n u (n + 1) = ⟨0, 0, 1, 0⟩ := by unfold rowsU; rw [if_neg (by omega), if_neg (by omega), if_pos rfl]
  have r2 : rowsU n u (n + 2) = ⟨0, 0, 0, -1⟩ := by unfold rowsU; rw [if_neg (by omega), if_neg (by omega), if_neg (by omega)]
  show _ = ((uCells (rowsU n u) n ++ (rowsU n u n).cells) ++ (rowsU n u (n + 1)).cells) ++ (rowsU n u (n + 2)).cells
  rw [h, r0, r1, r2, List.append_assoc, List.append_assoc]
  rfl

theorem units_form {w : World} {base : Nat} {e : TypeId} {n : Nat} {v : Value} {u : Nat → U4} (hn : 0 < n) (h : w.ownsRow base e 4 v n (uCells u n)) : ∃ g cap, v = .slice (some ⟨g, 0, none⟩) n cap ∧ base ≤ g ∧ Units w (some ⟨g, 0, none⟩) n u := by
  rcases h.2 with ⟨_, h0⟩ | ⟨g, cap, cur, hv, hb, hg, _⟩
  · omega
  · subst hv
    exact ⟨g, cap, rfl, hb, units_of_own h⟩

theorem vals_block {A B : World} {b N : Nat} {S : P4 → Prop} {val : P4 → Int} (h : Vals A b N S val) (hb : B.heap[b]? = A.heap[b]?) : Vals B b N S val := by
  obtain ⟨D, ⟨es, clock, hm, F, hs, hD⟩, h1⟩ := h
  exact ⟨D, ⟨es, clock, hb.trans hm, F, hs, hD⟩, h1⟩

theorem vals_mono {A : World} {b N N' : Nat} {S : P4 → Prop} {val : P4 → Int} (h : Vals A b N S val) (hN : N ≤ N') : Vals A b N' S val := by
  obtain ⟨D, h0, h1⟩ := h
  exact ⟨D, h0.mono hN, h1⟩

theorem grown_then {W A B : World} {r : Option Nat} (h : W.grownBy A r) (k : Below W.heap.size A B) : W.grownBy B r :=
  ⟨k.os.trans h.os, k.tape.trans h.tape, k.output.trans h.output, Nat.le_trans h.size k.size, fun i hi hne => (k.block i hi).trans (h.block i hi hne)⟩

theorem unit_at {w : World} {g n : Nat} {u : Nat → U4} (h : Units w (some ⟨g, 0, none⟩) n u) (i : Nat) (hi : i < n) :
    w.cell? ⟨g, i * 4, none⟩ = some (.int .i64 (u i).q) ∧ w.cell? ⟨g, i * 4 + 1, none⟩ = some (.int .i64 (u i).p) ∧ w.cell? ⟨g, i * 4 + 2, none⟩ = some (.int .i64 (u i).l) ∧ w.cell? ⟨g, i * 4 + 3, none⟩ = some (.int .i64 (u i).c) := by
  obtain ⟨b, off, e, hb, c0, c1, c2, c3⟩ := Units.at h i hi
  cases e
  simp only [Nat.zero_add] at c0 c1 c2 c3
  exact ⟨c0, c1, c2, c3⟩

theorem units_keep {w W : World} {g n : Nat} {u : Nat → U4} (hu : Units w (some ⟨g, 0, none⟩) n u) (hz : w.heap.size ≤ W.heap.size) (h : W.heap[g]? = w.heap[g]?) : Units W (some ⟨g, 0, none⟩) n u := by
  rcases hu with h0 | ⟨b, off, e, hb, hc⟩
  · exact .inl h0
  · cases e
    refine .inr ⟨g, 0, rfl, Nat.lt_of_lt_of_le hb hz, fun i hi => ?_⟩
    obtain ⟨c0, c1, c2, c3⟩ := hc i hi
    exact ⟨(World.cell?_of_block (a := ⟨g, _, none⟩) h).trans c0, (World.cell?_of_block (a := ⟨g, _, none⟩) h).trans c1, (World.cell?_of_block (a := ⟨g, _, none⟩) h).trans c2, (World.cell?_of_block (a := ⟨g, _, none⟩) h).trans c3⟩

theorem tri_len {n : Nat} (h : n ≤ 6) : (triL (n + 3)).length ≤ 84 := by
  have : n = 0 ∨ n = 1 ∨ n = 2 ∨ n = 3 ∨ n = 4 ∨ n = 5 ∨ n = 6 := by omega
  rcases this with rfl | rfl | rfl | rfl | rfl | rfl | rfl <;> decide

theorem own_isMap {w : World} {b n : Nat} {D : DataW Unit} (h : w.ownsMap Tryz.prog 45 (plainElem Tryz.prog 2) b n D) : IsMap D := (World.ownsMap.tidy h keyedP).isMap

/-- Triple number k of all rows. -/
def triP (n k : Nat) : Tri := (triL (n + 3)).getD k (0, 0, 0)
theorem triP_get {n k : Nat} (h : k < (triL (n + 3)).length) : (triL (n + 3))[k] = triP n k := by simp [triP, List.getD, h]
theorem triP_lt {n k : Nat} (h : k < (triL (n + 3)).length) : (triP n k).1 < (triP n k).2.1 ∧ (triP n k).2.1 < (triP n k).2.2 ∧ (triP n k).2.2 < n + 3 := by
  rw [← triP_get h]
  exact tri_mem (List.getElem_mem h)
theorem triP_arg {n k : Nat} (hk : k < ((triL (n + 3)).map fun t => #[triV t]).length) : ((triL (n + 3)).map fun t => #[triV t])[k] = #[triV (triP n k)] := by
  rw [List.getElem_map, triP_get (by simpa using hk)]

set_option maxRecDepth 100000 in
set_option maxHeartbeats 8000000 in
theorem proofs_c (g n : Nat) (m : Nat → M5) (l c : Int) (s : Bool) (w : World) (hF : Fine n m) (ht : 0 ≤ l ∧ l ≤ 1000 ∧ 0 ≤ c ∧ c ≤ 1000) (hu : Units w (some ⟨g, 0, none⟩) n (potU s m)) (hS : Small n (potU s m)) :
    Calls Tryz.prog 104 #[potV g n l c] w fun e w' => ∃ b, w.heap.size ≤ b ∧ e = .returned (.map (some b)) ∧ Vals w' b 200 (prfS n (potU s m)) (valueR l c) ∧ Below w.heap.size w w' := by
  obtain ⟨W, hW⟩ : ∃ W, w.alloc (.cells #[.slice (some ⟨g, 0, none⟩) n n, .int .i64 1, .int .i64 0, .int .i64 l, .int .i64 c] 102) = W := ⟨_, rfl⟩
  have hB0 : Below w.heap.size w W := by rw [← hW]; exact Below.alloc1 (Below.refl _ _) _ (Nat.le_refl _)
  have hP : RowIs W w.heap.size #[.slice (some ⟨g, 0, none⟩) n n, .int .i64 1, .int .i64 0, .int .i64 l, .int .i64 c] 102 := by rw [← hW]; exact heap_new_at _ _ _ rfl
  have hu0 := hu.below hB0
  obtain ⟨u, hue⟩ : ∃ u, potU s m = u := ⟨_, rfl⟩
  rw [hue] at hu0 hS ⊢
  clear hue hu
  obtain ⟨e0, e1, e2, e3, e4, ez⟩ := potrow hP
  obtain ⟨i0, hi, hi0, hi1, hi2⟩ := info_parts infoSums2
  have hn6 := hS.1
  have hn1 := hF.1
  have h84 := tri_len hn6
  have HP := Lib.hid hP
  have HU := Lib.hid hu0
  have hmm := @run_makeMap Tryz.prog
  clear hP hu0
  refine (callsIn_wide (n := 1)).1 ?_
  refine callsIn_of_wp_marks Tryz.func104 rfl trivial ?_ rfl
  simp only [Tryz.ntmps104, List.size_toArray, List.length_cons, List.length_nil, Nat.reduceAdd, Nat.reduceSub, Array.replicate_succ, Array.replicate_zero, List.push_toArray, List.append_toArray, List.nil_append, List.cons_append]
  gi_wp2_with (first
    | (gi_at_builtin; refine wpListIn_append_grows _ rfl _ _ 81 rfl 92 i0 (.agg #[.int .i64 0, .int .i64 0, .int .i64 0, .int .i64 0]) 4 32 Tryz.underlying81 hi hi0 hi1 hi2 rfl (by decide) ⟨g, 0, none⟩ n n (uCells u n) rfl (uCells_len u n) (uCells_at (HU.out.below (Below.alloc1 (Below.refl _ _) _ (Nat.le_refl _)))) ⟨W.heap.size, 0, none⟩ 3 3 [.int .i64 0, .int .i64 1, .int .i64 0, .int .i64 0, .int .i64 0, .int .i64 0, .int .i64 1, .int .i64 0, .int .i64 0, .int .i64 0, .int .i64 0, .int .i64 (-1)] rfl rfl (World.news_of_block (cs := #[.int .i64 0, .int .i64 1, .int .i64 0, .int .i64 0, .int .i64 0, .int .i64 0, .int .i64 1, .int .i64 0, .int .i64 0, .int .i64 0, .int .i64 0, .int .i64 (-1)]) (t := 92) (fr := (0, 0)) (heap_new_at _ _ _ rfl)) (by omega) (by unfold maxLen; omega) (by omega) ?_; intro v' w1 hown hg1; rw [rows_cells] at hown; obtain ⟨h, cap, rfl, hh, hrw⟩ := units_form (by omega) hown)
    | (refine ⟨trivial, ?_⟩; gi_at_call 97; refine (callsIn_wide.2 (triples_c (n + 3) _)).mono ?_; rintro e w2 ⟨rfl, rfl⟩)
    | fail)
  have hb01 : Below W.heap.size W w1 := (Below.alloc1 (Below.refl _ W) _ (Nat.le_refl _)).grown hg1 (by simp) (fun k e => by cases e)
  have hh1 : h < w1.heap.size := by
    obtain ⟨_, _, e, hb, _⟩ := Units.at hrw 0 (by omega)
    cases e
    exact hb
  have hhW : W.heap.size ≤ h := by simp at hh; omega
  clear hown hh hg1 hmm
  obtain ⟨W2, hW2⟩ : ∃ W2, (((w1.alloc (.cells #[.slice (some ⟨h, 0, none⟩) (n + 3) cap] 81)).alloc (.map #[] 0)).alloc (.cells #[.map (some (w1.heap.size + 1))] 143)).alloc (.cells #[.int .i64 (n + 3)] 3) = W2 := ⟨_, rfl⟩
  have hb2 : Below w1.heap.size w1 W2 := by rw [← hW2]; exact Below.alloc1 (Below.alloc1 (Below.alloc1 (Below.alloc1 (Below.refl _ _) _ (Nat.le_refl _)) _ (Nat.le_refl _)) _ (Nat.le_refl _)) _ (Nat.le_refl _)
  have hR2 : RowIs W2 w1.heap.size #[.slice (some ⟨h, 0, none⟩) (n + 3) cap] 81 := by rw [← hW2]; exact RowIs.alloc (RowIs.alloc (RowIs.alloc (heap_new_at _ _ _ rfl) _) _) _
  have hV2 : RowIs W2 (w1.heap.size + 1 + 1) #[.map (some (w1.heap.size + 1))] 143 := by rw [← hW2]; exact RowIs.alloc (heap_new_at _ _ _ (by simp)) _
  have hT2 : RowIs W2 (w1.heap.size + 1 + 1 + 1) #[.int .i64 ((n + 3 : Nat) : Int)] 3 := by rw [← hW2]; exact heap_new_at _ _ _ (by simp)
  have hM2 : Vals W2 (w1.heap.size + 1) 0 (fun _ => False) (valueR l c) := by
    rw [← hW2]
    have h0 := vals_made (w1.alloc (.cells #[.slice (some ⟨h, 0, none⟩) (n + 3) cap] 81)) (valueR l c)
    rw [World.size_alloc] at h0
    exact vals_block h0 ((Below.heap_alloc _ _ _ (by simp)).trans (Below.heap_alloc _ _ _ (by simp)))
  have hz2 : W2.heap.size = w1.heap.size + 4 := by rw [← hW2]; simp
  have hU2 := hrw.below hb2
  have hP2 := HP.out.below (bup hb01 hb2)
  have hb02 := bup hb01 hb2
  have hWz : W.heap.size ≤ w1.heap.size := hb01.size
  rw [hW2]
  obtain ⟨q, hq⟩ : ∃ q, w1.heap.size = q := ⟨_, rfl⟩
  rw [hq] at hR2 hV2 hT2 hM2 hz2 hh1 hWz ⊢
  have HR2 := Lib.hid hR2
  have HV2 := Lib.hid hV2
  have HM2 := Lib.hid hM2
  have HU2 := Lib.hid hU2
  have HP2 := Lib.hid hP2
  have Hb02 := Lib.hid hb02
  have HSm := Lib.hid hS
  have HB0 := Lib.hid hB0
  clear hR2 hV2 hM2 hU2 hP2 hW2 hrw hb01 hb2 hq e0 e1 e2 e3 e4 hW HP HU hb02 hS hB0
  refine wpIn_rangeL (gf := 111) (first := #[]) (lb := #[.pointer (some ⟨q + 1 + 1 + 1, 0, none⟩)]) rfl (enters_of Tryz.func111 (by kernel_rfl) rfl) (triples_gives (q + 1 + 1 + 1) (n + 3) W2 hT2 (by omega)) (fun k hk => by rw [hk]; omega) (fun k hk => by simp)
    (fun k A => Vals A (q + 1) (2 * k) (fun p => p ∈ prfL (n + 3) (rowsU n u) k) (valueR l c) ∧ W2.grownBy A (some (q + 1)))
    (fun _ _ _ => False)
    (fun k A B hA hAB => ⟨vals_block hA.1 (hAB.block _ (by omega)), grown_then hA.2 hAB⟩)
    (fun _ _ _ _ h _ => h)
    ⟨HM2.out.congr fun p => by simp [prfL], grown_refl _ _⟩
    (fun k a' A => ∃ Bx, q + 6 ≤ Bx ∧ RowIs A Bx #[.int .i64 (triP n k).1, .int .i64 (triP n k).2.1, .int .i64 (triP n k).2.2] 133 ∧
      a' = { tmps := #[potV g n l c, .pointer (some ⟨w.heap.size, 0, none⟩), .map none, .int .i64 n, .pointer (some ⟨q, 0, none⟩), .pointer (some ⟨q + 1 + 1, 0, none⟩), .pointer (some ⟨Bx, 0, none⟩), undef, undef, undef, undef, undef, .pointer (some ⟨w.heap.size, 0, none⟩), .pointer (some ⟨w.heap.size, 0, none⟩), .slice (some ⟨g, 0, none⟩) n n, .int .i64 n, .pointer (some ⟨w.heap.size, 0, none⟩), .pointer (some ⟨w.heap.size, 0, none⟩), .slice (some ⟨g, 0, none⟩) n n, .int .i64 n, .int .i64 n, .slice (some ⟨g, 0, none⟩) n n, .agg #[.int .i64 0, .int .i64 1, .int .i64 0, .int .i64 0], .agg #[.int .i64 0, .int .i64 0, .int .i64 1, .int .i64 0], .agg #[.int .i64 0, .int .i64 0, .int .i64 0, .int .i64 (-1)], .slice (some ⟨W.heap.size, 0, none⟩) 3 3, .slice (some ⟨h, 0, none⟩) (n + 3) cap, .map (some (q + 1)), .slice (some ⟨h, 0, none⟩) (n + 3) cap, .int .i64 (n + 3), .func (.func 111) #[] #[.pointer (some ⟨q + 1 + 1 + 1, 0, none⟩)], triV (triP n k), undef, undef, undef, undef, undef, undef, undef, undef, undef, undef, undef, undef, undef, undef, undef, undef, undef, undef, undef, undef, undef, undef, undef, undef, undef, undef, undef, undef, undef, undef, undef, undef, undef, undef, undef, undef, undef, undef, undef, undef, undef, undef, undef, undef, undef, undef, undef, undef, undef, undef, undef], defers := [] })
    (fun k a' A o hA => by
      obtain ⟨Bx, h1, h2, h3⟩ := hA
      exact ⟨Bx, h1, (World.putObj_heap_other (by omega)).trans h2, h3⟩)
    ?assign ?body ?done ?stop
  case assign =>
    intro lx k hk A T hA hI hT
    rw [triP_arg hk]
    gi_wp2
    exact hT _ _ (Below.alloc1 (Below.refl _ _) _ (Nat.le_refl _)) ⟨A.heap.size, by omega, heap_new_at _ _ _ rfl, rfl⟩
  case body =>
    rintro lx k hk a' A hA ⟨hVk, hGk⟩ ⟨Bx, hBx, hx, rfl⟩
    have hk' : k < (triL (n + 3)).length := by simpa using hk
    obtain ⟨t1, t2, t3⟩ := triP_lt hk'
    have hb0 := triP_get hk'
    obtain ⟨t, ht0⟩ : ∃ t, triP n k = t := ⟨_, rfl⟩
    rw [ht0] at t1 t2 t3 hx hb0 ⊢
    have hRA := (hGk.block q (by omega) (by simp)).trans HR2.out
    have hVA := (hGk.block (q + 1 + 1) (by omega) (by simp)).trans HV2.out
    have hPA := (hGk.block w.heap.size (by omega) (by simp; omega)).trans HP2.out
    have hUA := units_keep HU2.out hGk.size (hGk.block h (by omega) (by simp; omega))
    have r0 : A.cell? ⟨q, 0, none⟩ = some (.slice (some ⟨h, 0, none⟩) (n + 3) cap) := RowIs.cell hRA 0
    have x0 : A.cell? ⟨Bx, 0, none⟩ = some (.int .i64 t.1) := hx.cell 0
    have x1 : A.cell? ⟨Bx, 1, none⟩ = some (.int .i64 t.2.1) := hx.cell 1
    have x2 : A.cell? ⟨Bx, 2, none⟩ = some (.int .i64 t.2.2) := hx.cell 2
    obtain ⟨a0, a1, a2, a3⟩ := unit_at hUA t.1 (by omega)
    obtain ⟨b0, b1, b2, b3⟩ := unit_at hUA t.2.1 (by omega)
    obtain ⟨d0, d1, d2, d3⟩ := unit_at hUA t.2.2 (by omega)
    have zq : q < A.heap.size := by omega
    have zBx : Bx < A.heap.size := (Array.getElem?_eq_some_iff.1 hx).1
    have zh : h < A.heap.size := by omega
    have j1 : (t.1 : Int) < (n : Int) + 3 := by omega
    have j2 : (t.2.1 : Int) < (n : Int) + 3 := by omega
    have j3 : (t.2.2 : Int) < (n : Int) + 3 := by omega
    have hc1 := fun (w1 : World) (x : Later w1) => across_c (rowsU n u t.1) (rowsU n u t.2.1) (rowsU n u t.2.2) x.w (rows_near HSm.out _) (rows_near HSm.out _) (rows_near HSm.out _)
    have H1 := Lib.hid hc1
    have HRA := Lib.hid hRA
    have HVA := Lib.hid hVA
    have HPA := Lib.hid hPA
    have HUA := Lib.hid hUA
    have HxA := Lib.hid hx
    have HVk := Lib.hid hVk
    have HGk := Lib.hid hGk
    have Hb0 := Lib.hid hb0
    have Ht0 := Lib.hid ht0
    clear hc1 hRA hVA hPA hUA hx hVk hGk hb0 ht0
    gi_wp2_with fail
    refine wpIn_region_floatR 16 7 83 (.cells #[.int .i64 0, .int .i64 0, .int .i64 0, .int .i64 0] 92 (0, 0)) _ (by kernel_rfl) (by kernel_rfl) (by rintro ⟨_, _, h⟩; exact h) (by kernel_rfl) rfl rfl rfl ?hal (by kernel_rfl) (by kernel_rfl) rfl rfl ?_
    case hal => intro a w; go_simp
    simp only [List.take_succ_cons, List.take_zero, List.drop_succ_cons, List.drop_zero]
    apply Exists.intro
    refine ⟨fun w1 hb1 K hK => ?_, ?_⟩
    · have hlc := fun (x : Later w1) => later_cell2 hb1 x
      repeat (go_big_quiet_step (((with_reducible refine calls_later (H1.out _ _)))))
      exact wpQuiet_nil hK
    intro Bp A2 hbp hA2 hz2'
    have hp2 : RowIs A2 Bp #[.int .i64 0, .int .i64 0, .int .i64 0, .int .i64 0] 92 := hz2'
    have q0 := hp2.cell 0
    have q1 := hp2.cell 1
    have q2 := hp2.cell 2
    have q3 := hp2.cell 3
    have v0 := hp2.frozen 0
    have v1 := hp2.frozen 1
    have v2 := hp2.frozen 2
    have v3 := hp2.frozen 3
    simp at q0 q1 q2 q3
    have zBp := (Array.getElem?_eq_some_iff.1 hp2).1
    have Hp2 := Lib.hid hp2
    have HA2 := Lib.hid hA2
    obtain ⟨f, hf⟩ : ∃ f, acrossT (rowsU n u) t = f := ⟨_, rfl⟩
    have hfe : acrossR (rowsU n u t.1) (rowsU n u t.2.1) (rowsU n u t.2.2) = f := hf
    have hf6 : f.six := by rw [← hf]; exact across_six (rows_near HSm.out _) (rows_near HSm.out _) (rows_near HSm.out _)
    simp only [hfe]
    clear hz2' hp2 hA2 r0 x0 x1 x2 a0 a1 a2 a3 b0 b1 b2 b3 d0 d1 d2 d3 H1 hfe
    go_wp2_with fail
    obtain ⟨A3, hA3⟩ : ∃ A3, (((A2.setCell ⟨Bp, 0, none⟩ (.int .i64 f.q)).setCell ⟨Bp, 1, none⟩ (.int .i64 f.p)).setCell ⟨Bp, 2, none⟩ (.int .i64 f.l)).setCell ⟨Bp, 3, none⟩ (.int .i64 f.c) = A3 := ⟨_, rfl⟩
    have hA3b : Below A.heap.size A A3 := by rw [← hA3]; exact (((HA2.out.setCell hbp _).setCell hbp _).setCell hbp _).setCell hbp _
    have hF3 : RowIs A3 Bp #[.int .i64 f.q, .int .i64 f.p, .int .i64 f.l, .int .i64 f.c] 92 := by rw [← hA3]; exact (((Hp2.out.set 0 (.int .i64 f.q)).set 1 (.int .i64 f.p)).set 2 (.int .i64 f.l)).set 3 (.int .i64 f.c)
    rw [hA3]
    clear hA3 q0 q1 q2 q3 v0 v1 v2 v3 zBp Hp2 HA2
    obtain ⟨f0, f1, f2, f3, fz⟩ := urow hF3
    have heq := eqSums f.q f.p f.l f.c A3
    have Hf := Lib.hid hf
    have Hf6 := Lib.hid hf6
    have HF3 := Lib.hid hF3
    have HA3 := Lib.hid hA3b
    clear hf hf6 hF3 hA3b
    have hstep := prf_step (r := rowsU n u) hk'
    rw [Hb0.out, Hf.out] at hstep
    have Hstep := Lib.hid hstep
    clear hstep
    have HEnd := Lib.hid (fun (a : Act) (B : World) (hV : Vals B (q + 1) (2 * k + 2) (fun p => p ∈ prfL (n + 3) (rowsU n u) (k + 1)) (valueR l c)) (hg : A.grownBy B (some (q + 1))) =>
      (show roundQ (· = q + 1 + 1 + 1) W2.heap.size (fun k A => Vals A (q + 1) (2 * k) (fun p => p ∈ prfL (n + 3) (rowsU n u) k) (valueR l c) ∧ W2.grownBy A (some (q + 1))) (fun _ _ _ => False) k A .normal a B from
        ⟨⟨hg.size, fun i hi h => hg.block i hi (by simp; rcases h with h | h <;> omega)⟩, by rw [show 2 * (k + 1) = 2 * k + 2 by omega]; exact hV, HGk.out.andThen hg (fun j e => .inr e)⟩))
    cases hzf : zeroU f with
    | true =>
      have hzf' : (f.q == 0 && (f.p == 0 && (f.l == 0 && f.c == 0))) = true := hzf
      rw [hzf'] at heq
      have Hzf := Lib.hid hzf
      clear hzf hzf'
      gi_wp2_with fail
      refine HEnd.out _ A3 ((vals_mono (vals_block HVk.out (HA3.out.block _ (by omega))) (by omega)).congr fun p => ?_) (grown_then (grown_refl A _) HA3.out)
      rw [Hstep.out]
      simp [prfsOf, Hzf.out]
    | false =>
      have hzf' : (f.q == 0 && (f.p == 0 && (f.l == 0 && f.c == 0))) = false := hzf
      rw [hzf'] at heq
      have Hzf := Lib.hid hzf
      clear hzf hzf'
      obtain ⟨s0, s1, s2, s3⟩ := Hf6.out
      unfold Six at s0 s1 s2 s3
      have hfat : ∀ i, i < 4 → -6000000000 ≤ f.at i ∧ f.at i ≤ 6000000000 := fun i hi => by
        match i, hi with
        | 0, _ => exact s0
        | 1, _ => exact s1
        | 2, _ => exact s2
        | 3, _ => exact s3
      have hI : Ints A3 (some ⟨Bp, 0, none⟩) 4 f.at := .inr ⟨Bp, 0, rfl, fz, fun i hi => by
        match i, hi with
        | 0, _ => exact f0
        | 1, _ => exact f1
        | 2, _ => exact f2
        | 3, _ => exact f3⟩
      have hdiv := divisor_c (some ⟨Bp, 0, none⟩) 4 4 f.at A3 hI (by decide) (fun i hi => by have := hfat i hi; omega)
      obtain ⟨d, hd⟩ : ∃ d, divF f.at 4 = d := ⟨_, rfl⟩
      have hd1 : 1 ≤ d := by rw [← hd]; exact div_pos' _ _
      have hd2 : d ≤ 6000000000 := by
        have := gcdF_bd f.at 6000000000 4 (fun i hi => by have := hfat i hi; omega)
        rw [← hd]; unfold divF; omega
      rw [hd] at hdiv
      have Hd := Lib.hid hd
      have Hdiv := Lib.hid hdiv
      clear hI hdiv hd hfat
      gi_wp2_with fail
      refine ⟨trivial, ?_⟩
      refine (CallsIn.inRound lx (callsIn_wide.2 Hdiv.out)).mono ?_
      rintro e A4 ⟨rfl, qd, hA4⟩
      have hA4b : Below A.heap.size A A4 := by rw [hA4]; exact below_drewN HA3.out qd
      have hF4 : RowIs A4 Bp #[.int .i64 f.q, .int .i64 f.p, .int .i64 f.l, .int .i64 f.c] 92 := by rw [hA4]; exact HF3.out
      clear f0 f1 f2 f3 fz heq hA4 Hdiv
      obtain ⟨f0, f1, f2, f3, fz⟩ := urow hF4
      have nd : IntKind.i64.wrap (-d) = -d := IntWalk.i64_in _ (by omega)
      have hp1 := fun (x : Later A4) => proofOf_c f d x.w (by omega) s0 s1 s2 s3
      have hp2 := fun (x : Later A4) => proofOf_c f (-d) x.w (by omega) s0 s1 s2 s3
      obtain ⟨p1, hp1e⟩ : ∃ p1, proofOfR f d = p1 := ⟨_, rfl⟩
      obtain ⟨p2, hp2e⟩ : ∃ p2, proofOfR f (-d) = p2 := ⟨_, rfl⟩
      have hs1 : p1.six := by rw [← hp1e]; exact proofOf_six _ Hf6.out
      have hs2 : p2.six := by rw [← hp2e]; exact proofOf_six _ Hf6.out
      rw [hp1e] at hp1
      rw [hp2e] at hp2
      have Hp1 := Lib.hid hp1
      have Hp2 := Lib.hid hp2
      have Hs1 := Lib.hid hs1
      have Hs2 := Lib.hid hs2
      have Hp1e := Lib.hid hp1e
      have Hp2e := Lib.hid hp2e
      clear hp1 hp2 hs1 hs2 hp1e hp2e
      have hlc := fun (x : Later A4) => later_cell x
      gi_wp2_with fail
      refine wpIn_region_laterR (by kernel_rfl) (by kernel_rfl) (by kernel_rfl) (by rintro ⟨_, _, h⟩; exact h) ?_
      repeat (go_big_quiet_step (((with_reducible first | (refine calls_later (Hp1.out _)) | (refine calls_later (Hp2.out _))))))
      refine wpQuiet_nil ?_
      clear hlc f0 f1 f2 f3 fz
      rintro ⟨A5, hb5⟩
      have hA5 : Below A.heap.size A A5 := hA4b.trans (hb5.mono hA4b.size)
      have hV5 := vals_block HVk.out (hA5.block (q + 1) (by omega))
      have HV5 := Lib.hid hV5
      have HA5 := Lib.hid hA5
      clear hV5 hA5 hF4 hA4b
      dsimp only
      clear hb5
      gi_wp2_with fail
      gi_loopw [61] (fun sv wr => ∃ j : Nat, j ≤ 2 ∧ sv = .int .i64 j ∧ Vals wr (q + 1) (2 * k + j) (fun p => p ∈ prfL (n + 3) (rowsU n u) k ∨ p ∈ [p1, p2].take j) (valueR l c) ∧ A.grownBy wr (some (q + 1))) (fun sv _ => 2 - (intOf sv).toNat)
      case atStart => exact ⟨0, by omega, rfl, HV5.out.congr (fun p => by simp), grown_then (grown_refl A _) HA5.out⟩
      case round =>
      obtain ⟨j, hj, rfl, hV, hG⟩ := hrel
      have hVr := (hG.block (q + 1 + 1) (by omega) (by simp)).trans HVA.out
      have hPr := (hG.block w.heap.size (by omega) (by simp; omega)).trans HPA.out
      have hcase : j = 0 ∨ j = 1 ∨ j = 2 := by omega
      rcases hcase with rfl | rfl | rfl
      · have ix : ∀ w', (Instr.index 153 (.agg #[.int .i64 p1.d, .int .i64 p1.b, .int .i64 p1.l, .int .i64 p1.c, .int .i64 p2.d, .int .i64 p2.b, .int .i64 p2.l, .int .i64 p2.c]) (.int .i64 0)).run Tryz.prog w' = .ok (.agg #[.int .i64 p1.d, .int .i64 p1.b, .int .i64 p1.l, .int .i64 p1.c]) w' := fun _ => by kernel_rfl
        obtain ⟨A6, hA6⟩ : ∃ A6, wr.alloc (.cells #[.int .i64 p1.d, .int .i64 p1.b, .int .i64 p1.l, .int .i64 p1.c] 45) = A6 := ⟨_, rfl⟩
        have hb6 : Below wr.heap.size wr A6 := by rw [← hA6]; exact Below.alloc1 (Below.refl _ _) _ (Nat.le_refl _)
        have hq6 : RowIs A6 wr.heap.size #[.int .i64 p1.d, .int .i64 p1.b, .int .i64 p1.l, .int .i64 p1.c] 45 := by rw [← hA6]; exact heap_new_at _ _ _ rfl
        obtain ⟨d0, d1, d2, d3, dz⟩ := prow hq6
        have y0 : A6.cell? ⟨q + 1 + 1, 0, none⟩ = some (.map (some (q + 1))) := RowIs.cell (RowIs.below hVr hb6) 0
        have y1 : q + 1 + 1 < A6.heap.size := (Array.getElem?_eq_some_iff.1 (RowIs.below hVr hb6)).1
        obtain ⟨e0, e1, e2, e3, e4, ez⟩ := potrow (RowIs.below hPr hb6)
        have hval := fun (x : Later A6) => value6_c g n l c p1 x.w Hs1.out ht
        have Hval := Lib.hid hval
        have HV := Lib.hid hV
        have HG := Lib.hid hG
        have Hb6 := Lib.hid hb6
        have hlc := fun (x : Later A6) => later_cell x
        clear hval hV hG hb6 hq6 hVr hPr
        gi_wp2_with fail
        refine wpIn_region_later_tailR 5 (by kernel_rfl) (by kernel_rfl) (by kernel_rfl) (by rintro ⟨_, _, h⟩; exact h) ?_
        simp only [List.take_succ_cons, List.take_zero, List.drop_succ_cons, List.drop_zero]
        repeat (go_big_quiet_step (((with_reducible refine calls_later (Hval.out _)))))
        refine wpQuiet_nil ?_
        clear hlc d0 d1 d2 d3 dz y0 y1 e0 e1 e2 e3 e4 ez hA6
        rintro ⟨A7, hb7⟩
        have hV7 := vals_block HV.out (((Hb6.out.trans (hb7.mono Hb6.out.size))).block (q + 1) HV.out.lt)
        have hG7 : A.grownBy A7 (some (q + 1)) := HG.out.andThen (grown_of_below (Hb6.out.trans (hb7.mono Hb6.out.size))) (fun j e => by cases e)
        obtain ⟨D, hown, w1', w2', w3'⟩ := hV7
        have hok := P4.six.ok Hs1.out
        have hv6 := valueR_six Hs1.out ht
        have hin : In64 (valueR l c p1) := ⟨by omega, by omega⟩
        obtain ⟨u1, u2, u3⟩ := vals_put (own_isMap hown) w1' w2' w3' hok hin
        have HU1 := Lib.hid u1
        have HU2' := Lib.hid u2
        have HU3 := Lib.hid u3
        have HG7 := Lib.hid hG7
        dsimp only
        clear u1 u2 u3 w1' w2' w3' hG7 hb7
        go_wp2_with (first
          | (at_mapUpdate; refine wpList_mapUpdate_own _ rfl _ _ _ 143 rfl 45 2 keyedP Tryz.underlying143 (plainElem Tryz.prog 2) (q + 1) _ D rfl hown (by unfold maxLen; omega) _ _ (keyL p1) rfl rfl (keyOf_proof hok) (.lit (.int .i64 (valueR l c p1))) [] (plainElem_int Tryz.underlying2 (wf64 hin)) ?_; intro A8 hown8 hg8)
          | fail)
        gi_wp2_with fail
        go_roundw
        case rel =>
          refine ⟨1, by omega, rfl, ⟨_, hown8, fun p hp => HU1.out p ?_, fun p hp => (HU2'.out p hp).trans ?_, fun p hp => HU3.out p ?_⟩, HG7.out.andThen hg8 (fun j e => .inr e)⟩
          · simpa using hp
          · simp
          · simpa using hp
        case measure => simp [intOf]
      · have ix : ∀ w', (Instr.index 153 (.agg #[.int .i64 p1.d, .int .i64 p1.b, .int .i64 p1.l, .int .i64 p1.c, .int .i64 p2.d, .int .i64 p2.b, .int .i64 p2.l, .int .i64 p2.c]) (.int .i64 1)).run Tryz.prog w' = .ok (.agg #[.int .i64 p2.d, .int .i64 p2.b, .int .i64 p2.l, .int .i64 p2.c]) w' := fun _ => by kernel_rfl
        obtain ⟨A6, hA6⟩ : ∃ A6, wr.alloc (.cells #[.int .i64 p2.d, .int .i64 p2.b, .int .i64 p2.l, .int .i64 p2.c] 45) = A6 := ⟨_, rfl⟩
        have hb6 : Below wr.heap.size wr A6 := by rw [← hA6]; exact Below.alloc1 (Below.refl _ _) _ (Nat.le_refl _)
        have hq6 : RowIs A6 wr.heap.size #[.int .i64 p2.d, .int .i64 p2.b, .int .i64 p2.l, .int .i64 p2.c] 45 := by rw [← hA6]; exact heap_new_at _ _ _ rfl
        obtain ⟨d0, d1, d2, d3, dz⟩ := prow hq6
        have y0 : A6.cell? ⟨q + 1 + 1, 0, none⟩ = some (.map (some (q + 1))) := RowIs.cell (RowIs.below hVr hb6) 0
        have y1 : q + 1 + 1 < A6.heap.size := (Array.getElem?_eq_some_iff.1 (RowIs.below hVr hb6)).1
        obtain ⟨e0, e1, e2, e3, e4, ez⟩ := potrow (RowIs.below hPr hb6)
        have hval := fun (x : Later A6) => value6_c g n l c p2 x.w Hs2.out ht
        have Hval := Lib.hid hval
        have HV := Lib.hid hV
        have HG := Lib.hid hG
        have Hb6 := Lib.hid hb6
        have hlc := fun (x : Later A6) => later_cell x
        clear hval hV hG hb6 hq6 hVr hPr
        gi_wp2_with fail
        refine wpIn_region_later_tailR 5 (by kernel_rfl) (by kernel_rfl) (by kernel_rfl) (by rintro ⟨_, _, h⟩; exact h) ?_
        simp only [List.take_succ_cons, List.take_zero, List.drop_succ_cons, List.drop_zero]
        repeat (go_big_quiet_step (((with_reducible refine calls_later (Hval.out _)))))
        refine wpQuiet_nil ?_
        clear hlc d0 d1 d2 d3 dz y0 y1 e0 e1 e2 e3 e4 ez hA6
        rintro ⟨A7, hb7⟩
        have hV7 := vals_block HV.out (((Hb6.out.trans (hb7.mono Hb6.out.size))).block (q + 1) HV.out.lt)
        have hG7 : A.grownBy A7 (some (q + 1)) := HG.out.andThen (grown_of_below (Hb6.out.trans (hb7.mono Hb6.out.size))) (fun j e => by cases e)
        obtain ⟨D, hown, w1', w2', w3'⟩ := hV7
        have hok := P4.six.ok Hs2.out
        have hv6 := valueR_six Hs2.out ht
        have hin : In64 (valueR l c p2) := ⟨by omega, by omega⟩
        obtain ⟨u1, u2, u3⟩ := vals_put (own_isMap hown) w1' w2' w3' hok hin
        have HU1 := Lib.hid u1
        have HU2' := Lib.hid u2
        have HU3 := Lib.hid u3
        have HG7 := Lib.hid hG7
        dsimp only
        clear u1 u2 u3 w1' w2' w3' hG7 hb7
        go_wp2_with (first
          | (at_mapUpdate; refine wpList_mapUpdate_own _ rfl _ _ _ 143 rfl 45 2 keyedP Tryz.underlying143 (plainElem Tryz.prog 2) (q + 1) _ D rfl hown (by unfold maxLen; omega) _ _ (keyL p2) rfl rfl (keyOf_proof hok) (.lit (.int .i64 (valueR l c p2))) [] (plainElem_int Tryz.underlying2 (wf64 hin)) ?_; intro A8 hown8 hg8)
          | fail)
        gi_wp2_with fail
        go_roundw
        case rel =>
          refine ⟨2, by omega, rfl, ⟨_, hown8, fun p hp => HU1.out p ?_, fun p hp => (HU2'.out p hp).trans ?_, fun p hp => HU3.out p ?_⟩, HG7.out.andThen hg8 (fun j e => .inr e)⟩
          · simpa [or_assoc] using hp
          · simp [or_assoc]
          · simpa [or_assoc] using hp
        case measure => simp [intOf]
      · clear hVr hPr
        gi_wp2_with fail
        refine HEnd.out _ wr (hV.congr fun p => ?_) hG
        rw [Hstep.out]
        simp [prfsOf, Hzf.out, Hd.out, Hp1e.out, Hp2e.out]
  case done =>
    rintro B hBz ⟨hV, hG⟩ hK
    rw [hz2] at hK ⊢
    simp only [List.length_map] at hV
    obtain ⟨D, hown, s1, s2, s3⟩ := vals_mono hV (show 2 * (triL (n + 3)).length ≤ 200 by omega)
    have hRB := (hG.block q (by omega) (by simp)).trans HR2.out
    have hVB := (hG.block (q + 1 + 1) (by omega) (by simp)).trans HV2.out
    have hUB := units_keep HU2.out hG.size (hG.block h (by omega) (by simp; omega))
    have y0 : B.cell? ⟨q + 1 + 1, 0, none⟩ = some (.map (some (q + 1))) := RowIs.cell hVB 0
    have y1 : q + 1 + 1 < B.heap.size := by omega
    have hsix : ∀ p, p ∈ prfL (n + 3) (rowsU n u) (triL (n + 3)).length → p.six := prfL_six (rows_near HSm.out) _
    obtain ⟨S, hSe⟩ : ∃ S : P4 → Prop, (fun p => p ∈ prfL (n + 3) (rowsU n u) (triL (n + 3)).length) = S := ⟨_, rfl⟩
    have hSe' : ∀ p, p ∈ prfL (n + 3) (rowsU n u) (triL (n + 3)).length ↔ S p := fun p => by rw [← hSe]
    simp only [hSe'] at s1 s2 s3 hsix
    have hst := struck_start (fun p => !noneB (facU p) (rowsU n u) (n + 3)) s2 s3
    have HST := Lib.hid hst
    have HS1 := Lib.hid s1
    have HS3 := Lib.hid s3
    have HSix := Lib.hid hsix
    have HRB := Lib.hid hRB
    have HVB := Lib.hid hVB
    have HUB := Lib.hid hUB
    have HGB := Lib.hid hG
    have HK := Lib.hid hK
    have HSe := Lib.hid hSe'
    clear hst s1 s2 s3 hsix hRB hVB hUB hG hK hSe hSe' hV
    dsimp only
    gi_wp2_with (first
      | (gi_at_range; refine wpListIn_range_own _ rfl _ 143 rfl 45 2 keyedP Tryz.underlying143 (plainElem Tryz.prog 2) (q + 1) 200 _ rfl hown ?_; intro w0 hrg0 hg0 hs0)
      | fail)
    go_frame
    gi_loopw [72] (fun _ wr => ∃ (left : Lit → Bool) (cnt : Nat) (D' : DataW Unit), wr.ranges Tryz.prog 45 (plainElem Tryz.prog 2) (q + 1) B.heap.size 200 D' left cnt ∧ Struck S (valueR l c) (fun p => !noneB (facU p) (rowsU n u) (n + 3)) D' left ∧ B.grownBy wr (some (q + 1)))
      (fun _ wr => wr.rangeLeft (q + 1) B.heap.size)
    case atStart => exact ⟨_, _, _, hrg0, HST.out, hg0.but _⟩
    case round =>
    obtain ⟨left, cnt, D', hrg, hS, hgw⟩ := hrel
    clear y0 y1
    have y0 : wr.cell? ⟨q + 1 + 1, 0, none⟩ = some (.map (some (q + 1))) := RowIs.cell ((hgw.block (q + 1 + 1) (by omega) (by simp)).trans HVB.out) 0
    have y1 : q + 1 + 1 < wr.heap.size := by have := hgw.size; omega
    gi_wp2_with (first
      | (gi_at_next; refine wpListIn_next_ranges _ rfl _ rfl 45 keyedP (plainElem Tryz.prog 2) proofV (Value.int .i64) (fun key kl hk => by obtain ⟨p, hp, _⟩ := keyOf_inv hk; exact ⟨p, hp⟩) (fun v y hy => by obtain ⟨c, hc, _⟩ := plainElem_int_inv Tryz.underlying2 hy; exact ⟨c, hc⟩) (q + 1) B.heap.size 200 _ _ _ rfl hrg ?_ ?_)
      | fail)
    · intro _ hl0
      have hV := struck_end hrg.owns HS1.out (fun p hp => (HS3.out p hp).1) hS hl0
      have hK2 := (hgw.block (q + 4) (by omega) (by simp)).trans HK.out
      have HV := Lib.hid hV
      have HK2 := Lib.hid hK2
      clear hV hK2 hS hrg
      gi_wp2_with fail
      refine ⟨by simp, .inl ⟨_, _, rfl, run_takeDeferred HK2.out, ?_⟩⟩
      refine ⟨_, results_tmp rfl _ _ _, q + 1, by omega, rfl, ?_, ?_⟩
      · refine (vals_block HV.out (World.putObj_heap_other (by omega))).congr fun p => ?_
        rw [← HSe.out p]
        simp [prfS]
      · have hb : Below W.heap.size W wr := Hb02.out.trans ⟨(hgw.os.trans HGB.out.os), (hgw.tape.trans HGB.out.tape), (hgw.output.trans HGB.out.output), Nat.le_trans HGB.out.size hgw.size, fun i hi => (hgw.block i (by omega) (by simp; omega)).trans (HGB.out.block i (by omega) (by simp; omega))⟩
        exact (bup HB0.out hb).trans (below_put _ (by omega))
    · intro x cc kl yd yp w1' cnt1 hkey hlx hv hat hrg1 hlt hg1 hs1 hen
      obtain ⟨qq, hq, hok, rfl⟩ := keyOf_inv hkey
      obtain rfl := P4.ext' hq
      have hx6 : x.six := HSix.out x (hS.2.1 x hok hlx)
      have hgw1 : B.grownBy w1' (some (q + 1)) := hgw.andThen hg1 (fun j hj => by cases hj; exact .inl (Nat.le_refl _))
      obtain ⟨X2, hX2⟩ : ∃ X2, w1'.alloc (.cells #[.int .i64 x.d, .int .i64 x.b, .int .i64 x.l, .int .i64 x.c] 45) = X2 := ⟨_, rfl⟩
      have hrg2 : X2.ranges Tryz.prog 45 (plainElem Tryz.prog 2) (q + 1) B.heap.size 200 D' (fun z => left z && !z.sameKey (keyL x)) cnt1 := by rw [← hX2]; exact hrg1.alloc _
      have hgw2 : B.grownBy X2 (some (q + 1)) := by rw [← hX2]; exact hgw1.andThen (World.grownBy_alloc w1' _ none) (fun j hj => by cases hj)
      have hrow : RowIs X2 w1'.heap.size #[.int .i64 x.d, .int .i64 x.b, .int .i64 x.l, .int .i64 x.c] 45 := by rw [← hX2]; exact heap_new_at _ _ _ rfl
      have hRX := (hgw2.block q (by omega) (by simp)).trans HRB.out
      have hVX := (hgw2.block (q + 1 + 1) (by omega) (by simp)).trans HVB.out
      have hUX := units_keep HUB.out hgw2.size (hgw2.block h (by omega) (by simp; omega))
      have r0 : X2.cell? ⟨q, 0, none⟩ = some (.slice (some ⟨h, 0, none⟩) (n + 3) cap) := RowIs.cell hRX 0
      have r1 : q < X2.heap.size := (Array.getElem?_eq_some_iff.1 hRX).1
      have hnone := none6_c h (n + 3) cap (rowsU n u) x X2 hUX (by omega) (rows_near HSm.out) hx6
      have Hrow := Lib.hid hrow
      have HVX := Lib.hid hVX
      have Hgw2 := Lib.hid hgw2
      have Hrg2 := Lib.hid hrg2
      have HS := Lib.hid hS
      have Hnone := Lib.hid hnone
      have Hlt := Lib.hid (show cnt1 < wr.rangeLeft (q + 1) B.heap.size by rw [hrg.left_eq]; exact hlt)
      clear hq hgw1 hgw hg1 hat hrow hgw2 hS hrg2 hrg hlt hrg1 hkey hv hrg0 hg0 hown hs1 hs0 hRX hUX hnone hVX y0 y1
      obtain ⟨d0, d1, d2, d3, dz⟩ := prow Hrow.out
      gi_wp2_with fail
      refine ⟨trivial, ?_⟩
      refine (callsIn_wide.2 Hnone.out).mono ?_
      rintro e X3 ⟨rfl, hb3⟩
      clear d0 d1 d2 d3 dz r0 r1 hX2
      obtain ⟨d0, d1, d2, d3, dz⟩ := prow (Hrow.out.below hb3)
      have y0 : X3.cell? ⟨q + 1 + 1, 0, none⟩ = some (.map (some (q + 1))) := RowIs.cell (RowIs.below HVX.out hb3) 0
      have y1 : q + 1 + 1 < X3.heap.size := (Array.getElem?_eq_some_iff.1 (RowIs.below HVX.out hb3)).1
      have hg3 := grown_of_below hb3
      have hrg3 := Hrg2.out.kept hg3 (by simp) (by simp)
      have hgw3 := Hgw2.out.andThen hg3 (fun j hj => by cases hj)
      have Hgw3 := Lib.hid hgw3
      clear hgw3 hg3 hb3
      cases hp : noneB (facU x) (rowsU n u) (n + 3) with
      | true =>
        have Hrg3 := Lib.hid hrg3
        have Hp := Lib.hid hp
        clear hrg3 hp
        gi_wp2_with fail
        go_roundw
        case rel => exact ⟨_, cnt1, D', Hrg3.out, struck_stays HS1.out HS.out hok (by simp [Hp.out]), Hgw3.out⟩
        case measure => rw [Hrg3.out.left_eq]; exact Hlt.out
      | false =>
        have Hp := Lib.hid hp
        clear hp
        gi_wp2_with (first
          | (gi_at_delete; refine wpListIn_delete_ranges _ rfl _ _ 143 45 rfl 2 keyedP Tryz.underlying143 (plainElem Tryz.prog 2) (q + 1) B.heap.size 200 _ _ _ rfl hrg3 _ _ rfl (keyOf_proof hok) ?_; intro w4 cnt4 hrg4 hle hturn; go_frame)
          | fail)
        rw [strike_twice] at hrg4
        go_roundw
        case rel => exact ⟨_, cnt4, _, hrg4, struck_struck HS1.out HS.out hok (by simp [Hp.out]), Hgw3.out.andThen hturn.grown (fun j hj => by cases hj; exact .inr rfl)⟩
        case measure => rw [hrg4.left_eq]; exact Nat.lt_of_le_of_lt hle Hlt.out
  case stop =>
    rintro cd k B hBz h hK
    exact h.elim

end Go.Proofs.YtehafggcncbnkaaGreat

namespace Go.Proofs.YtehafggcncbnkaaGreat
open Go Go.RowKit Go.Maps Go.Shelf
attribute [local go_sem] Oper.semAt_some

/-- What has come of the proofs of S, the others being still to come. -/
def Come (S : P4 → Prop) (left : Lit → Bool) (ss : List P4) : Prop :=
  (∀ p, p ∈ ss → S p) ∧ (∀ p, S p → p ∈ ss ∨ left (keyL p) = true) ∧ (∀ p, p.ok → left (keyL p) = true → S p)

theorem come_step {S : P4 → Prop} {left : Lit → Bool} {ss : List P4} {q : P4} (h1 : ∀ p, S p → p.ok) (h : Come S left ss) (hq : q.ok) (hl : left (keyL q) = true) : Come S (fun z => left z && !z.sameKey (keyL q)) (ss ++ [q]) := by
  obtain ⟨a1, a2, a3⟩ := h
  refine ⟨fun p hp => ?_, fun p hp => ?_, fun p hp hl' => a3 p hp ((left_cut hp hq).1 hl').1⟩
  · rcases List.mem_append.1 hp with hp | hp
    · exact a1 p hp
    · obtain rfl : p = q := by simpa using hp
      exact a3 p hq hl
  · by_cases e : p = q
    · exact .inl (by simp [e])
    · rcases a2 p hp with h | h
      · exact .inl (List.mem_append.2 (.inl h))
      · exact .inr ((left_cut (h1 p hp) hq).2 ⟨h, e⟩)

set_option maxHeartbeats 1000000 in
theorem keys_c (b : Nat) (w : World) :
    Calls Tryz.prog 116 #[.map (some b)] w fun e w' => e = .returned (.func (.func 123) #[] #[.pointer (some ⟨w.heap.size, 0, none⟩)]) ∧ w.alloc (.cells #[.map (some b)] 143) = w' := by
  go_enter Tryz.func116, Tryz.ntmps116
  go_wp2_with fail
  go_ret
  exact ⟨rfl, rfl⟩

set_option maxRecDepth 100000 in
set_option maxHeartbeats 4000000 in
theorem keys_gives (Bm b N : Nat) (S : P4 → Prop) (val : P4 → Int) (w : World) (hm : RowIs w Bm #[.map (some b)] 143) (hV : Vals w b N S val) :
    SeqGives Fence.wide 1 Tryz.prog 123 #[.pointer (some ⟨Bm, 0, none⟩)] proofV (fun ss => (∀ p, p ∈ ss ↔ S p) ∧ ss.length ≤ N) N w := by
  intro l J W hW hJ hY h0
  obtain ⟨D, hown, s1, s2, s3⟩ := hV.below hW
  have hsz := hown.size_le
  have hm0 : W.cell? ⟨Bm, 0, none⟩ = some (.map (some b)) := (RowIs.below hm hW).cell 0
  have HJ := Lib.hid hJ
  have HY := Lib.hid hY
  have H1 := Lib.hid s1
  have H2 := Lib.hid s2
  have H0 := Lib.hid h0
  clear hJ hY s1 s2 s3 h0 hV hm hW
  show CallsIn Fence.wide 1 Tryz.prog 123 #[.func (.yield l) #[] #[], .pointer (some ⟨Bm, 0, none⟩)] W _
  refine callsIn_of_wp Tryz.func123 rfl trivial ?_ rfl
  simp only [Tryz.ntmps123, List.size_toArray, List.length_cons, List.length_nil, Nat.reduceAdd, Nat.reduceSub, Array.replicate_succ, Array.replicate_zero, List.push_toArray, List.append_toArray, List.nil_append, List.cons_append]
  gi_wp2_with (first
    | (gi_at_range; refine wpListIn_range_own _ rfl _ 143 rfl 45 2 keyedP Tryz.underlying143 (plainElem Tryz.prog 2) b N _ rfl hown ?_; intro w0 hrg0 hg0 hs0)
    | fail)
  go_frame
  gi_loopw [6] (fun _ wr => ∃ (left : Lit → Bool) (cnt : Nat) (ss : List P4), wr.ranges Tryz.prog 45 (plainElem Tryz.prog 2) b W.heap.size N D left cnt ∧ ss.length + cnt ≤ N ∧ Come S left ss ∧ J ss wr)
    (fun _ wr => wr.rangeLeft b W.heap.size)
  case atStart =>
    exact ⟨_, _, [], hrg0, by simpa using hsz, ⟨fun p hp => by simp at hp, fun p hp => .inr ((H2.out p (H1.out p hp)).2 hp), fun p hp h => (H2.out p hp).1 h⟩, HJ.out [] W w0 none H0.out hg0 (fun r e => by cases e)⟩
  case round =>
    obtain ⟨left, cnt, ss, hrg, hcs, hC, hJs⟩ := hrel
    gi_wp2_with (first
      | (gi_at_next; refine wpListIn_next_ranges _ rfl _ rfl 45 keyedP (plainElem Tryz.prog 2) proofV (Value.int .i64) (fun key kl hk => by obtain ⟨p, hp, _⟩ := keyOf_inv hk; exact ⟨p, hp⟩) (fun v y hy => by obtain ⟨c, hc, _⟩ := plainElem_int_inv Tryz.underlying2 hy; exact ⟨c, hc⟩) b W.heap.size N _ _ _ rfl hrg ?_ ?_)
      | fail)
    · intro hc0 hl0
      gi_wp2
      go_end0
      refine ⟨⟨_, rfl⟩, ss, ⟨fun p => ⟨hC.1 p, fun hp => ?_⟩, by omega⟩, hJs⟩
      rcases hC.2.1 p hp with h | h
      · exact h
      · rw [hl0] at h; cases h
    · intro x c kl yd yp w1 cnt1 hkey hlk hv hat hrg1 hlt hg1 hs1 hen
      obtain ⟨q, hq, hok, rfl⟩ := keyOf_inv hkey
      obtain rfl := P4.ext' hq
      have hJ1 : J ss w1 := HJ.out ss wr w1 (some W.heap.size) hJs hg1 (fun r e => by cases e; exact ⟨Nat.le_refl _, hrg.iter_walk⟩)
      obtain ⟨W2, hW2⟩ : ∃ W2, w1.alloc (.cells #[.int .i64 x.d, .int .i64 x.b, .int .i64 x.l, .int .i64 x.c] 45) = W2 := ⟨_, rfl⟩
      have hrg2 : W2.ranges Tryz.prog 45 (plainElem Tryz.prog 2) b W.heap.size N D (fun z => left z && !z.sameKey (keyL x)) cnt1 := by rw [← hW2]; exact hrg1.alloc _
      have hJ2 : J ss W2 := by rw [← hW2]; exact HJ.out ss w1 _ none hJ1 (World.grownBy_alloc w1 _ none) (fun r e => by cases e)
      have hrow : RowIs W2 w1.heap.size #[.int .i64 x.d, .int .i64 x.b, .int .i64 x.l, .int .i64 x.c] 45 := by rw [← hW2]; exact heap_new_at _ _ _ rfl
      obtain ⟨fn, tmps, assign, body, hy, hR⟩ := HY.out ss x W2 hJ2 (by omega)
      obtain ⟨d0, d1, d2, d3, dz⟩ := prow hrow
      have HC := Lib.hid hC
      have Hrg2 := Lib.hid hrg2
      have Hlt := Lib.hid (show cnt1 < wr.rangeLeft b W.heap.size by rw [hrg.left_eq]; exact hlt)
      have Hlk := Lib.hid hlk
      have Hcs := Lib.hid (show (ss ++ [x]).length + cnt1 ≤ N by simp; omega)
      clear hq hg1 hat hrow hrg2 hrg hlt hrg1 hkey hv hrg0 hg0 hown hs1 hs0 hlk hJ1 hJ2 hJs hC hcs
      try dsimp only at hy
      gi_wp2
      refine hR.mono ?_
      rintro e W3 ⟨rfl, hJ3, hk3⟩
      clear d0 d1 d2 d3 dz hW2
      gi_wp2
      have hrg3 := Hrg2.out.of_walks hk3
      go_roundw
      case rel => exact ⟨_, cnt1, ss ++ [x], hrg3, Hcs.out, come_step H1.out HC.out hok Hlk.out, hJ3⟩
      case measure => rw [hrg3.left_eq]; exact Hlt.out

end Go.Proofs.YtehafggcncbnkaaGreat

namespace Go.Proofs.YtehafggcncbnkaaGreat
open Go Go.RowKit

section
variable {P : Program}
/-- A region that draws its order, whose last operations come one behind the other; those before read, and their callees draw at most. -/
theorem wp_region_draws_tail {id : Nat} {Q : Exit → Act → World → Prop} {a : Act} {w : World} {l : List Oper} (n : Nat) (hm : P.follows .mixedOrders = true) (hB : Region.lexTailB .any l.toArray n = true)
    (h : wpQuiet P l.toArray (fun w' => ∃ x, w' = w.drewN x) (fun a' => ∀ x, wpList P l.toArray Q (l.drop n) a' (w.drewN x)) (l.take n) a) : (Code.region id l.toArray true).wp P Q a w := by
  simp only [Region.lexTailB, Bool.and_eq_true, decide_eq_true_eq] at hB
  obtain ⟨⟨⟨⟨hsel, hn⟩, hs⟩, hc⟩, hlex⟩ := hB
  have hn' : n < l.length := by simpa using hn
  have htl : (l.take n).length = n := by simp; omega
  have hdl : (l.drop n).length = l.toArray.size - n := by simp
  have inv0 : HeadInv .any l.toArray n (Array.replicate l.toArray.size false) :=
    ⟨by simp, fun j oj _ hl => (by rw [getD_replicate_false] at hl; cases hl), fun t _ ht => getD_in (by simpa using ht) (getD_replicate_false _ _)⟩
  have H := headQ_lex (md := .any) (g := l.toArray.size - n) hsel hs hc hn (l.take n) 0 _ a (fun j hj => by
    rw [htl] at hj
    simp [hj]) (by simpa using htl) inv0 (by rw [htl]; exact hlex) h
  refine wp_region_any hm ?_
  have := headQ_any (Q := Q) (g := l.toArray.size - n) (fun done a' w' hw' hL => by
    obtain ⟨x, rfl⟩ := hw'
    have := wpAny_of_seq (md := .any) (Q' := Q) (l.drop n) n done a' (w.drewN x) (fun j => by simp [List.getElem?_drop]) (by rw [hdl]; exact hL.1) (hL.2 x)
    rwa [hdl] at this) _ _ _ { w with drawn := w.drawn + 1 } ⟨1, rfl⟩ H
  rw [htl, show n + (l.toArray.size - n) = l.toArray.size by omega] at this
  exact this
end

theorem calls_draws_same {P : Program} {f : FuncId} {args : Array Value} {w0 : World} {x : Nat} {v : Value} (h : Calls P f args (w0.drewN x) fun e w' => e = .returned v ∧ w0.drewN x = w') :
    Calls P f args (w0.drewN x) (fun e w'' => e = .returned v ∧ ∃ y, w'' = w0.drewN y) :=
  h.mono fun _ _ ⟨he, hb⟩ => ⟨he, x, hb.symm⟩

def cmpI (x y : Int) : Int := if x < y then -1 else if y < x then 1 else 0

set_option maxHeartbeats 1000000 in
theorem isNaN_c (x : Int) (w : World) : Calls Tryz.prog 130 #[.int .i64 x] w fun e w' => e = .returned (.bool false) ∧ w = w' := by
  go_enter Tryz.func130, Tryz.ntmps130
  go_wp2
  go_ret
  exact ⟨by simp, rfl⟩

set_option maxHeartbeats 1000000 in
theorem compare_c (x y : Int) (w : World) : Calls Tryz.prog 125 #[.int .i64 x, .int .i64 y] w fun e w' => e = .returned (.int .i64 (cmpI x y)) ∧ w = w' := by
  by_cases h1 : x < y
  · have e : cmpI x y = -1 := by simp [cmpI, h1]
    rw [e]
    clear e
    go_enter Tryz.func125, Tryz.ntmps125
    go_wp2_with (go_at_call 130; refine (isNaN_c _ _).mono ?_; rintro e w' ⟨rfl, rfl⟩)
    go_ret
    exact ⟨rfl, rfl⟩
  · by_cases h2 : y < x
    · have e : cmpI x y = 1 := by simp [cmpI, h1, h2]
      rw [e]
      clear e
      go_enter Tryz.func125, Tryz.ntmps125
      go_wp2_with (go_at_call 130; refine (isNaN_c _ _).mono ?_; rintro e w' ⟨rfl, rfl⟩)
      go_ret
      exact ⟨rfl, rfl⟩
    · have e : cmpI x y = 0 := by simp [cmpI, h1, h2]
      rw [e]
      clear e
      go_enter Tryz.func125, Tryz.ntmps125
      go_wp2_with (go_at_call 130; refine (isNaN_c _ _).mono ?_; rintro e w' ⟨rfl, rfl⟩)
      go_ret
      exact ⟨rfl, rfl⟩

def orF (f : Nat → Int) : Nat → Nat → Int
  | _, 0 => 0
  | i, k + 1 => if f i = 0 then orF f (i + 1) k else f i

set_option maxHeartbeats 1000000 in
theorem or_c (a : Option Addr) (n cap : Nat) (f : Nat → Int) (w : World) (hf : Ints w a n f) (hn : n ≤ 1048576) : Calls Tryz.prog 124 #[.slice a n cap] w fun e w' => e = .returned (.int .i64 (orF f 0 n)) ∧ w = w' := by
  go_enter Tryz.func124, Tryz.ntmps124
  go_wp2
  go_loopw [8] (fun i wr => ∃ k : Nat, k ≤ n ∧ i = .int .i64 k ∧ orF f k (n - k) = orF f 0 n ∧ w = wr) (fun i _ => n - (intOf i).toNat)
  case atStart => exact ⟨0, Nat.zero_le _, rfl, rfl, rfl⟩
  case round =>
    obtain ⟨k, hk, rfl, hO, rfl⟩ := hrel
    by_cases hlt : k < n
    · obtain ⟨b, off, rfl, hbs, hc⟩ := Cells.at hf k hlt
      have hk0 := hc k hlt
      have hstep : orF f k (n - k) = if f k = 0 then orF f (k + 1) (n - (k + 1)) else f k := by
        rw [show n - k = (n - (k + 1)) + 1 by omega]
        rfl
      by_cases h0 : f k = 0
      · rw [if_pos h0] at hstep
        have hO' := hstep.symm.trans hO
        have h0' : (f k != 0) = false := by simp [h0]
        have HO := Lib.hid hO'
        clear hO hO' hstep h0
        go_wp2
        go_roundw
        case rel => exact ⟨k + 1, by omega, by go_num, HO.out, trivial⟩
        case measure => simp [intOf]; omega
      · rw [if_neg h0] at hstep
        have hO' := hstep.symm.trans hO
        have h0' : (f k != 0) = true := by simp [h0]
        have HO := Lib.hid hO'
        clear hO hO' hstep h0
        go_wp2
        go_ret
        exact ⟨ret_i HO.out, rfl⟩
    · obtain rfl : k = n := by omega
      have hO' : (0 : Int) = orF f 0 k := by rw [← hO, Nat.sub_self]; rfl
      have HO := Lib.hid hO'
      clear hO hO'
      go_wp2
      go_ret
      exact ⟨ret_i HO.out, rfl⟩

/-- How two proofs are ordered. -/
def cmpP (p q : P4) : Int := orF (fun i => [cmpI p.d q.d, cmpI p.b q.b, cmpI p.l q.l, cmpI p.c q.c].getD i 0) 0 4

theorem grow_of {w w' : World} (h : Below w.heap.size w w') (hd : w.drawn ≤ w'.drawn) : ∃ q os, w' = Sort.grow (w.drewN q) os := by
  refine ⟨w'.drawn - w.drawn, w'.heap.extract w.heap.size w'.heap.size, ?_⟩
  have e : w'.heap = w.heap ++ w'.heap.extract w.heap.size w'.heap.size := by
    apply Array.ext_getElem?
    intro i
    by_cases hi : i < w.heap.size
    · rw [Array.getElem?_append_left hi]
      exact h.block i hi
    · rw [Array.getElem?_append_right (by omega)]
      simp only [Array.getElem?_extract]
      have := h.size
      split
      · rw [show w.heap.size + (i - w.heap.size) = i by omega]
      · rw [Array.getElem?_eq_none (by omega)]
  cases w'
  simp only [Sort.grow, World.drewN] at *
  obtain ⟨h1, h2, h3, _, _⟩ := h
  simp only at h1 h2 h3
  subst h1; subst h2; subst h3
  congr 1
  omega

set_option maxRecDepth 100000 in
set_option maxHeartbeats 4000000 in
theorem compareProofs_c (p q : P4) (w : World) : Calls Tryz.prog 117 #[proofV p, proofV q] w fun e w' => e = .returned (.int .i64 (cmpP p q)) ∧ ∃ k os, w' = Sort.grow (w.drewN k) os := by
  obtain ⟨W, hW⟩ : ∃ W, (w.alloc (.cells #[.int .i64 p.d, .int .i64 p.b, .int .i64 p.l, .int .i64 p.c] 45)).alloc (.cells #[.int .i64 q.d, .int .i64 q.b, .int .i64 q.l, .int .i64 q.c] 45) = W := ⟨_, rfl⟩
  have hB0 : Below w.heap.size w W := by rw [← hW]; exact Below.alloc1 (Below.alloc1 (Below.refl _ _) _ (Nat.le_refl _)) _ (Nat.le_refl _)
  have hd0 : W.drawn = w.drawn := by rw [← hW]; rfl
  have hP : RowIs W w.heap.size #[.int .i64 p.d, .int .i64 p.b, .int .i64 p.l, .int .i64 p.c] 45 := by rw [← hW]; exact RowIs.alloc (heap_new_at _ _ _ rfl) _
  have hQ : RowIs W (w.heap.size + 1) #[.int .i64 q.d, .int .i64 q.b, .int .i64 q.l, .int .i64 q.c] 45 := by rw [← hW]; exact heap_new_at _ _ _ (by simp)
  obtain ⟨d0, d1, d2, d3, dz⟩ := prow hP
  obtain ⟨e0, e1, e2, e3, ez⟩ := prow hQ
  clear hP hQ
  go_enter Tryz.func117, Tryz.ntmps117
  go_wp2_with fail
  refine wp_region_draws_tail 20 (by kernel_rfl) (by kernel_rfl) ?_
  simp only [List.take_succ_cons, List.take_zero, List.drop_succ_cons, List.drop_zero]
  repeat (go_big_quiet_step ((refine calls_draws_same (compare_c _ _ _))))
  refine wpQuiet_nil ?_
  intro x
  clear d0 d1 d2 d3 dz e0 e1 e2 e3 ez hW
  obtain ⟨V, hV⟩ : ∃ V, W.drewN x = V := ⟨_, rfl⟩
  have hBV : Below w.heap.size w V := by rw [← hV]; exact below_drewN hB0 x
  have hdV : w.drawn ≤ V.drawn := by rw [← hV, ← hd0]; exact Nat.le_add_right _ _
  rw [hV]
  clear hV hB0 hd0
  go_wp2_with fail
  refine (or_c _ 4 4 (fun i => [cmpI p.d q.d, cmpI p.b q.b, cmpI p.l q.l, cmpI p.c q.c].getD i 0) _ (ints_new V _ (0, 0) [cmpI p.d q.d, cmpI p.b q.b, cmpI p.l q.l, cmpI p.c q.c]) (by decide)).mono ?_
  rintro e w' ⟨rfl, rfl⟩
  go_wp2
  go_ret
  exact ⟨rfl, grow_of (Below.alloc1 hBV _ (Nat.le_refl _)) hdV⟩

theorem cmpI_lt (x y : Int) : cmpI x y < 0 ↔ x < y := by
  unfold cmpI
  split
  · simp [*]
  · split
    · simp; omega
    · simp; omega

theorem cmpI_zero (x y : Int) : cmpI x y = 0 ↔ x = y := by
  unfold cmpI
  split
  · simp; omega
  · split
    · simp; omega
    · simp; omega

theorem cmpP_lt (p q : P4) : cmpP p q < 0 ↔ (p.d < q.d ∨ p.d = q.d ∧ (p.b < q.b ∨ p.b = q.b ∧ (p.l < q.l ∨ p.l = q.l ∧ p.c < q.c))) := by
  have e : cmpP p q = if cmpI p.d q.d = 0 then (if cmpI p.b q.b = 0 then (if cmpI p.l q.l = 0 then (if cmpI p.c q.c = 0 then 0 else cmpI p.c q.c) else cmpI p.l q.l) else cmpI p.b q.b) else cmpI p.d q.d := rfl
  rw [e]
  have a1 := cmpI_lt p.d q.d
  have a2 := cmpI_lt p.b q.b
  have a3 := cmpI_lt p.l q.l
  have a4 := cmpI_lt p.c q.c
  have b1 := cmpI_zero p.d q.d
  have b2 := cmpI_zero p.b q.b
  have b3 := cmpI_zero p.l q.l
  have b4 := cmpI_zero p.c q.c
  split
  · rename_i h
    have := b1.1 h
    split
    · rename_i h
      have := b2.1 h
      split
      · rename_i h
        have := b3.1 h
        split
        · rename_i h
          have := b4.1 h
          omega
        · rw [a4]; omega
      · rename_i h
        have : p.l ≠ q.l := fun e => h (b3.2 e)
        rw [a3]; omega
    · rename_i h
      have : p.b ≠ q.b := fun e => h (b2.2 e)
      rw [a2]; omega
  · rename_i h
    have : p.d ≠ q.d := fun e => h (b1.2 e)
    rw [a1]; omega

theorem cmpP_swo : Sort.SWO (ltOf cmpP) where
  irrefl x := by
    simp only [ltOf, decide_eq_false_iff_not, cmpP_lt]
    omega
  trans x y z h1 h2 := by
    simp only [ltOf, decide_eq_true_eq, cmpP_lt] at *
    omega
  ntrans x y z h1 h2 := by
    simp only [ltOf, decide_eq_false_iff_not, cmpP_lt] at *
    omega

end Go.Proofs.YtehafggcncbnkaaGreat

namespace Go.Proofs.YtehafggcncbnkaaGreat
open Go Go.Shelf

def sortRen : Ren := ⟨fun | 6 => 122 | 15 => 129 | 14 => 128 | 28 => 139 | 29 => 140 | 20 => 131 | 21 => 132 | 22 => 133 | 23 => 134 | 24 => 135 | 25 => 136 | 26 => 137 | 27 => 138 | 46 => 141 | 47 => 142 | 48 => 143 | 49 => 144 | 50 => 145 | 57 => 146 | n => n, fun | 22 => 154 | 24 => 45 | 25 => 159 | 3 => 3 | 39 => 171 | 0 => 0 | 53 => 182 | 55 => 184 | 4 => 4 | 46 => 175 | 45 => 174 | 50 => 179 | 5 => 5 | 9 => 9 | 66 => 185 | 70 => 189 | 76 => 191 | 77 => 192 | n => n, fun n => n⟩

theorem sortLays : SlLaysF0.n6 Tryz.prog sortRen := {
  mixed := (by kernel_rfl),
  f6 := ⟨Tryz.f122.name, by decide, Tryz.func122.trans (congrArg some (by kernel_rfl))⟩,
  f14 := ⟨Tryz.f128.name, by decide, Tryz.func128.trans (congrArg some (by kernel_rfl))⟩,
  f15 := Tryz.func129.trans (congrArg some (by kernel_rfl)),
  f20 := ⟨Tryz.f131.name, by decide, Tryz.func131.trans (congrArg some (by kernel_rfl))⟩,
  f21 := ⟨Tryz.f132.name, by decide, Tryz.func132.trans (congrArg some (by kernel_rfl))⟩,
  f22 := ⟨Tryz.f133.name, by decide, Tryz.func133.trans (congrArg some (by kernel_rfl))⟩,
  f23 := ⟨Tryz.f134.name, by decide, Tryz.func134.trans (congrArg some (by kernel_rfl))⟩,
  f24 := ⟨Tryz.f135.name, by decide, Tryz.func135.trans (congrArg some (by kernel_rfl))⟩,
  f25 := ⟨Tryz.f136.name, by decide, Tryz.func136.trans (congrArg some (by kernel_rfl))⟩,
  f26 := ⟨Tryz.f137.name, by decide, Tryz.func137.trans (congrArg some (by kernel_rfl))⟩,
  f27 := ⟨Tryz.f138.name, by decide, Tryz.func138.trans (congrArg some (by kernel_rfl))⟩,
  f28 := Tryz.func139.trans (congrArg some (by kernel_rfl)),
  f29 := Tryz.func140.trans (congrArg some (by kernel_rfl)),
  f46 := ⟨Tryz.f141.name, by decide, Tryz.func141.trans (congrArg some (by kernel_rfl))⟩,
  f47 := Tryz.func142.trans (congrArg some (by kernel_rfl)),
  f48 := Tryz.func143.trans (congrArg some (by kernel_rfl)),
  f49 := ⟨Tryz.f144.name, by decide, Tryz.func144.trans (congrArg some (by kernel_rfl))⟩,
  f50 := ⟨Tryz.f145.name, by decide, Tryz.func145.trans (congrArg some (by kernel_rfl))⟩,
  f57 := ⟨Tryz.f146.name, by decide, Tryz.func146.trans (congrArg some (by kernel_rfl))⟩,
  t0 := Tryz.underlying0,
  a0 := Tryz.isAgg0,
  z0 := Tryz.sizeOf0,
  v0 := Tryz.zeroValue0,
  t3 := Tryz.underlying3,
  a3 := Tryz.isAgg3,
  z3 := Tryz.sizeOf3,
  v3 := Tryz.zeroValue3,
  t4 := Tryz.underlying4,
  a4 := Tryz.isAgg4,
  z4 := Tryz.sizeOf4,
  v4 := Tryz.zeroValue4,
  t5 := Tryz.underlying5,
  a5 := Tryz.isAgg5,
  z5 := Tryz.sizeOf5,
  v5 := Tryz.zeroValue5,
  t9 := Tryz.underlying9,
  a9 := Tryz.isAgg9,
  z9 := Tryz.sizeOf9,
  v9 := Tryz.zeroValue9,
  t22 := Tryz.underlying154,
  a22 := Tryz.isAgg154,
  z22 := Tryz.sizeOf154,
  v22 := Tryz.zeroValue154,
  t25 := Tryz.underlying159,
  a25 := Tryz.isAgg159,
  z25 := Tryz.sizeOf159,
  v25 := Tryz.zeroValue159,
  t39 := Tryz.underlying171,
  a39 := Tryz.isAgg171,
  z39 := Tryz.sizeOf171,
  v39 := Tryz.zeroValue171,
  t45 := Tryz.underlying174,
  a45 := Tryz.isAgg174,
  z45 := Tryz.sizeOf174,
  v45 := Tryz.zeroValue174,
  t46 := Tryz.underlying175,
  a46 := Tryz.isAgg175,
  z46 := Tryz.sizeOf175,
  v46 := Tryz.zeroValue175,
  t50 := Tryz.underlying179,
  a50 := Tryz.isAgg179,
  z50 := Tryz.sizeOf179,
  v50 := Tryz.zeroValue179,
  t53 := Tryz.underlying182,
  a53 := Tryz.isAgg182,
  z53 := Tryz.sizeOf182,
  v53 := Tryz.zeroValue182,
  t55 := Tryz.underlying184,
  a55 := Tryz.isAgg184,
  z55 := Tryz.sizeOf184,
  v55 := Tryz.zeroValue184,
  t66 := Tryz.underlying185,
  a66 := Tryz.isAgg185,
  z66 := Tryz.sizeOf185,
  v66 := Tryz.zeroValue185,
  t70 := Tryz.underlying189,
  a70 := Tryz.isAgg189,
  z70 := Tryz.sizeOf189,
  v70 := Tryz.zeroValue189,
  t76 := Tryz.underlying191,
  a76 := Tryz.isAgg191,
  z76 := Tryz.sizeOf191,
  v76 := Tryz.zeroValue191,
  t77 := Tryz.underlying192,
  a77 := Tryz.isAgg192,
  z77 := Tryz.sizeOf192,
  v77 := Tryz.zeroValue192 }

end Go.Proofs.YtehafggcncbnkaaGreat
