/- Contracts of package alloy: Least. -/
import Derived.Test.YtehafggcncbnkaaGreatProg
import Derived.Test.YtehafggcncbnkaaGreatBasaa
import Derived.Test.YtehafggcncbnkaaGreatBasah
import Derived.Test.YtehafggcncbnkaaGreatBasab
import Derived.Test.YtehafggcncbnkaaGreatBasad
import Derived.Test.YtehafggcncbnkaaGreatBasag
import Derived.Test.YtehafggcncbnkaaGreatBasai
import Derived.Test.YtehafggcncbnkaaGreatBasaj
import Derived.Deep.OwnRows
import Derived.Laws.CopyOwn
import Derived.RangeFuncBound
import Derived.Shelf.Abstract
import Derived.Shelf.RegionOpen
import Derived.OwnWalkIn
import Derived.TacticsInMore
import Derived.LoopNIn
import Derived.LoopIn
import Derived.Scope
import Derived.DeepKeys4
import Derived.Maps.OwnIn
import Derived.Maps.Ext
namespace Go.Proofs.YtehafggcncbnkaaGreat
open Go Go.RowKit

/-- The corners of the pot that is made of metals and a touch. -/
def potL (n : Nat) (m : Nat → M5) (l c : Int) (s : Bool) : List (Nat → Int) := cornL n (roomF n (potU s m) l c)
def cheapB (n : Nat) (m : Nat → M5) (s : Bool) (f g : Nat → Int) : Bool := cheaperB (potU s m) n f g
def mixP (n : Nat) (m : Nat → M5) (f : Nat → Int) : Int := unitSum (fun i => unitOf true true (m i)) f n (·.p)

/-- Least: a fraction and an error. -/
def leastR (n : Nat) (m : Nat → M5) (l c : Int) (s : Bool) : Int × Int × Int :=
  if bothE n m l c ≠ 0 then (0, 0, bothE n m l c) else
  match bestS (cheapB n m s) (potL n m l c s) with
  | none => (0, 0, 17)
  | some f => (ratN (unitSum (potU s m) f n (·.p)) (unitSum (potU s m) f n (·.q)), ratD (unitSum (potU s m) f n (·.p)) (unitSum (potU s m) f n (·.q)), 0)

theorem potU_S {n : Nat} {m : Nat → M5} (h : Fine n m) (s : Bool) (i : Nat) (hi : i < n) : (0 ≤ (potU s m i).l ∧ (potU s m i).l ≤ 1000) ∧ (0 ≤ (potU s m i).c ∧ (potU s m i).c ≤ 1000) :=
  ⟨((ones_of h s (!s)).1.2 i hi).2.2.1, ((ones_of h s (!s)).1.2 i hi).2.2.2⟩

theorem ones_sum {n : Nat} {u : Nat → U4} {f : Nat → Int} (h : Ones n u) : unitSum u f n (·.q) = sumF f n := unitSum_ones fun i hi => h.2 i hi

theorem cell_past2 {w : World} {b : Nat} (h : b < w.heap.size) (o : Obj) (p q : Addr) (x y : Value) (j : Nat) : (((w.setCell p x).setCell q y).alloc o).cell? ⟨b, j, none⟩ = ((w.setCell p x).setCell q y).cell? ⟨b, j, none⟩ :=
  World.cell?_alloc_past _ _ _ (by simpa [World.setCell] using h)

/-- The best corner is told by the pot's metals. -/
theorem bestPot_c (g n : Nat) (m : Nat → M5) (l c : Int) (s : Bool) (w : World) (hF : Fine n m) (ht : 0 ≤ l ∧ l ≤ 1000 ∧ 0 ≤ c ∧ c ≤ 1000) (hu : Units w (some ⟨g, 0, none⟩) n (potU s m)) :
    Calls Tryz.prog 71 #[.func (.func 72) #[potV g n l c] #[], .func (.func 73) #[.agg #[.slice (some ⟨g, 0, none⟩) n n]] #[]] w fun e w' =>
      e = .returned (.tuple #[mixV (bestMix (cheapB n m s) (potL n m l c s)), .bool (bestS (cheapB n m s) (potL n m l c s)).isSome]) ∧ Below w.heap.size w w' := by
  have hg : g < w.heap.size := by
    obtain ⟨b, off, e, hb, _⟩ := Units.at hu 0 hF.1
    cases e
    exact hb
  have hgood := corn_good (n := n) (u := potU s m) (l := l) (c := c) ⟨ht.1, ht.2.1⟩ ht.2.2 (potU_S hF s)
  refine bestMix_c _ _ _ (· = g) _ _ _ _ (cheapB n m s) w (corners_gives g n (potU s m) l c w hu hg hF.2.1 (potU_S hF s) ht) (fun k hk => by rw [hk]; exact hg) (enters_of Tryz.func72 (by kernel_rfl) rfl) (enters_of Tryz.func73 (by kernel_rfl) rfl) ?_
  intro W hW f hf g' hg'
  obtain ⟨f1, f2, f3⟩ := hgood f hf
  obtain ⟨g1, g2, g3⟩ := hgood g' hg'
  have hO : Ones n (potU s m) := ones_of hF s (!s)
  exact cheaper_c _ n n (potU s m) f g' W (hu.below hW) hO (fun i _ => f1 i) (fun i _ => g1 i) (by rw [ones_sum hO]; exact f3) (by rw [ones_sum hO]; exact g3)

set_option maxRecDepth 100000 in
set_option maxHeartbeats 4000000 in
theorem Least_c (a : Option Addr) (n cap : Nat) (m : Nat → M5) (l c : Int) (s : Bool) (w : World) (hm : Metals w a n m) (hn : n ≤ 1048576) :
    Calls Tryz.prog 29 #[.slice a n cap, .agg #[.int .i64 l, .int .i64 c], .bool s] w fun e w' => e = .returned (re2 (leastR n m l c s)) ∧ Below w.heap.size w w' := by
  obtain ⟨W, hW⟩ : ∃ W, (w.alloc (.cells #[.int .i64 l, .int .i64 c] 24)).alloc (.cells #[.int .i64 0, .int .i64 0] 29) = W := ⟨_, rfl⟩
  have hB0 : Below w.heap.size w W := by rw [← hW]; exact Below.alloc1 (Below.alloc1 (Below.refl _ _) _ (Nat.le_refl _)) _ (Nat.le_refl _)
  have hT : RowIs W w.heap.size #[.int .i64 l, .int .i64 c] 24 := by rw [← hW]; exact RowIs.alloc (heap_new_at _ _ _ rfl) _
  have hR : RowIs W (w.heap.size + 1) #[.int .i64 0, .int .i64 0] 29 := by rw [← hW]; exact heap_new_at _ _ _ (by simp)
  have hz1 : w.heap.size + 1 < W.heap.size := (Array.getElem?_eq_some_iff.1 hR).1
  have hz0 : w.heap.size < W.heap.size := by omega
  have c5 := hT.cell 0
  have c6 := hT.cell 1
  simp at c5 c6
  have hm0 := hm.below hB0
  have HR := Lib.hid hR
  clear hm hT hR
  by_cases h0 : bothE n m l c = 0
  · obtain ⟨hM, ht⟩ := both_ok h0
    have HFine := Lib.hid (fine_of hM)
    have H0 := Lib.hid h0
    clear h0 hM
    have hn6 := HFine.out.2.1
    have hO : Ones n (potU s m) := ones_of HFine.out s (!s)
    have HO := Lib.hid hO
    clear hO
    cases hbS : bestS (cheapB n m s) (potL n m l c s) with
    | none =>
      have ev : leastR n m l c s = (0, 0, 17) := by unfold leastR; rw [if_neg (by simp [H0.out]), hbS]
      have hbest := fun (g : Nat) (w1 : World) (hu : Units w1 (some ⟨g, 0, none⟩) n (potU s m)) => bestPot_c g n m l c s w1 HFine.out ht hu
      rw [hbS] at hbest
      rw [ev]
      have HB := Lib.hid hbest
      clear ev hbest hbS
      go_enter Tryz.func29, Tryz.ntmps29
      go_wp2_with fail
      clear hW
      refine (newPot_c a n cap m l c s _ hm0 (by omega) H0.out).mono ?_
      rintro e w1 ⟨g, rfl, hU, hb1⟩
      clear c5 c6
      go_wp2_with fail
      obtain ⟨W2, hW2⟩ : ∃ W2, w1.alloc (.cells #[.slice (some ⟨g, 0, none⟩) n n, .int .i64 1, .int .i64 0, .int .i64 l, .int .i64 c] 102) = W2 := ⟨_, rfl⟩
      have hb2 : Below w1.heap.size w1 W2 := by rw [← hW2]; exact Below.alloc1 (Below.refl _ _) _ (Nat.le_refl _)
      rw [hW2]
      clear hW2
      refine (HB.out g W2 (hU.below hb2)).mono ?_
      rintro e w3 ⟨rfl, hb3⟩
      have hb13 := bup hb1 (bup hb2 hb3)
      obtain ⟨r0, r1, z0, z1, rz⟩ := ratrow (HR.out.below hb13)
      go_wp2_with fail
      refine bodyPost_ret (v := re2 (0, 0, 17)) (by simp [results, Tryz.results29, go_sem, r0, r1, cell_past2 rz]) rfl ⟨rfl, ?_⟩
      exact Below.alloc1 (((bup hB0 hb13).setCell (p := ⟨w.heap.size + 1, 0, none⟩) (Nat.le_add_right _ _) _).setCell (p := ⟨w.heap.size + 1, 1, none⟩) (Nat.le_add_right _ _) _) _ (Nat.le_refl _)
    | some f =>
      have ev : leastR n m l c s = (ratN (unitSum (potU s m) f n (·.p)) (unitSum (potU s m) f n (·.q)), ratD (unitSum (potU s m) f n (·.p)) (unitSum (potU s m) f n (·.q)), 0) := by unfold leastR; rw [if_neg (by simp [H0.out]), hbS]
      have hfL : f ∈ potL n m l c s := by
        rcases bestS_mem _ _ _ _ hbS with h | h
        · cases h
        · exact h
      obtain ⟨f1, f2, f3⟩ := corn_good (n := n) (u := potU s m) (l := l) (c := c) ⟨ht.1, ht.2.1⟩ ht.2.2 (potU_S HFine.out s) f hfL
      have hf6 : ∀ i, i < 6 → 0 ≤ f i ∧ f i ≤ 2147483648 := fun i _ => ⟨(f1 i).1, Int.le_trans (f1 i).2 (by decide)⟩
      have hq : 0 < unitSum (potU s m) f n (·.q) := by rw [ones_sum HO.out]; exact f3
      have hbest := fun (g : Nat) (w1 : World) (hu : Units w1 (some ⟨g, 0, none⟩) n (potU s m)) => bestPot_c g n m l c s w1 HFine.out ht hu
      have hbm : bestMix (cheapB n m s) (potL n m l c s) = f := by simp [bestMix, hbS]
      rw [hbS, hbm] at hbest
      rw [ev]
      have hcost := fun (g : Nat) (w1 : World) (hu : Units w1 (some ⟨g, 0, none⟩) n (potU s m)) => cost_c (some ⟨g, 0, none⟩) n n (potU s m) f w1 hu HO.out.1 hf6 hq
      have HB := Lib.hid hbest
      have HC := Lib.hid hcost
      clear ev hbest hbS hbm hcost f1 f2 f3 hf6 hq hfL
      go_enter Tryz.func29, Tryz.ntmps29
      go_wp2_with fail
      clear hW
      refine (newPot_c a n cap m l c s _ hm0 (by omega) H0.out).mono ?_
      rintro e w1 ⟨g, rfl, hU, hb1⟩
      clear c5 c6
      go_wp2_with fail
      obtain ⟨W2, hW2⟩ : ∃ W2, w1.alloc (.cells #[.slice (some ⟨g, 0, none⟩) n n, .int .i64 1, .int .i64 0, .int .i64 l, .int .i64 c] 102) = W2 := ⟨_, rfl⟩
      have hb2 : Below w1.heap.size w1 W2 := by rw [← hW2]; exact Below.alloc1 (Below.refl _ _) _ (Nat.le_refl _)
      have hP : RowIs W2 w1.heap.size #[.slice (some ⟨g, 0, none⟩) n n, .int .i64 1, .int .i64 0, .int .i64 l, .int .i64 c] 102 := by rw [← hW2]; exact heap_new_at _ _ _ rfl
      have HP := Lib.hid hP
      have hU2 := hU.below hb2
      rw [hW2]
      clear hW2 hP
      refine (HB.out g W2 hU2).mono ?_
      rintro e w3 ⟨rfl, hb3⟩
      have hb13 := bup hb1 (bup hb2 hb3)
      have hU3 := hU2.below hb3
      obtain ⟨e0, e1, e2, e3, e4, ez⟩ := potrow (HP.out.below hb3)
      obtain ⟨r0, r1, z0, z1, rz⟩ := ratrow (HR.out.below hb13)
      go_wp2_with fail
      obtain ⟨W4, hW4⟩ : ∃ W4, w3.alloc (.cells #[.int .i64 (f 0), .int .i64 (f 1), .int .i64 (f 2), .int .i64 (f 3), .int .i64 (f 4), .int .i64 (f 5)] 88) = W4 := ⟨_, rfl⟩
      have hb4 : Below w3.heap.size w3 W4 := by rw [← hW4]; exact Below.alloc1 (Below.refl _ _) _ (Nat.le_refl _)
      rw [hW4]
      clear hW4 e0 e1 e2 e3 e4 ez r0 r1 z0 z1 rz
      refine (HC.out g W4 (hU3.below hb4)).mono ?_
      rintro e w5 ⟨rfl, hb5⟩
      have hb15 := bup hb13 (bup hb4 hb5)
      obtain ⟨r0, r1, z0, z1, rz⟩ := ratrow (HR.out.below hb15)
      go_wp2_with fail
      refine bodyPost_ret (v := re2 (ratN (unitSum (potU s m) f n (·.p)) (unitSum (potU s m) f n (·.q)), ratD (unitSum (potU s m) f n (·.p)) (unitSum (potU s m) f n (·.q)), 0)) (by simp [results, Tryz.results29, go_sem, r0, r1]) rfl ⟨rfl, ?_⟩
      exact ((bup hB0 hb15).setCell (p := ⟨w.heap.size + 1, 0, none⟩) (Nat.le_add_right _ _) _).setCell (p := ⟨w.heap.size + 1, 1, none⟩) (Nat.le_add_right _ _) _
  · have ev : leastR n m l c s = (0, 0, bothE n m l c) := by unfold leastR; rw [if_pos h0]
    have h0' : (bothE n m l c != 0) = true := by simpa using h0
    have H0 := Lib.hid h0
    rw [ev]
    clear ev h0
    go_enter Tryz.func29, Tryz.ntmps29
    go_wp2_with fail
    clear hW
    refine (newPot_err_c a n cap m l c s _ hm0 (by omega) H0.out).mono ?_
    rintro e w1 ⟨rfl, hb1⟩
    clear c5 c6
    obtain ⟨r0, r1, z0, z1, rz⟩ := ratrow (HR.out.below hb1)
    go_wp2_with fail
    refine bodyPost_ret (v := re2 (0, 0, bothE n m l c)) (by simp [results, Tryz.results29, go_sem, r0, r1, cell_past2 rz]) rfl ⟨rfl, ?_⟩
    exact Below.alloc1 (((bup hB0 hb1).setCell (p := ⟨w.heap.size + 1, 0, none⟩) (Nat.le_add_right _ _) _).setCell (p := ⟨w.heap.size + 1, 1, none⟩) (Nat.le_add_right _ _) _) _ (Nat.le_refl _)

end Go.Proofs.YtehafggcncbnkaaGreat

namespace Go.Proofs.YtehafggcncbnkaaGreat
open Go.RowKit

theorem info64 : (Tryz.prog.info? 2).map (fun i => (i.zero, i.size, i.bytes)) = some (some (.int .i64 0), 1, 8) := by kernel_rfl

theorem ints_list {w : World} {g n : Nat} {T : TypeId} {f : Nat → Int} {l : List Value} (h : w.heap[g]? = some (.cells l.toArray T (0, 0))) (hl : ∀ i, i < n → l[i]? = some (.int .i64 (f i))) : Ints w (some ⟨g, 0, none⟩) n f :=
  .inr ⟨g, 0, rfl, (Array.getElem?_eq_some_iff.1 h).1, fun i hi => by
    rw [Nat.zero_add]
    simp only [World.cell?, h, List.getElem?_toArray]
    exact hl i hi⟩

set_option maxRecDepth 100000 in
set_option maxHeartbeats 1000000 in
theorem handOver_c (f : Nat → Int) (n : Nat) (w : World) (hn : n ≤ 6) :
    Calls Tryz.prog 75 #[mixV f, .int .i64 n] w fun e w' => ∃ g, w.heap.size < g ∧ g < w'.heap.size ∧ e = .returned (.slice (some ⟨g, 0, none⟩) n n) ∧ Ints w' (some ⟨g, 0, none⟩) n f ∧ Below w.heap.size w w' := by
  obtain ⟨i0, hi, hz0, hz1, hz2⟩ := info_parts info64
  obtain ⟨W, hW⟩ : ∃ W, w.alloc (.cells #[.int .i64 (f 0), .int .i64 (f 1), .int .i64 (f 2), .int .i64 (f 3), .int .i64 (f 4), .int .i64 (f 5)] 88) = W := ⟨_, rfl⟩
  have hB0 : Below w.heap.size w W := by rw [← hW]; exact Below.alloc1 (Below.refl _ _) _ (Nat.le_refl _)
  have hM : RowIs W w.heap.size #[.int .i64 (f 0), .int .i64 (f 1), .int .i64 (f 2), .int .i64 (f 3), .int .i64 (f 4), .int .i64 (f 5)] 88 := by rw [← hW]; exact heap_new_at _ _ _ rfl
  have hz : w.heap.size < W.heap.size := (Array.getElem?_eq_some_iff.1 hM).1
  have hmin : Nat.min 6 n = n := by show min 6 n = n; omega
  have hml : ((madeCells #[Value.int .i64 0] n).toList).length = n := by simp [size_madeCells]
  have hll : ((List.range n).map fun i => Value.int .i64 (f i)).length = n := by simp
  have hsrc : ∀ j v, ((List.range n).map fun i => Value.int .i64 (f i))[j]? = some v → (W.alloc (.cells (madeCells #[.int .i64 0] n) 2)).cell? ((⟨w.heap.size, 0, none⟩ : Addr).add j) = some v := fun j v hv => by
    rw [List.getElem?_map, Option.map_eq_some_iff] at hv
    obtain ⟨i, hi, rfl⟩ := hv
    have hj : j < n := by
      have := (List.getElem?_eq_some_iff.1 hi).1
      simpa using this
    obtain rfl : i = j := by
      rw [List.getElem?_range hj] at hi
      exact (Option.some.inj hi).symm
    have hc : (W.alloc (.cells (madeCells #[.int .i64 0] n) 2)).cell? ⟨w.heap.size, i, none⟩ = some (.int .i64 (f i)) := by
      rw [(RowIs.alloc hM _).cell i]
      have : i = 0 ∨ i = 1 ∨ i = 2 ∨ i = 3 ∨ i = 4 ∨ i = 5 := by omega
      rcases this with rfl | rfl | rfl | rfl | rfl | rfl <;> rfl
    unfold Addr.add
    split
    · simp_all
    · simpa using hc
  have Hml := Lib.hid hml
  have Hll := Lib.hid hll
  have Hmin := Lib.hid hmin
  have Hsrc := Lib.hid hsrc
  have HM := Lib.hid hM
  clear hml hll hmin hsrc hM
  go_enter Tryz.func75, Tryz.ntmps75
  go_wp2_with (first
    | (at_make; refine wpList_make_row _ rfl _ _ 25 rfl 2 i0 (.int .i64 0) Tryz.underlying25 hi hz0 hz1 rfl .i64 .i64 n rfl rfl (by rw [hz2]; omega) (by omega) ?_)
    | (refine wpList_copy_splice rfl _ _ 25 25 rfl 2 Tryz.underlying25 one64 (some ⟨W.heap.size, 0, none⟩) (some ⟨w.heap.size, 0, none⟩) n n 6 6 rfl rfl W.heap.size 0 (madeCells #[.int .i64 0] n).toList 2 (heap_new_at _ _ _ rfl) ((List.range n).map fun i => Value.int .i64 (f i)) (by rw [Hll.out, Hmin.out]) (fun _ => ⟨rfl, _, rfl, Hsrc.out⟩) (by rw [Hll.out, Hml.out]; omega) (by simp [Value.oneCell']) w.heap.size w (Below.alloc1 hB0 _ (Nat.le_refl _)) (by omega) ?_; intro w2 HG2 hB2))
  go_ret
  have hG := HG2.out
  refine ⟨W.heap.size, hz, (Array.getElem?_eq_some_iff.1 hG).1, rfl, ints_list hG fun i hi => ?_, hB2⟩
  simp only [splice, List.take_zero, List.nil_append]
  rw [List.getElem?_append_left (by rw [Hll.out]; exact hi), List.getElem?_map, List.getElem?_range hi]
  rfl

end Go.Proofs.YtehafggcncbnkaaGreat

namespace Go.Proofs.YtehafggcncbnkaaGreat
open Go Go.RowKit
attribute [local go_sem] Oper.semAt_some

/-- Cheapest's error. -/
def cheapE (n : Nat) (m : Nat → M5) (l c : Int) (s : Bool) : Int :=
  if bothE n m l c ≠ 0 then bothE n m l c else if (bestS (cheapB n m s) (potL n m l c s)).isSome then 0 else 17

set_option maxRecDepth 100000 in
set_option maxHeartbeats 4000000 in
theorem Cheapest_no_c (a : Option Addr) (n cap : Nat) (m : Nat → M5) (l c : Int) (s : Bool) (w : World) (hm : Metals w a n m) (hn : n ≤ 1048576) (he : cheapE n m l c s ≠ 0) :
    Calls Tryz.prog 31 #[.slice a n cap, .agg #[.int .i64 l, .int .i64 c], .bool s] w fun e w' => e = .returned (.tuple #[.slice none 0 0, .int .i64 (cheapE n m l c s)]) ∧ Below w.heap.size w w' := by
  obtain ⟨W, hW⟩ : ∃ W, w.alloc (.cells #[.int .i64 l, .int .i64 c] 24) = W := ⟨_, rfl⟩
  have hB0 : Below w.heap.size w W := by rw [← hW]; exact Below.alloc1 (Below.refl _ _) _ (Nat.le_refl _)
  have hT : RowIs W w.heap.size #[.int .i64 l, .int .i64 c] 24 := by rw [← hW]; exact heap_new_at _ _ _ rfl
  have hz0 : w.heap.size < W.heap.size := (Array.getElem?_eq_some_iff.1 hT).1
  have c5 := hT.cell 0
  have c6 := hT.cell 1
  simp at c5 c6
  have hm0 := hm.below hB0
  clear hm hT
  by_cases h0 : bothE n m l c = 0
  · obtain ⟨hM, ht⟩ := both_ok h0
    have HFine := Lib.hid (fine_of hM)
    have H0 := Lib.hid h0
    clear hM
    have hn6 := HFine.out.2.1
    cases hbS : bestS (cheapB n m s) (potL n m l c s) with
    | none =>
      have ev : cheapE n m l c s = 17 := by unfold cheapE; rw [if_neg (by simp [H0.out]), hbS]; rfl
      have hbest := fun (g : Nat) (w1 : World) (hu : Units w1 (some ⟨g, 0, none⟩) n (potU s m)) => bestPot_c g n m l c s w1 HFine.out ht hu
      rw [hbS] at hbest
      rw [ev]
      have HB := Lib.hid hbest
      clear ev hbest hbS h0 he
      go_enter Tryz.func31, Tryz.ntmps31
      go_wp2_with fail
      clear hW
      refine (newPot_c a n cap m l c s _ hm0 (by omega) H0.out).mono ?_
      rintro e w1 ⟨g, rfl, hU, hb1⟩
      clear c5 c6
      go_wp2_with fail
      obtain ⟨W2, hW2⟩ : ∃ W2, w1.alloc (.cells #[.slice (some ⟨g, 0, none⟩) n n, .int .i64 1, .int .i64 0, .int .i64 l, .int .i64 c] 102) = W2 := ⟨_, rfl⟩
      have hb2 : Below w1.heap.size w1 W2 := by rw [← hW2]; exact Below.alloc1 (Below.refl _ _) _ (Nat.le_refl _)
      rw [hW2]
      clear hW2
      refine (HB.out g W2 (hU.below hb2)).mono ?_
      rintro e w3 ⟨rfl, hb3⟩
      have hb13 := bup hb1 (bup hb2 hb3)
      go_wp2_with fail
      refine bodyPost_ret (v := .tuple #[.slice none 0 0, .int .i64 17]) (by simp [results, Tryz.results31, go_sem]) rfl ⟨rfl, ?_⟩
      exact Below.alloc1 (bup hB0 hb13) _ (Nat.le_refl _)
    | some f =>
      exfalso
      apply he
      unfold cheapE
      rw [if_neg (by simp [h0]), hbS]
      rfl
  · have ev : cheapE n m l c s = bothE n m l c := by unfold cheapE; rw [if_pos h0]
    have h0' : (bothE n m l c != 0) = true := by simpa using h0
    have H0 := Lib.hid h0
    rw [ev]
    clear ev h0 he
    go_enter Tryz.func31, Tryz.ntmps31
    go_wp2_with fail
    clear hW
    refine (newPot_err_c a n cap m l c s _ hm0 (by omega) H0.out).mono ?_
    rintro e w1 ⟨rfl, hb1⟩
    clear c5 c6
    go_wp2_with fail
    refine bodyPost_ret (v := .tuple #[.slice none 0 0, .int .i64 (bothE n m l c)]) (by simp [results, Tryz.results31, go_sem]) rfl ⟨rfl, ?_⟩
    exact Below.alloc1 (bup hB0 hb1) _ (Nat.le_refl _)

set_option maxRecDepth 100000 in
set_option maxHeartbeats 4000000 in
theorem Cheapest_yes_c (a : Option Addr) (n cap : Nat) (m : Nat → M5) (l c : Int) (s : Bool) (f : Nat → Int) (w : World) (hm : Metals w a n m) (hn : n ≤ 1048576) (h0 : bothE n m l c = 0) (hbS : bestS (cheapB n m s) (potL n m l c s) = some f) :
    Calls Tryz.prog 31 #[.slice a n cap, .agg #[.int .i64 l, .int .i64 c], .bool s] w fun e w' => ∃ g, w.heap.size ≤ g ∧ g < w'.heap.size ∧ e = .returned (.tuple #[.slice (some ⟨g, 0, none⟩) n n, .int .i64 0]) ∧ Ints w' (some ⟨g, 0, none⟩) n f ∧ Below w.heap.size w w' := by
  obtain ⟨W, hW⟩ : ∃ W, w.alloc (.cells #[.int .i64 l, .int .i64 c] 24) = W := ⟨_, rfl⟩
  have hB0 : Below w.heap.size w W := by rw [← hW]; exact Below.alloc1 (Below.refl _ _) _ (Nat.le_refl _)
  have hT : RowIs W w.heap.size #[.int .i64 l, .int .i64 c] 24 := by rw [← hW]; exact heap_new_at _ _ _ rfl
  have hz0 : w.heap.size < W.heap.size := (Array.getElem?_eq_some_iff.1 hT).1
  have c5 := hT.cell 0
  have c6 := hT.cell 1
  simp at c5 c6
  have hm0 := hm.below hB0
  obtain ⟨hM, ht⟩ := both_ok h0
  have HFine := Lib.hid (fine_of hM)
  have H0 := Lib.hid h0
  clear hM hm hT h0
  have hn6 := HFine.out.2.1
  have hbest := fun (g : Nat) (w1 : World) (hu : Units w1 (some ⟨g, 0, none⟩) n (potU s m)) => bestPot_c g n m l c s w1 HFine.out ht hu
  have hbm : bestMix (cheapB n m s) (potL n m l c s) = f := by simp [bestMix, hbS]
  rw [hbS, hbm] at hbest
  have HB := Lib.hid hbest
  clear hbest hbS hbm
  go_enter Tryz.func31, Tryz.ntmps31
  go_wp2_with fail
  clear hW
  refine (newPot_c a n cap m l c s _ hm0 (by omega) H0.out).mono ?_
  rintro e w1 ⟨g, rfl, hU, hb1⟩
  clear c5 c6
  go_wp2_with fail
  obtain ⟨W2, hW2⟩ : ∃ W2, w1.alloc (.cells #[.slice (some ⟨g, 0, none⟩) n n, .int .i64 1, .int .i64 0, .int .i64 l, .int .i64 c] 102) = W2 := ⟨_, rfl⟩
  have hb2 : Below w1.heap.size w1 W2 := by rw [← hW2]; exact Below.alloc1 (Below.refl _ _) _ (Nat.le_refl _)
  rw [hW2]
  clear hW2
  refine (HB.out g W2 (hU.below hb2)).mono ?_
  rintro e w3 ⟨rfl, hb3⟩
  have hb13 := bup hb1 (bup hb2 hb3)
  go_wp2_with fail
  obtain ⟨W4, hW4⟩ : ∃ W4, w3.alloc (.cells #[.int .i64 (f 0), .int .i64 (f 1), .int .i64 (f 2), .int .i64 (f 3), .int .i64 (f 4), .int .i64 (f 5)] 88) = W4 := ⟨_, rfl⟩
  have hb4 : Below w3.heap.size w3 W4 := by rw [← hW4]; exact Below.alloc1 (Below.refl _ _) _ (Nat.le_refl _)
  rw [hW4]
  clear hW4
  refine (handOver_c f n W4 hn6).mono ?_
  rintro e w5 ⟨g5, hg5, hg5', rfl, hI, hb5⟩
  have hb15 := bup hB0 (bup hb13 (bup hb4 hb5))
  have hz4 := (bup hB0 (bup hb13 hb4)).size
  go_wp2_with fail
  exact bodyPost_ret (v := .tuple #[.slice (some ⟨g5, 0, none⟩) n n, .int .i64 0]) (by simp [results, Tryz.results31, go_sem]) rfl ⟨g5, by omega, hg5', rfl, hI, hb15⟩

set_option maxRecDepth 100000 in
set_option maxHeartbeats 4000000 in
theorem possible_c (g n : Nat) (m : Nat → M5) (l c : Int) (s : Bool) (w : World) (hF : Fine n m) (ht : 0 ≤ l ∧ l ≤ 1000 ∧ 0 ≤ c ∧ c ≤ 1000) (hu : Units w (some ⟨g, 0, none⟩) n (potU s m)) :
    Calls Tryz.prog 82 #[potV g n l c] w fun e w' => e = .returned (.bool (!(potL n m l c s).isEmpty)) ∧ Below w.heap.size w w' := by
  have hg : g < w.heap.size := by
    obtain ⟨b, off, e, hb, _⟩ := Units.at hu 0 hF.1
    cases e
    exact hb
  obtain ⟨W, hW⟩ : ∃ W, (w.alloc (.cells #[.slice (some ⟨g, 0, none⟩) n n, .int .i64 1, .int .i64 0, .int .i64 l, .int .i64 c] 102)).alloc (.cells #[.bool false] 4) = W := ⟨_, rfl⟩
  have hB0 : Below w.heap.size w W := by rw [← hW]; exact Below.alloc1 (Below.alloc1 (Below.refl _ _) _ (Nat.le_refl _)) _ (Nat.le_refl _)
  have hr : RowIs W (w.heap.size + 1) #[.bool false] 4 := by rw [← hW]; exact heap_new_at _ _ _ (by simp)
  have hP : RowIs W w.heap.size #[.slice (some ⟨g, 0, none⟩) n n, .int .i64 1, .int .i64 0, .int .i64 l, .int .i64 c] 102 := by rw [← hW]; exact RowIs.alloc (heap_new_at _ _ _ rfl) _
  have hG := corners_gives g n (potU s m) l c W (hu.below hB0) (by have := hB0.size; omega) hF.2.1 (potU_S hF s) ht
  obtain ⟨L, hL⟩ : ∃ L, potL n m l c s = L := ⟨_, rfl⟩
  have hL' : cornL n (roomF n (potU s m) l c) = L := hL
  rw [hL'] at hG
  rw [hL]
  obtain ⟨e0, e1, e2, e3, e4, ez⟩ := potrow hP
  have hz : w.heap.size + 1 < W.heap.size := (Array.getElem?_eq_some_iff.1 hr).1
  have q0 : W.cell? ⟨w.heap.size + 1, 0, none⟩ = some (.bool false) := hr.cell 0
  have HG := Lib.hid hG
  have Hr := Lib.hid hr
  clear hG hr hP hL hL'
  refine (callsIn_wide (n := 1)).1 ?_
  refine callsIn_of_wp_marks Tryz.func82 rfl trivial ?_ rfl
  simp only [Tryz.ntmps82, List.size_toArray, List.length_cons, List.length_nil, Nat.reduceAdd, Nat.reduceSub, Array.replicate_succ, Array.replicate_zero, List.push_toArray, List.append_toArray, List.nil_append, List.cons_append]
  gi_wp2_with fail
  have hlen : ∀ k (hk : k < (L.map fun f => #[mixV f]).length), (L.map fun f => #[mixV f])[k] = #[mixV (L.getD k zeroMix)] := fun k hk => by
    have hk' : k < L.length := by simpa using hk
    simp [List.getD, hk']
  have hfin : ∀ (B : World) (v : Bool) (D : Nat), RowIs B (w.heap.size + 1) #[.bool v] 4 → Below w.heap.size w B → w.heap.size + 2 ≤ D → B.heap[D]? = some (.deferred (some [])) →
      RowIs (B.putObj D (.deferred none)) (w.heap.size + 1) #[.bool v] 4 ∧ Below w.heap.size w (B.putObj D (.deferred none)) := fun B v D h1 h2 h3 _ =>
    ⟨(World.putObj_heap_other (by omega)).trans h1, h2.trans (below_put _ (by omega))⟩
  have Hlen := Lib.hid hlen
  have Hfin := Lib.hid hfin
  have hzW : W.heap.size = w.heap.size + 2 := by rw [← hW]; simp
  clear hlen hfin hW
  refine wpIn_rangeL (gf := 72) (first := #[potV g n l c]) (lb := #[]) rfl (enters_of Tryz.func72 (by kernel_rfl) rfl) HG.out (fun k hk => by rw [hk]; have := hB0.size; omega) (fun k hk => by rw [Hlen.out k hk]; rfl)
    (fun k A => k = 0 ∧ RowIs A (w.heap.size + 1) #[.bool false] 4 ∧ Below w.heap.size w A)
    (fun cd _ A => cd = .ret ∧ L.isEmpty = false ∧ RowIs A (w.heap.size + 1) #[.bool true] 4 ∧ Below w.heap.size w A)
    (fun k A B hA hAB => ⟨hA.1, (hAB.block _ hz).trans hA.2.1, hA.2.2.trans (hAB.mono (by omega))⟩)
    (fun cd k A B hA hAB => ⟨hA.1, hA.2.1, (hAB.block _ hz).trans hA.2.2.1, hA.2.2.2.trans (hAB.mono (by omega))⟩)
    ⟨rfl, Hr.out, hB0⟩
    (fun k a' A => a' = { tmps := #[potV g n l c, .pointer (some ⟨w.heap.size, 0, none⟩), .pointer (some ⟨w.heap.size + 1, 0, none⟩), potV g n l c, .func (.func 72) #[potV g n l c] #[], mixV (L.getD k zeroMix)], defers := [] })
    (fun k a' A o hA => hA)
    ?assign ?body ?done ?stop
  case assign =>
    intro lx k hk A T hA hI hT
    rw [Hlen.out k hk]
    gi_wp2
    exact hT _ _ (Below.refl _ _) (by simp)
  case body =>
    rintro lx k hk a' A hA ⟨rfl, hr, hB⟩ rfl
    have hne : L.isEmpty = false := by
      have : 0 < L.length := by simpa using hk
      cases L with
      | nil => simp at this
      | cons => rfl
    have q0 : A.cell? ⟨w.heap.size + 1, 0, none⟩ = some (.bool false) := hr.cell 0
    have z0 := hr.frozen 0
    have zz : w.heap.size + 1 < A.heap.size := (Array.getElem?_eq_some_iff.1 hr).1
    have Hr' := Lib.hid hr
    clear hr
    gi_wp2_with fail
    refine ⟨⟨by simp [World.setCell], fun k hk h => ?_⟩, rfl, hne, Hr'.out.set 0 (.bool true), hB.setCell (p := ⟨w.heap.size + 1, 0, none⟩) (Nat.le_succ _) _⟩
    refine Below.heap_setCell _ _ _ _ ?_
    simp only
    rcases h with h | h
    · rw [h]; omega
    · omega
  case done =>
    rintro B hBz ⟨h0, hr, hB⟩ hK
    have he : L.isEmpty = true := by
      cases L with
      | nil => rfl
      | cons => simp at h0
    have q0 : B.cell? ⟨w.heap.size + 1, 0, none⟩ = some (.bool false) := hr.cell 0
    have z0 := hr.frozen 0
    have zz : w.heap.size + 1 < B.heap.size := (Array.getElem?_eq_some_iff.1 hr).1
    have Hr' := Lib.hid hr
    have HK := Lib.hid hK
    clear hr hK
    dsimp only
    gi_wp2_with fail
    have hr2 : RowIs (B.setCell ⟨w.heap.size + 1, 0, none⟩ (.bool false)) (w.heap.size + 1) #[.bool false] 4 := Hr'.out.set 0 (.bool false)
    have hB2 : Below w.heap.size w (B.setCell ⟨w.heap.size + 1, 0, none⟩ (.bool false)) := hB.setCell (p := ⟨w.heap.size + 1, 0, none⟩) (Nat.le_succ _) _
    have hK2 : (B.setCell ⟨w.heap.size + 1, 0, none⟩ (.bool false)).heap[W.heap.size]? = some (.deferred (some [])) := (Below.heap_setCell _ _ _ _ (by simp only; omega)).trans HK.out
    generalize B.setCell ⟨w.heap.size + 1, 0, none⟩ (.bool false) = U at hr2 hB2 hK2 ⊢
    refine ⟨by simp, .inl ⟨_, _, rfl, run_takeDeferred hK2, ?_⟩⟩
    obtain ⟨h1, h2⟩ := Hfin.out U false _ hr2 hB2 (by omega) hK2
    have q1 := RowIs.cell h1 0
    simp at q1
    exact ⟨.bool false, by simp [results, Tryz.results82, go_sem, q1], by simp [he], h2⟩
  case stop =>
    rintro cd k B hBz ⟨rfl, he, hr, hB⟩ hK
    have Hr' := Lib.hid hr
    have HK := Lib.hid hK
    clear hr hK
    dsimp only
    gi_wp2_with fail
    refine ⟨by simp, .inl ⟨_, _, rfl, run_takeDeferred HK.out, ?_⟩⟩
    obtain ⟨h1, h2⟩ := Hfin.out B true _ Hr'.out hB (by omega) HK.out
    have q1 := RowIs.cell h1 0
    simp at q1
    exact ⟨.bool true, by simp [results, Tryz.results82, go_sem, q1], by simp [he], h2⟩

end Go.Proofs.YtehafggcncbnkaaGreat

namespace Go.Proofs.YtehafggcncbnkaaGreat
open Go Go.RowKit Go.Shelf
attribute [local go_sem] Oper.semAt_some

/-- A proof's row. -/
def prfRow (p : P4) : Array Value := #[.int .i64 p.d, .int .i64 p.b, .int .i64 p.l, .int .i64 p.c]
def zeroP : P4 := ⟨0, 0, 0, 0⟩
def bestP (lt : P4 → P4 → Bool) (l : List P4) : P4 := (bestS lt l).getD zeroP

theorem qrow {w : World} {b : Nat} {p : P4} {T : TypeId} (h : RowIs w b (prfRow p) T) :
    (w.cell? ⟨b, 0, none⟩ = some (.int .i64 p.d) ∧ w.cell? ⟨b, 1, none⟩ = some (.int .i64 p.b) ∧ w.cell? ⟨b, 2, none⟩ = some (.int .i64 p.l) ∧ w.cell? ⟨b, 3, none⟩ = some (.int .i64 p.c) ∧ b < w.heap.size) ∧
    (w.frozen? ⟨b, 0, none⟩ = false ∧ w.frozen? ⟨b, 1, none⟩ = false ∧ w.frozen? ⟨b, 2, none⟩ = false ∧ w.frozen? ⟨b, 3, none⟩ = false) :=
  ⟨⟨h.cell 0, h.cell 1, h.cell 2, h.cell 3, (Array.getElem?_eq_some_iff.1 h).1⟩, h.frozen 0, h.frozen 1, h.frozen 2, h.frozen 3⟩

/-- Four cells are written. -/
def put4 (w : World) (b : Nat) (p : P4) : World :=
  (((w.setCell ⟨b, 0, none⟩ (.int .i64 p.d)).setCell ⟨b, 1, none⟩ (.int .i64 p.b)).setCell ⟨b, 2, none⟩ (.int .i64 p.l)).setCell ⟨b, 3, none⟩ (.int .i64 p.c)

theorem put4_row {w : World} {b : Nat} {g : P4} {T : TypeId} (h : RowIs w b (prfRow g) T) (p : P4) : RowIs (put4 w b p) b (prfRow p) T := by
  have := (((h.set 0 (.int .i64 p.d)).set 1 (.int .i64 p.b)).set 2 (.int .i64 p.l)).set 3 (.int .i64 p.c)
  simpa [put4, prfRow] using this

theorem put4_below {w : World} {b B : Nat} (h : B ≤ b) (p : P4) : Below B w (put4 w b p) :=
  ((((Below.refl B w).setCell (p := ⟨b, 0, none⟩) h _).setCell (p := ⟨b, 1, none⟩) h _).setCell (p := ⟨b, 2, none⟩) h _).setCell (p := ⟨b, 3, none⟩) h _

theorem put4_other {w : World} {b k : Nat} (h : k ≠ b) (p : P4) : (put4 w b p).heap[k]? = w.heap[k]? := by
  unfold put4
  rw [Below.heap_setCell _ _ _ _ h, Below.heap_setCell _ _ _ _ h, Below.heap_setCell _ _ _ _ h, Below.heap_setCell _ _ _ _ h]

set_option maxRecDepth 100000 in
set_option maxHeartbeats 4000000 in
theorem bestP_c (gf : Nat) (gfirst glb : Array Value) (K : Nat → Prop) (L : List P4) (bf : Nat) (bfirst blb : Array Value) (lt : P4 → P4 → Bool) (w : World)
    (hG : Gives Tryz.prog gf gfirst glb K (L.map fun f => #[proofV f]) w) (hK : ∀ k, K k → k < w.heap.size) (eg : ∀ args w, (callFunc gf args).run Tryz.prog w = .ok (.enter gf args) w) (eb : ∀ args w, (callFunc bf args).run Tryz.prog w = .ok (.enter bf args) w)
    (hbt : ∀ W, Below w.heap.size w W → ∀ f ∈ L, ∀ g ∈ L, Calls Tryz.prog bf (bfirst ++ #[proofV f, proofV g] ++ blb) W fun e w' => e = .returned (.bool (lt f g)) ∧ Below W.heap.size W w') :
    Calls Tryz.prog 118 #[.func (.func gf) gfirst glb, .func (.func bf) bfirst blb] w fun e w' => e = .returned (.tuple #[proofV (bestP lt L), .bool (bestS lt L).isSome]) ∧ Below w.heap.size w w' := by
  obtain ⟨W, hW⟩ : ∃ W, (((w.alloc (.cells #[.func (.func bf) bfirst blb] 148)).alloc (.cells #[.int .i64 0, .int .i64 0, .int .i64 0, .int .i64 0] 45)).alloc (.cells #[.int .i64 0, .int .i64 0, .int .i64 0, .int .i64 0] 45)).alloc (.cells #[.bool false] 4) = W := ⟨_, rfl⟩
  have hB0 : Below w.heap.size w W := by rw [← hW]; exact Below.alloc1 (Below.alloc1 (Below.alloc1 (Below.alloc1 (Below.refl _ _) _ (Nat.le_refl _)) _ (Nat.le_refl _)) _ (Nat.le_refl _)) _ (Nat.le_refl _)
  have h3 : RowIs W w.heap.size #[.func (.func bf) bfirst blb] 148 := by rw [← hW]; exact RowIs.alloc (RowIs.alloc (RowIs.alloc (heap_new_at _ _ _ rfl) _) _) _
  have h4 : RowIs W (w.heap.size + 1) (prfRow zeroP) 45 := by rw [← hW]; exact RowIs.alloc (RowIs.alloc (heap_new_at _ _ _ (by simp)) _) _
  have h6 : RowIs W (w.heap.size + 2) (prfRow zeroP) 45 := by rw [← hW]; exact RowIs.alloc (heap_new_at _ _ _ (by simp)) _
  have h7 : RowIs W (w.heap.size + 3) #[.bool false] 4 := by rw [← hW]; exact heap_new_at _ _ _ (by simp)
  have hzW : W.heap.size = w.heap.size + 4 := by rw [← hW]; simp
  have c7 : W.cell? ⟨w.heap.size + 3, 0, none⟩ = some (.bool false) := h7.cell 0
  have z7 := h7.frozen 0
  have zz7 : w.heap.size + 3 < W.heap.size := by omega
  have H3 := Lib.hid h3
  have H4 := Lib.hid h4
  have H6 := Lib.hid h6
  have H7 := Lib.hid h7
  have HzW := Lib.hid hzW
  have HB0 := Lib.hid hB0
  have HG := Lib.hid hG
  have HK := Lib.hid hK
  have Hbt := Lib.hid hbt
  clear h3 h4 h6 h7 hzW hB0 hG hK hbt
  refine (callsIn_wide (n := 1)).1 ?_
  refine callsIn_of_wp_marks Tryz.func118 rfl trivial ?_ rfl
  simp only [Tryz.ntmps118, List.size_toArray, List.length_cons, List.length_nil, Nat.reduceAdd, Nat.reduceSub, Array.replicate_succ, Array.replicate_zero, List.push_toArray, List.append_toArray, List.nil_append, List.cons_append]
  gi_wp2_with fail
  obtain ⟨W2, hW2⟩ : ∃ W2, W.setCell ⟨w.heap.size + 3, 0, none⟩ (.bool false) = W2 := ⟨_, rfl⟩
  have hb2 : Below (w.heap.size + 3) W W2 := by rw [← hW2]; exact (Below.refl _ _).setCell (p := ⟨w.heap.size + 3, 0, none⟩) (Nat.le_refl _) _
  have hf2 : RowIs W2 (w.heap.size + 3) #[.bool false] 4 := by rw [← hW2]; exact H7.out.set 0 (.bool false)
  have hzW2 : W2.heap.size = w.heap.size + 4 := by rw [← hW2]; simp [World.setCell, HzW.out]
  have hB2 : Below w.heap.size w W2 := HB0.out.trans (hb2.mono (by omega))
  have h32 := (hb2.block w.heap.size (by omega)).trans H3.out
  have h42 := (hb2.block (w.heap.size + 1) (by omega)).trans H4.out
  have h62 := (hb2.block (w.heap.size + 2) (by omega)).trans H6.out
  have hG2 := HG.out.later HK.out hB2.size fun k hk => hB2.block k (HK.out k hk)
  rw [hW2]
  clear hW2 hW c7 z7
  have hL : ∀ k (hk : k < (L.map fun f => #[proofV f]).length), (L.map fun f => #[proofV f])[k] = #[proofV (L.getD k zeroP)] := fun k hk => by
    have hk' : k < L.length := by simpa using hk
    simp [List.getD, hk']
  refine wpIn_rangeL (gf := gf) (first := gfirst) (lb := glb) rfl eg hG2 (fun k hk => Nat.lt_of_lt_of_le (HK.out k hk) hB2.size) (fun k hk => by rw [hL k hk]; rfl)
    (fun k A => Below w.heap.size w A ∧ RowIs A w.heap.size #[.func (.func bf) bfirst blb] 148 ∧ RowIs A (w.heap.size + 1) (prfRow zeroP) 45 ∧
      RowIs A (w.heap.size + 2) (prfRow ((bestS lt (L.take k)).getD zeroP)) 45 ∧ RowIs A (w.heap.size + 3) #[.bool (bestS lt (L.take k)).isSome] 4)
    (fun _ _ _ => False)
    (fun k A B hA hAB => ⟨hA.1.trans (hAB.mono (by omega)), (hAB.block _ (by omega)).trans hA.2.1, (hAB.block _ (by omega)).trans hA.2.2.1, (hAB.block _ (by omega)).trans hA.2.2.2.1, (hAB.block _ (by omega)).trans hA.2.2.2.2⟩)
    (fun _ _ _ _ h _ => h)
    ⟨hB2, h32, h42, h62, hf2⟩
    (fun k a' A => ∃ Bx, w.heap.size + 6 ≤ Bx ∧ RowIs A Bx (prfRow (L.getD k zeroP)) 45 ∧
      a' = { tmps := #[.func (.func gf) gfirst glb, .func (.func bf) bfirst blb, undef, .pointer (some ⟨w.heap.size, 0, none⟩), .pointer (some ⟨w.heap.size + 1, 0, none⟩), .bool false, .pointer (some ⟨w.heap.size + 1 + 1, 0, none⟩), .pointer (some ⟨w.heap.size + 1 + 1 + 1, 0, none⟩), .pointer (some ⟨Bx, 0, none⟩), .func (.func gf) gfirst glb, proofV (L.getD k zeroP), undef, undef, undef, undef, undef, undef, undef, undef, undef, undef, undef], defers := [] })
    (fun k a' A o hA => by
      obtain ⟨Bx, h1, h2, h3⟩ := hA
      exact ⟨Bx, h1, (World.putObj_heap_other (by omega)).trans h2, h3⟩)
    ?assign ?body ?done ?stop
  case assign =>
    intro lx k hk A T hA hI hT
    rw [hL k hk]
    obtain ⟨x, hx⟩ : ∃ x, L.getD k zeroP = x := ⟨_, rfl⟩
    rw [hx] at hT ⊢
    clear hL
    gi_wp2
    exact hT _ _ (Below.alloc1 (Below.refl _ _) _ (Nat.le_refl _)) ⟨A.heap.size, by omega, heap_new_at _ _ _ rfl, rfl⟩
  case body =>
    rintro lx k hk a' A hA ⟨g1, g2, g3, g4, g5⟩ ⟨Bx, hBx, hx, rfl⟩
    have hk' : k < L.length := by simpa using hk
    have hxe : L.getD k zeroP = L[k] := by simp [List.getD, hk']
    obtain ⟨x, hxx⟩ : ∃ x, L[k] = x := ⟨_, rfl⟩
    have hst := bestS_take lt hk'
    rw [hxx] at hxe hst
    rw [hxe] at hx ⊢
    have hxm : x ∈ L := by rw [← hxx]; exact List.getElem_mem hk'
    have f0 : A.cell? ⟨w.heap.size + 3, 0, none⟩ = some (.bool (bestS lt (L.take k)).isSome) := g5.cell 0
    have f1 := g5.frozen 0
    have b0 : A.cell? ⟨w.heap.size, 0, none⟩ = some (.func (.func bf) bfirst blb) := g2.cell 0
    have z3 : w.heap.size + 3 < A.heap.size := by omega
    have z0 : w.heap.size < A.heap.size := by omega
    obtain ⟨⟨x0, x1, x2, x3, xz⟩, _⟩ := qrow hx
    obtain ⟨⟨k0, k1, k2, k3, kz⟩, l0, l1, l2, l3⟩ := qrow g4
    have hfin : ∀ (A' : World) (f : Bool), Below A.heap.size A A' → RowIs A' (w.heap.size + 3) #[.bool f] 4 → ∀ a, bestS lt (L.take (k + 1)) = some x → roundQ K W2.heap.size (fun k A => Below w.heap.size w A ∧ RowIs A w.heap.size #[.func (.func bf) bfirst blb] 148 ∧ RowIs A (w.heap.size + 1) (prfRow zeroP) 45 ∧
        RowIs A (w.heap.size + 2) (prfRow ((bestS lt (L.take k)).getD zeroP)) 45 ∧ RowIs A (w.heap.size + 3) #[.bool (bestS lt (L.take k)).isSome] 4) (fun _ _ _ => False) k A .normal a ((put4 A' (w.heap.size + 2) x).setCell ⟨w.heap.size + 3, 0, none⟩ (.bool true)) := by
      intro A' f hA' hr a hs
      have hb : Below (w.heap.size + 2) A ((put4 A' (w.heap.size + 2) x).setCell ⟨w.heap.size + 3, 0, none⟩ (.bool true)) := ((hA'.mono (by omega)).trans (put4_below (Nat.le_refl _) x)).setCell (p := ⟨w.heap.size + 3, 0, none⟩) (Nat.le_succ _) _
      have hsame : ∀ i, i < A.heap.size → i ≠ w.heap.size + 2 → i ≠ w.heap.size + 3 → ((put4 A' (w.heap.size + 2) x).setCell ⟨w.heap.size + 3, 0, none⟩ (.bool true)).heap[i]? = A.heap[i]? := fun i h1 h2 h3 => by
        rw [Below.heap_setCell _ _ _ _ h3, put4_other h2]
        exact hA'.block i h1
      refine ⟨⟨hb.size, fun i h1 h2 => hsame i h1 ?_ ?_⟩, g1.trans (hb.mono (by omega)), (hsame _ (by omega) (by omega) (by omega)).trans g2, (hsame _ (by omega) (by omega) (by omega)).trans g3, ?_, ?_⟩
      · rcases h2 with h2 | h2
        · have := HK.out i h2; omega
        · omega
      · rcases h2 with h2 | h2
        · have := HK.out i h2; omega
        · omega
      · rw [hs]
        exact (Below.heap_setCell _ _ _ _ (by simp)).trans (put4_row ((hA'.block _ (by omega)).trans g4) x)
      · rw [hs]
        exact RowIs.set (w := put4 A' (w.heap.size + 2) x) ((put4_other (by omega) x).trans hr) 0 (.bool true)
    have zBx := xz
    have Hfin := Lib.hid hfin
    have G1 := Lib.hid g1
    have G2 := Lib.hid g2
    have G3 := Lib.hid g3
    have G4 := Lib.hid g4
    have G5 := Lib.hid g5
    have Hst := Lib.hid hst
    have Hx := Lib.hid hx
    have HL := Lib.hid hL
    clear hfin g1 g2 g3 g4 g5 hst hx hL hxe hxx h32 h42 h62 hf2 hb2 hB2 hG2
    cases hb : bestS lt (L.take k) with
    | none =>
      have Hb := Lib.hid hb
      rw [hb] at f0
      clear hb
      have hs : bestS lt (L.take (k + 1)) = some x := by rw [Hst.out, Hb.out]; rfl
      have Hs := Lib.hid hs
      clear hs
      gi_wp2_with fail
      refine ⟨fun _ h => (by cases h), ?_⟩
      gi_wp2_with fail
      exact Hfin.out A _ (Below.refl _ _) G5.out _ Hs.out
    | some y =>
      have hym : y ∈ L := bestS_in hb
      have Hb := Lib.hid hb
      rw [hb] at f0 k0 k1 k2 k3
      clear hb
      have hc := Hbt.out A G1.out x hxm y hym
      rw [Array.append_assoc] at hc
      cases hlt : lt x y with
      | true =>
        have hs : bestS lt (L.take (k + 1)) = some x := by rw [Hst.out, Hb.out]; simp [bestStep, hlt]
        rw [hlt] at hc
        have Hs := Lib.hid hs
        have Hc := Lib.hid hc
        clear hc hs hlt
        gi_wp2_with fail
        refine ⟨trivial, ?_⟩
        refine (CallsIn.inRound lx (callsIn_wide.2 Hc.out)).mono ?_
        rintro e A1 ⟨rfl, hb1⟩
        clear x0 x1 x2 x3 xz k0 k1 k2 k3 kz l0 l1 l2 l3 f0 f1 b0 z3 z0
        have hz1 := hb1.size
        have g5 := (hb1.block (w.heap.size + 3) (by omega)).trans G5.out
        obtain ⟨⟨x0, x1, x2, x3, xz⟩, _⟩ := qrow ((hb1.block Bx (by omega)).trans Hx.out)
        obtain ⟨⟨k0, k1, k2, k3, kz⟩, l0, l1, l2, l3⟩ := qrow ((hb1.block (w.heap.size + 2) (by omega)).trans G4.out)
        have f0 : A1.cell? ⟨w.heap.size + 3, 0, none⟩ = some (.bool (bestS lt (L.take k)).isSome) := RowIs.cell g5 0
        have f1 := RowIs.frozen g5 0
        have z3 : w.heap.size + 3 < A1.heap.size := by omega
        have HG5 := Lib.hid g5
        clear g5
        gi_wp2_with fail
        exact Hfin.out A1 _ hb1 HG5.out _ Hs.out
      | false =>
        have hs : bestS lt (L.take (k + 1)) = some y := by rw [Hst.out, Hb.out]; simp [bestStep, hlt]
        rw [hlt] at hc
        have Hs := Lib.hid hs
        have Hc := Lib.hid hc
        clear hc hs hlt
        gi_wp2_with fail
        refine ⟨trivial, ?_⟩
        refine (CallsIn.inRound lx (callsIn_wide.2 Hc.out)).mono ?_
        rintro e A1 ⟨rfl, hb1⟩
        have hz1 := hb1.size
        gi_wp2_with fail
        exact ⟨Spares.of_below hb1, G1.out.trans (hb1.mono (by omega)), (hb1.block _ (by omega)).trans G2.out, (hb1.block _ (by omega)).trans G3.out, by rw [Hs.out, ← Hb.out]; exact (hb1.block _ (by omega)).trans G4.out, by rw [Hs.out]; have := (hb1.block _ (by omega)).trans G5.out; rw [Hb.out] at this; exact this⟩
  case done =>
    rintro B hBz ⟨g1, g2, g3, g4, g5⟩ hK
    have eL : L.take (L.map fun f => #[proofV f]).length = L := by simp
    rw [eL] at g4 g5
    have hf : (bestS lt L).getD zeroP = bestP lt L := rfl
    rw [hf] at g4
    have f0 : B.cell? ⟨w.heap.size + 3, 0, none⟩ = some (.bool (bestS lt L).isSome) := g5.cell 0
    have z3 : w.heap.size + 3 < B.heap.size := by omega
    obtain ⟨⟨k0, k1, k2, k3, kz⟩, _⟩ := qrow g4
    obtain ⟨⟨y0, y1, y2, y3, yz⟩, l0, l1, l2, l3⟩ := qrow g3
    have G1 := Lib.hid g1
    have G3 := Lib.hid g3
    have HK' := Lib.hid hK
    clear g1 g2 g3 g4 g5 hK eL hf hL h32 h42 h62 hf2 hb2 hB2 hG2
    dsimp only
    gi_wp2_with fail
    refine (wpIn_wide (n := 1)).2 ?_
    go_region
    gi_wp2_with fail
    obtain ⟨U, hU⟩ : ∃ U, (((B.setCell ⟨w.heap.size + 1, 0, none⟩ (.int .i64 (bestP lt L).d)).setCell ⟨w.heap.size + 1, 1, none⟩ (.int .i64 (bestP lt L).b)).setCell ⟨w.heap.size + 1, 2, none⟩ (.int .i64 (bestP lt L).l)).setCell ⟨w.heap.size + 1, 3, none⟩ (.int .i64 (bestP lt L).c) = U := ⟨_, rfl⟩
    have hUp : put4 B (w.heap.size + 1) (bestP lt L) = U := hU
    have hr0 : RowIs U (w.heap.size + 1) (prfRow (bestP lt L)) 45 := by rw [← hUp]; exact put4_row G3.out _
    have hb0 : Below w.heap.size w U := by rw [← hUp]; exact G1.out.trans (put4_below (Nat.le_succ _) _)
    have hK1 : U.heap[W2.heap.size]? = some (.deferred (some [])) := by rw [← hUp, put4_other (by omega)]; exact HK'.out
    rw [hU]
    clear hU hUp
    have hr1 : RowIs U.drew (w.heap.size + 1) (prfRow (bestP lt L)) 45 := hr0
    have hb1 : Below w.heap.size w U.drew := hb0.drew
    have hK2 : U.drew.heap[W2.heap.size]? = some (.deferred (some [])) := hK1
    clear hr0 hb0 hK1
    generalize U.drew = U2 at hr1 hb1 hK2 ⊢
    refine ⟨by simp, .inl ⟨_, _, rfl, run_takeDeferred hK2, ?_⟩⟩
    have hr : RowIs (U2.putObj W2.heap.size (.deferred none)) (w.heap.size + 1) (prfRow (bestP lt L)) 45 := (World.putObj_heap_other (by omega)).trans hr1
    have hb : Below w.heap.size w (U2.putObj W2.heap.size (.deferred none)) := hb1.trans (below_put _ (by omega))
    generalize U2.putObj W2.heap.size (.deferred none) = V at hr hb ⊢
    obtain ⟨⟨q0, q1, q2, q3, _⟩, _⟩ := qrow hr
    exact ⟨.tuple #[proofV (bestP lt L), .bool (bestS lt L).isSome], by simp [results, Tryz.results118, go_sem, q0, q1, q2, q3], rfl, hb⟩
  case stop =>
    rintro cd k B hBz h hK
    exact h.elim

end Go.Proofs.YtehafggcncbnkaaGreat

namespace Go.Proofs.YtehafggcncbnkaaGreat
open Go Go.RowKit Go.Maps

theorem laidP : laidOutB Tryz.prog = true := by kernel_rfl
theorem rowP : (45 : TypeId) < Tryz.prog.types.size := of_decide_eq_true (by kernel_rfl)
theorem wideP : (match Tryz.prog.underlying 45 with | some (.array _ _) | some (.struct _) => true | _ => false) = true := by rw [Tryz.underlying45]
set_option maxRecDepth 100000 in
theorem keyedP : Keyed Tryz.prog 45 := Keyed.of_law (deep_law_laid laidP (m := 2) (by omega) rowP (by kernel_rfl) wideP)
theorem keyTypeP : Tryz.prog.keyType 45 = true := by kernel_rfl
theorem cellsP : Tryz.prog.cellsOf 45 = 4 := by kernel_rfl
theorem cellsK : Tryz.prog.cellsOf 2 = 1 := by kernel_rfl
theorem sizeTypes : ∃ m, Tryz.prog.types.size = m + 1 := by
  have h := rowP
  revert h
  generalize Tryz.prog.types.size = k
  intro h
  cases k with
  | zero => exact absurd h (Nat.not_lt_zero _)
  | succ k => exact ⟨k, rfl⟩

def In64 (x : Int) : Prop := -9223372036854775808 ≤ x ∧ x ≤ 9223372036854775807
def P4.ok (p : P4) : Prop := In64 p.d ∧ In64 p.b ∧ In64 p.l ∧ In64 p.c
/-- A proof as a key. -/
def keyL (p : P4) : Lit := .string (keyBytes [.int .i64 p.d, .int .i64 p.b, .int .i64 p.l, .int .i64 p.c])

theorem wf64 {x : Int} (h : In64 x) : (Lit.int .i64 x).wf = true := by
  simp [Lit.wf, IntKind.min, IntKind.max, IntKind.bits, IntKind.signed]
  exact h

theorem wf64_inv {x : Int} (h : (Lit.int .i64 x).wf = true) : In64 x := by
  simp [Lit.wf, IntKind.min, IntKind.max, IntKind.bits, IntKind.signed] at h
  exact h

theorem keyOf_proof {p : P4} (h : p.ok) : keyOf Tryz.prog 45 (proofV p) = some (keyL p) := by
  obtain ⟨h0, h1, h2, h3⟩ := h
  have w0 := wf64 h0
  have w1 := wf64 h1
  have w2 := wf64 h2
  have w3 := wf64 h3
  obtain ⟨m, hm⟩ := sizeTypes
  unfold keyOf
  simp only [Tryz.underlying45]
  rw [if_pos (by simp [keyTypeP, Value.formed, Tryz.underlying45, cellsP]), hm]
  unfold Program.keyLits
  simp only [Tryz.underlying45, Value.cells]
  rw [if_pos (by rw [cellsP]; exact ⟨rfl, by simp⟩)]
  simp [Program.keyLits, Tryz.underlying2, cellsK, w0, w1, w2, w3, keyL]

theorem lits64 {m : Nat} {v : Value} {ls : List Lit} (h : Tryz.prog.keyLits m 2 [v] = some ls) : ∃ n, v = .int .i64 n ∧ In64 n ∧ ls = [.int .i64 n] := by
  cases m with
  | zero => cases h
  | succ m =>
    unfold Program.keyLits at h
    simp only [Tryz.underlying2] at h
    cases v <;> simp at h
    obtain ⟨⟨rfl, hw⟩, rfl⟩ := h
    exact ⟨_, rfl, wf64_inv hw, rfl⟩

set_option maxRecDepth 100000 in
theorem keyOf_inv {v : Value} {kl : Lit} (h : keyOf Tryz.prog 45 v = some kl) : ∃ p : P4, v = proofV p ∧ p.ok ∧ kl = keyL p := by
  obtain ⟨m, hm⟩ := sizeTypes
  unfold keyOf at h
  simp only [Tryz.underlying45] at h
  split at h
  case isFalse => cases h
  case isTrue hf =>
    simp only [keyTypeP, Bool.true_and] at hf
    rw [hm] at h
    cases v with
    | agg cs =>
      simp only [Value.formed, Tryz.underlying45, cellsP, beq_iff_eq] at hf
      obtain ⟨l⟩ := cs
      match l, hf with
      | [a, b, c, d], _ =>
        unfold Program.keyLits at h
        simp only [Tryz.underlying45, Value.cells] at h
        rw [if_pos (by rw [cellsP]; exact ⟨rfl, by simp⟩)] at h
        simp [cellsK] at h
        cases hA : Tryz.prog.keyLits (m + 1) 2 [a] with
        | none => simp [hA] at h
        | some la =>
          cases hB : Tryz.prog.keyLits (m + 1) 2 [b] with
          | none => simp [hA, hB] at h
          | some lb =>
            cases hC : Tryz.prog.keyLits (m + 1) 2 [c] with
            | none => simp [hA, hB, hC] at h
            | some lc =>
              cases hD : Tryz.prog.keyLits (m + 1) 2 [d] with
              | none => simp [hA, hB, hC, hD] at h
              | some ld =>
                obtain ⟨n0, rfl, i0, rfl⟩ := lits64 hA
                obtain ⟨n1, rfl, i1, rfl⟩ := lits64 hB
                obtain ⟨n2, rfl, i2, rfl⟩ := lits64 hC
                obtain ⟨n3, rfl, i3, rfl⟩ := lits64 hD
                simp [hA, hB, hC, hD] at h
                exact ⟨⟨n0, n1, n2, n3⟩, rfl, ⟨i0, i1, i2, i3⟩, h.symm⟩
    | _ => simp [Value.formed, Tryz.underlying45] at hf

theorem P4.ext' {p q : P4} (h : proofV p = proofV q) : p = q := by
  cases p; cases q
  simp at h
  obtain ⟨h0, h1, h2, h3⟩ := h
  subst h0; subst h1; subst h2; subst h3
  rfl

theorem keyL_inj {p q : P4} (hp : p.ok) (hq : q.ok) (h : keyL p = keyL q) : p = q :=
  P4.ext' (keyedP.inj (keyOf_proof hp) (by rw [h]; exact keyOf_proof hq))

/-- The map in block b holds just the proofs of S, each with its value. -/
def Vals (w : World) (b N : Nat) (S : P4 → Prop) (val : P4 → Int) : Prop :=
  ∃ D : DataW Unit, w.ownsMap Tryz.prog 45 (plainElem Tryz.prog 2) b N D ∧ (∀ p, S p → p.ok) ∧ (∀ p, p.ok → (has D (keyL p) = true ↔ S p)) ∧ (∀ p, S p → In64 (val p) ∧ D.atKey (keyL p) (.lit (.int .i64 0)) = .lit (.int .i64 (val p)))

theorem Vals.below {w w' : World} {b N : Nat} {S : P4 → Prop} {val : P4 → Int} (h : Vals w b N S val) (hb : Below w.heap.size w w') : Vals w' b N S val := by
  obtain ⟨D, ⟨es, clock, hm, F, hs, hD⟩, h1⟩ := h
  exact ⟨D, ⟨es, clock, (hb.block b (Array.getElem?_eq_some_iff.1 hm).1).trans hm, F, hs, hD⟩, h1⟩

theorem Vals.lt {w : World} {b N : Nat} {S : P4 → Prop} {val : P4 → Int} (h : Vals w b N S val) : b < w.heap.size := by
  obtain ⟨D, h, _⟩ := h
  exact h.lt

theorem Vals.congr {w : World} {b N : Nat} {S S' : P4 → Prop} {val : P4 → Int} (h : Vals w b N S val) (hS : ∀ p, S p ↔ S' p) : Vals w b N S' val := by
  have : S = S' := by funext p; exact propext (hS p)
  rwa [← this]

theorem vals_made (w : World) (val : P4 → Int) : Vals (w.alloc (.map #[] 0)) w.heap.size 0 (fun _ => False) val :=
  ⟨_, World.ownsMap_made w _ _ _, fun _ h => h.elim, fun p _ => ⟨fun h => by simp [has_eq] at h, fun h => h.elim⟩, fun _ h => h.elim⟩

/-- A proof is put in. -/
theorem vals_put {D : DataW Unit} {S : P4 → Prop} {val : P4 → Int} {q : P4} (hm : IsMap D) (h1 : ∀ p, S p → p.ok) (h2 : ∀ p, p.ok → (has D (keyL p) = true ↔ S p)) (h3 : ∀ p, S p → In64 (val p) ∧ D.atKey (keyL p) (.lit (.int .i64 0)) = .lit (.int .i64 (val p))) (hq : q.ok) (hv : In64 (val q)) :
    (∀ p, (S p ∨ p = q) → p.ok) ∧ (∀ p, p.ok → (has (D.put (keyL q) (.lit (.int .i64 (val q)))) (keyL p) = true ↔ (S p ∨ p = q))) ∧
    (∀ p, (S p ∨ p = q) → In64 (val p) ∧ (D.put (keyL q) (.lit (.int .i64 (val q)))).atKey (keyL p) (.lit (.int .i64 0)) = .lit (.int .i64 (val p))) := by
  refine ⟨?_, ?_, ?_⟩
  · rintro p (h | rfl)
    · exact h1 p h
    · exact hq
  · intro p hp
    by_cases e : p = q
    · subst e
      simp [has_put_same hm (keyedP.key (keyOf_proof hq))]
    · have hne : keyL p ≠ keyL q := fun h => e (keyL_inj hp hq h)
      rw [has_put_other hne]
      simp [e, h2 p hp]
  · intro p hp
    by_cases e : p = q
    · subst e
      exact ⟨hv, atKey_put_same hm (keyedP.key (keyOf_proof hq)) _ _⟩
    · have hS : S p := hp.resolve_right e
      have hne : keyL p ≠ keyL q := fun h => e (keyL_inj (h1 p hS) hq h)
      rw [atKey_put_other hne]
      exact h3 p hS

end Go.Proofs.YtehafggcncbnkaaGreat
