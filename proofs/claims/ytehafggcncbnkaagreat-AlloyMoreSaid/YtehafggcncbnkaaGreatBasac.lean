/- Contracts of package alloy: stocks. -/
import Derived.Test.YtehafggcncbnkaaGreatProg
import Derived.Test.YtehafggcncbnkaaGreatBasaa
namespace Go.Proofs.YtehafggcncbnkaaGreat
open Go.RowKit

theorem infoSums : (Tryz.prog.info? 92).map (fun i => (i.zero, i.size, i.bytes)) = some (some (.agg #[.int .i64 0, .int .i64 0, .int .i64 0, .int .i64 0]), 4, 32) := by kernel_rfl

set_option maxHeartbeats 400000 in
theorem end_c (lo hi : Int) (most : Bool) (w : World) :
    Calls Tryz.prog 91 #[.agg #[.int .i64 lo, .int .i64 hi], .bool most] w fun e w' => e = .returned (.int .i64 (if most then hi else lo)) ∧ w.alloc (.cells #[.int .i64 lo, .int .i64 hi] 66) = w' := by
  cases most
  all_goals
    go_enter Tryz.func91, Tryz.ntmps91
    go_wp2
    go_ret
    exact ⟨rfl, rfl⟩

set_option maxRecDepth 100000 in
set_option maxHeartbeats 4000000 in
theorem newStock_c (a : Option Addr) (n cap : Nat) (m : Nat → M5) (ml mc : Bool) (w : World) (hm : Metals w a n m) (hn : n ≤ 1048576) :
    Calls Tryz.prog 56 #[.slice a n cap, .bool ml, .bool mc] w fun e w' => ∃ g, w.heap.size < g ∧ e = .returned (.agg #[.slice (some ⟨g, 0, none⟩) n n]) ∧ Units w' (some ⟨g, 0, none⟩) n (fun i => unitOf ml mc (m i)) ∧ Below w.heap.size w w' := by
  obtain ⟨i0, hi, hz0, hz1, hz2⟩ := info_parts infoSums
  have hB0 : Below w.heap.size w (w.alloc (.cells #[.slice none 0 0] 83)) := (Below.refl _ _).alloc (Nat.le_refl _) _
  have hm0 := hm.below hB0
  clear hm
  go_enter Tryz.func56, Tryz.ntmps56
  go_wp2_with (at_make; refine wpList_make_own _ rfl _ _ 81 rfl (w.heap.size + 1) 92 i0 (.agg #[.int .i64 0, .int .i64 0, .int .i64 0, .int .i64 0]) 4 Tryz.underlying81 hi hz0 hz1 .i64 .i64 _ n rfl rfl rfl (by rw [hz2]; omega) (by unfold maxLen; omega) (by simp) ?_; intro w1 hown hgr)
  rw [World.size_alloc] at hown
  have hB1 : Below (w.heap.size + 1) (w.alloc (.cells #[.slice none 0 0] 83)) w1 := by
    have := (Below.refl (w.heap.size + 1) (w.alloc (.cells #[.slice none 0 0] 83))).grown hgr (by simp) (fun k h => by cases h)
    exact this
  have hg1 : w.heap.size + 1 < w1.heap.size := by
    obtain ⟨_, h2⟩ := hown
    rcases h2 with ⟨hv, _⟩ | ⟨g', cap', cur, hv, hb, hh, _⟩
    · cases hv
    · cases hv
      exact (Array.getElem?_eq_some_iff.1 hh).1
  go_loopw [7, 15] (fun v i wr => ∃ k : Nat, k ≤ n ∧ i = .int .i64 k ∧ v = .slice (some ⟨w.heap.size + 1, 0, none⟩) k n ∧ wr.ownsRow (w.heap.size + 1) 92 4 (.slice (some ⟨w.heap.size + 1, 0, none⟩) k n) k (catF (fun i => (unitOf ml mc (m i)).cells) k) ∧ Below (w.heap.size + 1) (w.alloc (.cells #[.slice none 0 0] 83)) wr ∧ w.heap.size + 1 < wr.heap.size) (fun _ i _ => n - (intOf i).toNat)
  case atStart => exact ⟨0, Nat.zero_le _, rfl, rfl, hown, hB1, hg1⟩
  case round =>
    obtain ⟨k, hk, rfl, rfl, hown, hB, hz⟩ := hrel
    clear hgr hB1 hg1
    by_cases hlt : k < n
    · obtain ⟨b, off, rfl, hbs, c0, c1, c2, c3, c4⟩ := Metals.at hm0 k hlt
      rw [World.size_alloc] at hbs
      have hcc : ∀ b o, b < w.heap.size + 1 → wr.cell? ⟨b, o, none⟩ = (w.alloc (.cells #[.slice none 0 0] 83)).cell? ⟨b, o, none⟩ := fun b o h => hB.cell (p := ⟨b, o, none⟩) h
      have d0 := (hcc _ _ hbs).trans c0
      have d1 := (hcc _ _ hbs).trans c1
      have d2 := (hcc _ _ hbs).trans c2
      have d3 := (hcc _ _ hbs).trans c3
      have d4 := (hcc _ _ hbs).trans c4
      clear c0 c1 c2 c3 c4 hcc
      cases ml <;> cases mc
      all_goals
       go_wp2_with fail
       go_region_held3 (fun w' => w'.cell? ⟨wr.heap.size, 0, none⟩ = some (.int .i64 (m k).p) ∧ w'.cell? ⟨wr.heap.size, 1, none⟩ = some (.int .i64 (m k).l0) ∧ w'.cell? ⟨wr.heap.size, 2, none⟩ = some (.int .i64 (m k).l1) ∧ w'.cell? ⟨wr.heap.size, 3, none⟩ = some (.int .i64 (m k).c0) ∧ w'.cell? ⟨wr.heap.size, 4, none⟩ = some (.int .i64 (m k).c1))
         (first | go_keep | (go_split_ands; refine ⟨?_, ?_, ?_, ?_, ?_⟩ <;> (rw [hgr1.cell_far _ (by simp; omega) (by simp; omega)]; assumption)))
         ((first
          | (go_at_call_of 91 (Value.agg #[.int .i64 (m k).l0, .int .i64 (m k).l1]); refine (end_c _ _ _ _).mono ?_; rintro e w1 ⟨rfl, rfl⟩)
          | (go_at_call_of 91 (Value.agg #[.int .i64 (m k).c0, .int .i64 (m k).c1]); refine (end_c _ _ _ _).mono ?_; rintro e w1 ⟨rfl, rfl⟩)
          | (refine step_append_fits rfl _ _ 81 rfl (w.heap.size + 1) 92 i0 4 Tryz.underlying81 hi hz1 (w.heap.size + 1) k n _ rfl (((((hown.alloc _).alloc _).alloc _).alloc _).drew) _ 1 1 [.int .i64 1, .int .i64 (m k).p, _, _] rfl rfl (World.news_of_block (cs := #[.int .i64 1, .int .i64 (m k).p, _, _]) (t := 92) (fr := (0, 0)) (heap_new_drew _ _ _ (by simp))) (by simp [Value.oneCell']) (by omega) ?_; intro w1 hown1 hgr1)))
       all_goals
         have hs1 := hgr1.size
         simp at hs1
         go_wp2
         refine ⟨⟨k + 1, by omega, by go_num, rfl, hown1, ?_, by omega⟩, by simp [intOf]; omega⟩
         refine Below.grown ?_ hgr1 (by simp; omega) (fun j h => by cases h; exact Nat.le_refl _)
         repeat (first | exact hB | refine Below.drew ?_ | (refine Below.alloc ?_ (by first | omega | (simp; omega)) _))
    · obtain rfl : k = n := by omega
      have hcc : ∀ b o, b < w.heap.size + 1 → wr.cell? ⟨b, o, none⟩ = (w.alloc (.cells #[.slice none 0 0] 83)).cell? ⟨b, o, none⟩ := fun b o h => hB.cell (p := ⟨b, o, none⟩) h
      have hff : ∀ b o, b < w.heap.size + 1 → wr.frozen? ⟨b, o, none⟩ = (w.alloc (.cells #[.slice none 0 0] 83)).frozen? ⟨b, o, none⟩ := fun b o h => hB.frozen (p := ⟨b, o, none⟩) h
      have e0 := hcc w.heap.size 0 (by omega)
      have e1 := hff w.heap.size 0 (by omega)
      simp at e0 e1
      clear hcc hff
      go_wp2
      refine bodyPost_ret (v := .agg #[.slice (some ⟨w.heap.size + 1, 0, none⟩) k k]) (by simp [results, Tryz.results56, go_sem, e0]) rfl ⟨w.heap.size + 1, by omega, rfl, ?_, ?_⟩
      · have h1 : w.heap.size ≠ w.heap.size + 1 := by omega
        have h2 := (units_of_own hown)
        rcases h2 with h2 | ⟨b2, o2, he, hb2, hc2⟩
        · exact .inl h2
        · cases he
          refine .inr ⟨_, _, rfl, by simpa using hb2, fun i hi => ?_⟩
          obtain ⟨q0, q1, q2, q3⟩ := hc2 i hi
          refine ⟨?_, ?_, ?_, ?_⟩ <;> (rw [World.cell?_setCell_far _ _ _ _ (by simp)]; assumption)
      · have hB2 := hB.mono (B' := w.heap.size) (by omega)
        exact (hB0.trans hB2).setCell (Nat.le_refl _) _

end Go.Proofs.YtehafggcncbnkaaGreat
