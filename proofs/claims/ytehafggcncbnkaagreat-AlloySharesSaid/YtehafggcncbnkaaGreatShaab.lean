/- Contracts of the laws' helpers: metals with a truth, by numbers. -/
import Derived.WalkKit
import Derived.Test.YtehafggcncbnkaaGreatProg
import Derived.Test.YtehafggcncbnkaaGreatBasaa
import Derived.Test.YtehafggcncbnkaaGreatBasai
import Derived.Test.YtehafggcncbnkaaGreatBasak
import Derived.Test.YtehafggcncbnkaaGreatBasao
import Derived.Test.YtehafggcncbnkaaGreatBasas
import Derived.Test.YtehafggcncbnkaaGreatShaaa
import Derived.Test.YtehafggcncbnkaaGreatBasag
import Derived.Test.YtehafggcncbnkaaGreatBasab
import Derived.Test.YtehafggcncbnkaaGreatBasar
namespace Go.Proofs.YtehafggcncbnkaaGreat
open Go Go.RowKit

def knownM (len : Nat) (f : Nat → Int) (m : Nat → M5) (i : Nat) : M5 :=
  ⟨(m i).p, (m i).l0 + (mixG len f i).tmod ((m i).l1 - (m i).l0 + 1), (m i).l0 + (mixG len f i).tmod ((m i).l1 - (m i).l0 + 1),
    (m i).c0 + ((mixG len f i).tdiv 7).tmod ((m i).c1 - (m i).c0 + 1), (m i).c0 + ((mixG len f i).tdiv 7).tmod ((m i).c1 - (m i).c0 + 1)⟩

theorem infoMetal : (Tryz.prog.info? 68).map (fun i => (i.zero, i.size, i.bytes)) = some (some (.agg #[.int .i64 0, .int .i64 0, .int .i64 0, .int .i64 0, .int .i64 0]), 5, 40) := by kernel_rfl

def M5.cells (q : M5) : List Value := [.int .i64 q.p, .int .i64 q.l0, .int .i64 q.l1, .int .i64 q.c0, .int .i64 q.c1]
theorem metals_of_own {w : World} {base : Nat} {e : TypeId} {g n cap : Nat} {q : Nat → M5} (h : w.ownsRow base e 5 (.slice (some ⟨g, 0, none⟩) n cap) n (catF (fun i => (q i).cells) n)) : Metals w (some ⟨g, 0, none⟩) n q ∧ base ≤ g ∧ g < w.heap.size := by
  have hg : base ≤ g ∧ g < w.heap.size := by
    rcases h.2 with ⟨hv, _⟩ | ⟨g', cap', cur, hv, hb, hh, _⟩
    · cases hv
    · cases hv
      exact ⟨hb, (Array.getElem?_eq_some_iff.1 hh).1⟩
  refine ⟨.inr ⟨g, 0, rfl, hg.2, fun i hi => ?_⟩, hg⟩
  have key : ∀ j, j < 5 → w.cell? ⟨g, 0 + i * 5 + j, none⟩ = ((q i).cells)[j]? := fun j hj => by
    have h1 : i * 5 + j < n * 5 := by omega
    have := h.cellAt (i * 5 + j) h1
    rw [catF_get (fun i => (q i).cells) 5 (fun i => rfl) i j hj n hi] at this
    rw [Nat.zero_add]
    exact this
  exact ⟨key 0 (by omega), key 1 (by omega), key 2 (by omega), key 3 (by omega), key 4 (by omega)⟩

theorem own_below {w w' : World} {base : Nat} {e : TypeId} {size n : Nat} {v : Value} {xs : List Value} (h : w.ownsRow base e size v n xs) (hb : Below w.heap.size w w') : w'.ownsRow base e size v n xs := by
  refine ⟨h.1, ?_⟩
  rcases h.2 with h2 | ⟨g, cap, cur, hv, hbg, hg, h3⟩
  · exact .inl h2
  · exact .inr ⟨g, cap, cur, hv, hbg, (hb.block g (Array.getElem?_eq_some_iff.1 hg).1).trans hg, h3⟩

/-- A number of a truth is within its range. -/
theorem truth_bd {a b x : Int} (h : 0 ≤ a ∧ a ≤ b ∧ b ≤ 1000) (hx : 0 ≤ x) : a ≤ a + x.tmod (b - a + 1) ∧ a + x.tmod (b - a + 1) ≤ b := by
  rw [Int.tmod_eq_emod_of_nonneg hx]
  have h1 := Int.emod_nonneg x (show b - a + 1 ≠ 0 by omega)
  have h2 := Int.emod_lt_of_pos x (show 0 < b - a + 1 by omega)
  omega

set_option maxRecDepth 100000 in
set_option maxHeartbeats 4000000 in
theorem known_c (a b : Option Addr) (n cap len cap2 : Nat) (m : Nat → M5) (f : Nat → Int) (w : World) (hm : Metals w a n m) (hF : Fine n m) (hf : Shorts w b len f) (hl : len ≤ 20) (hb : ∀ i, i < len → 0 ≤ f i ∧ f i ≤ 65535) :
    Calls Tryz.prog 47 #[.slice a n cap, .slice b len cap2] w fun e w' => ∃ g cap', w.heap.size ≤ g ∧ g < w'.heap.size ∧ e = .returned (.slice (some ⟨g, 0, none⟩) n cap') ∧ Metals w' (some ⟨g, 0, none⟩) n (knownM len f m) ∧ Below w.heap.size w w' := by
  obtain ⟨i0, hi, hz0, hz1, hz2⟩ := info_parts infoMetal
  have Hb := Lib.hid hb
  have HF := Lib.hid hF
  have hn0 : 0 < n := by have := hF.1; omega
  have hn6 : n ≤ 6 := hF.2.1
  clear hb hF
  go_enter Tryz.func47, Tryz.ntmps47
  go_wp2
  go_loopw [5, 6] (fun v i wr => ∃ k : Nat, k ≤ n ∧ i = .int .i64 k ∧ wr.ownsRow w.heap.size 68 5 v k (catF (fun i => (knownM len f m i).cells) k) ∧ Below w.heap.size w wr) (fun _ i _ => n - (intOf i).toNat)
  case atStart => exact ⟨0, Nat.zero_le _, rfl, World.ownsRow_nil _ _ _ _, Below.refl _ _⟩
  case round =>
    obtain ⟨k, hk, rfl, hown, hB⟩ := hrel
    have hBs := hB.size
    by_cases hlt : k < n
    · obtain ⟨bm, om, rfl, hbms, q0, q1, q2, q3, q4⟩ := Metals.at hm k hlt
      have d0 := (hB.cell (p := ⟨bm, om + k * 5, none⟩) hbms).trans q0
      have d1 := (hB.cell (p := ⟨bm, om + k * 5 + 1, none⟩) hbms).trans q1
      have d2 := (hB.cell (p := ⟨bm, om + k * 5 + 2, none⟩) hbms).trans q2
      have d3 := (hB.cell (p := ⟨bm, om + k * 5 + 3, none⟩) hbms).trans q3
      have d4 := (hB.cell (p := ⟨bm, om + k * 5 + 4, none⟩) hbms).trans q4
      have hfk := HF.out.2.2 k hlt
      have hxk := mixG_bd (B := 65535) (by omega) Hb.out k
      obtain ⟨x, hx⟩ : ∃ x, mixG len f k = x := ⟨_, rfl⟩
      have tb1 := truth_bd (a := (m k).l0) (b := (m k).l1) (x := x) ⟨hfk.2.2.1, hfk.2.2.2.1, hfk.2.2.2.2.1⟩ (by omega)
      have hx7 : 0 ≤ x.tdiv 7 := Int.tdiv_nonneg (by omega) (by omega)
      have tb2 := truth_bd (a := (m k).c0) (b := (m k).c1) (x := x.tdiv 7) ⟨hfk.2.2.2.2.2.1, hfk.2.2.2.2.2.2.1, hfk.2.2.2.2.2.2.2⟩ hx7
      have ekm : (knownM len f m k).cells = [.int .i64 (m k).p, .int .i64 ((m k).l0 + x.tmod ((m k).l1 - (m k).l0 + 1)), .int .i64 ((m k).l0 + x.tmod ((m k).l1 - (m k).l0 + 1)), .int .i64 ((m k).c0 + (x.tdiv 7).tmod ((m k).c1 - (m k).c0 + 1)), .int .i64 ((m k).c0 + (x.tdiv 7).tmod ((m k).c1 - (m k).c0 + 1))] := by
        unfold M5.cells knownM
        rw [hx]
      have Ekm := Lib.hid ekm
      obtain ⟨P, hP⟩ : ∃ P, (m k).p = P := ⟨_, rfl⟩
      obtain ⟨L0, hL0⟩ : ∃ P, (m k).l0 = P := ⟨_, rfl⟩
      obtain ⟨L1, hL1⟩ : ∃ P, (m k).l1 = P := ⟨_, rfl⟩
      obtain ⟨C0, hC0⟩ : ∃ P, (m k).c0 = P := ⟨_, rfl⟩
      obtain ⟨C1, hC1⟩ : ∃ P, (m k).c1 = P := ⟨_, rfl⟩
      rw [hP] at d0
      rw [hL0] at d1
      rw [hL1] at d2
      rw [hC0] at d3
      rw [hC1] at d4
      rw [hP, hL0, hL1, hC0, hC1] at Ekm
      rw [hL0, hL1] at tb1
      rw [hC0, hC1] at tb2
      rw [hP, hL0, hL1, hC0, hC1] at hfk
      have HB := Lib.hid hB
      have Hown := Lib.hid hown
      have Hx := Lib.hid hx
      obtain ⟨Y, hY⟩ : ∃ Y, wr.alloc (.cells #[.int .i64 P, .int .i64 L0, .int .i64 L1, .int .i64 C0, .int .i64 C1] 68) = Y := ⟨_, rfl⟩
      have hR : RowIs Y wr.heap.size #[.int .i64 P, .int .i64 L0, .int .i64 L1, .int .i64 C0, .int .i64 C1] 68 := by rw [← hY]; exact heap_new_at _ _ _ rfl
      have r0 : Y.cell? ⟨wr.heap.size, 0, none⟩ = some (.int .i64 P) := hR.cell 0
      have r1 : Y.cell? ⟨wr.heap.size, 1, none⟩ = some (.int .i64 L0) := hR.cell 1
      have r2 : Y.cell? ⟨wr.heap.size, 2, none⟩ = some (.int .i64 L1) := hR.cell 2
      have r3 : Y.cell? ⟨wr.heap.size, 3, none⟩ = some (.int .i64 C0) := hR.cell 3
      have r4 : Y.cell? ⟨wr.heap.size, 4, none⟩ = some (.int .i64 C1) := hR.cell 4
      have hYz : wr.heap.size < Y.heap.size := (Array.getElem?_eq_some_iff.1 hR).1
      have hBY : Below w.heap.size w Y := by rw [← hY]; exact Below.alloc1 HB.out _ (Nat.le_refl _)
      have hOY := Hown.out.alloc (.cells #[.int .i64 P, .int .i64 L0, .int .i64 L1, .int .i64 C0, .int .i64 C1] 68)
      rw [hY] at hOY
      have HBY := Lib.hid hBY
      have HOY := Lib.hid hOY
      have w1' : IntKind.i64.wrap (L1 - L0) = L1 - L0 := IntWalk.i64_in _ (by omega)
      have w2' : IntKind.i64.wrap (L1 - L0 + 1) = L1 - L0 + 1 := IntWalk.i64_in _ (by omega)
      have w3' : IntKind.i64.wrap (C1 - C0) = C1 - C0 := IntWalk.i64_in _ (by omega)
      have w4' : IntKind.i64.wrap (C1 - C0 + 1) = C1 - C0 + 1 := IntWalk.i64_in _ (by omega)
      have wx : wrap64 x = x := IntWalk.wrap64_in _ ⟨by omega, by omega⟩
      have hx7' : x.tdiv 7 ≤ 65535 := by rw [Int.tdiv_eq_ediv_of_nonneg (by omega)]; omega
      have wd : wrap64 (x.tdiv 7) = x.tdiv 7 := IntWalk.wrap64_in _ ⟨by omega, by omega⟩
      have wa : wrap64 (L0 + x.tmod (L1 - L0 + 1)) = L0 + x.tmod (L1 - L0 + 1) := IntWalk.wrap64_in _ ⟨by omega, by omega⟩
      have wb : wrap64 (C0 + (x.tdiv 7).tmod (C1 - C0 + 1)) = C0 + (x.tdiv 7).tmod (C1 - C0 + 1) := IntWalk.wrap64_in _ ⟨by omega, by omega⟩
      have z1' : L1 - L0 + 1 ≠ 0 := by omega
      have z2' : C1 - C0 + 1 ≠ 0 := by omega
      clear hx7 hx7' hxk hR hBY hOY hown hB ekm q0 q1 q2 q3 q4 hx hP hL0 hL1 hC0 hC1
      by_cases hl0 : 0 < len
      · have hmm : k % len < len := Nat.mod_lt _ hl0
        have hmod : Int.tmod (k : Int) (len : Int) = ((k % len : Nat) : Int) := rfl
        obtain ⟨bb, off, rfl, hbs, hc⟩ := Cells.at hf (k % len) hmm
        have hck := (HBY.out.cell (p := ⟨bb, off + k % len, none⟩) hbs).trans (hc _ hmm)
        have hfx : f (k % len) = x := by rw [← Hx.out]; unfold mixG; rw [if_pos hl0]
        rw [hfx] at hck
        clear hc
        go_wp2_with fail
        clear hY
        go_quiet (fail)
        simp only [wx, wd]
        have hOV := own_below HOY.out (below_drewN (Below.refl _ Y) nq)
        have hBV := below_drewN HBY.out nq
        have s0 : (Y.drewN nq).cell? ⟨wr.heap.size, 0, none⟩ = some (.int .i64 P) := r0
        have hVz : wr.heap.size < (Y.drewN nq).heap.size := hYz
        clear r0 r1 r2 r3 r4
        generalize Y.drewN nq = V at *
        go_wp2_with fail
        refine (metal_c _ _ _ _ _ _).mono ?_
        rintro e w1 ⟨rfl, hb1⟩
        have hO1 := own_below hOV hb1
        have hB1 := bup hBV hb1
        have hs1 := hB1.size
        clear s0 hOV hBV
        go_wp2_with (at_builtin; refine wpList_append_own _ rfl _ _ 22 rfl w.heap.size 68 i0 (.agg #[.int .i64 0, .int .i64 0, .int .i64 0, .int .i64 0, .int .i64 0]) 5 40 Tryz.underlying22 hi hz0 hz1 hz2 rfl (by decide) _ _ _ rfl (hO1.alloc _) ⟨w1.heap.size, 0, none⟩ 1 1 [.int .i64 P, .int .i64 (L0 + x.tmod (L1 - L0 + 1)), .int .i64 (L0 + x.tmod (L1 - L0 + 1)), .int .i64 (C0 + (x.tdiv 7).tmod (C1 - C0 + 1)), .int .i64 (C0 + (x.tdiv 7).tmod (C1 - C0 + 1))] rfl rfl (World.news_of_block (cs := #[.int .i64 P, .int .i64 (L0 + x.tmod (L1 - L0 + 1)), .int .i64 (L0 + x.tmod (L1 - L0 + 1)), .int .i64 (C0 + (x.tdiv 7).tmod (C1 - C0 + 1)), .int .i64 (C0 + (x.tdiv 7).tmod (C1 - C0 + 1))]) (t := 68) (fr := (0, 0)) (heap_new_at _ _ _ rfl)) (by simp [Value.oneCell']) (by unfold maxLen; omega) (by omega) (by simp; omega) ?_; intro v' w2 hown2 hgr2 _)
        go_roundw
        case rel =>
          refine ⟨k + 1, by omega, by go_num, ?_, (Below.alloc1 hB1 _ (Nat.le_refl _)).grown hgr2 (by simp; omega) (fun j h => (hO1.lt j h).1)⟩
          show w2.ownsRow _ _ _ _ _ (catF (fun i => (knownM len f m i).cells) k ++ (knownM len f m k).cells)
          rw [Ekm.out]
          exact hown2
        case measure => simp [intOf]; omega
      · obtain rfl : len = 0 := by omega
        have hx0 : x = 0 := by rw [← Hx.out]; unfold mixG; rw [if_neg (by omega)]
        subst hx0
        go_wp2_with fail
        clear hY
        go_quiet (fail)
        simp only [Int.zero_tdiv, Int.zero_tmod, Int.add_zero] at Ekm
        have hOV := own_below HOY.out (below_drewN (Below.refl _ Y) nq)
        have hBV := below_drewN HBY.out nq
        have s0 : (Y.drewN nq).cell? ⟨wr.heap.size, 0, none⟩ = some (.int .i64 P) := r0
        have hVz : wr.heap.size < (Y.drewN nq).heap.size := hYz
        clear r0 r1 r2 r3 r4
        generalize Y.drewN nq = V at *
        go_wp2_with fail
        refine (metal_c _ _ _ _ _ _).mono ?_
        rintro e w1 ⟨rfl, hb1⟩
        have hO1 := own_below hOV hb1
        have hB1 := bup hBV hb1
        have hs1 := hB1.size
        clear s0 hOV hBV
        go_wp2_with (at_builtin; refine wpList_append_own _ rfl _ _ 22 rfl w.heap.size 68 i0 (.agg #[.int .i64 0, .int .i64 0, .int .i64 0, .int .i64 0, .int .i64 0]) 5 40 Tryz.underlying22 hi hz0 hz1 hz2 rfl (by decide) _ _ _ rfl (hO1.alloc _) ⟨w1.heap.size, 0, none⟩ 1 1 [.int .i64 P, .int .i64 L0, .int .i64 L0, .int .i64 C0, .int .i64 C0] rfl rfl (World.news_of_block (cs := #[.int .i64 P, .int .i64 L0, .int .i64 L0, .int .i64 C0, .int .i64 C0]) (t := 68) (fr := (0, 0)) (heap_new_at _ _ _ rfl)) (by simp [Value.oneCell']) (by unfold maxLen; omega) (by omega) (by simp; omega) ?_; intro v' w2 hown2 hgr2 _)
        go_roundw
        case rel =>
          refine ⟨k + 1, by omega, by go_num, ?_, (Below.alloc1 hB1 _ (Nat.le_refl _)).grown hgr2 (by simp; omega) (fun j h => (hO1.lt j h).1)⟩
          show w2.ownsRow _ _ _ _ _ (catF (fun i => (knownM 0 f m i).cells) k ++ (knownM 0 f m k).cells)
          rw [Ekm.out]
          exact hown2
        case measure => simp [intOf]; omega
    · obtain rfl : k = n := by omega
      obtain ⟨g, cap', rfl, hgz⟩ := own_form hown hn0
      obtain ⟨hI, hg1, hg2⟩ := metals_of_own hown
      go_wp2
      go_ret
      exact ⟨g, cap', hg1, hg2, rfl, hI, hB⟩

end Go.Proofs.YtehafggcncbnkaaGreat

namespace Go.Proofs.YtehafggcncbnkaaGreat
open Go Go.RowKit

/-- A row of so many numbers. -/
def rowZ (s : Nat) (h : Nat → Int) : Array Value := ((List.range s).map fun i => Value.int .i64 (h i)).toArray
theorem rowZ_get (s : Nat) (h : Nat → Int) (j : Nat) (hj : j < s) : (rowZ s h)[j]? = some (.int .i64 (h j)) := by simp [rowZ, hj]
theorem rowZ_set (s : Nat) (h g : Nat → Int) (j : Nat) (v : Int) (hv : v = g j) (hg : ∀ i, i < s → i ≠ j → g i = h i) : (rowZ s h).setIfInBounds j (.int .i64 v) = rowZ s g := by
  apply Array.ext_getElem?
  intro i
  simp only [rowZ, Array.getElem?_setIfInBounds]
  by_cases e : j = i
  · subst e
    by_cases hj : j < s
    · simp [hj, hv]
    · simp [hj]
  · by_cases hi : i < s
    · simp [e, hi, hg i hi (fun h => e h.symm)]
    · simp [e, hi]
theorem rowZ_upd (s : Nat) (f : Nat → Int) (x : Nat) (v : Int) : (rowZ s f).setIfInBounds x (.int .i64 v) = rowZ s (upd f x v) :=
  rowZ_set s f (upd f x v) x v (by simp [upd]) fun i _ hn => by simp [upd, hn]
theorem make_z : ∀ (s : Nat) (_ : s ≤ 6) (w : World), (Instr.makeSlice 25 (.int .i64 (s : Int)) (.int .i64 (s : Int))).run Tryz.prog w = .ok (.slice (some ⟨w.heap.size, 0, none⟩) s s) (w.alloc (.cells (rowZ s fun _ => 0) 2))
  | 0, _, w => by
    have h : (Instr.makeSlice 25 (.int .i64 0) (.int .i64 0)).run Tryz.prog w = .ok (.slice (some ⟨w.heap.size, 0, none⟩) 0 0) (w.alloc (.cells (rowZ 0 fun _ => 0) 2)) := by kernel_rfl
    exact h
  | 1, _, w => by
    have h : (Instr.makeSlice 25 (.int .i64 1) (.int .i64 1)).run Tryz.prog w = .ok (.slice (some ⟨w.heap.size, 0, none⟩) 1 1) (w.alloc (.cells (rowZ 1 fun _ => 0) 2)) := by kernel_rfl
    exact h
  | 2, _, w => by
    have h : (Instr.makeSlice 25 (.int .i64 2) (.int .i64 2)).run Tryz.prog w = .ok (.slice (some ⟨w.heap.size, 0, none⟩) 2 2) (w.alloc (.cells (rowZ 2 fun _ => 0) 2)) := by kernel_rfl
    exact h
  | 3, _, w => by
    have h : (Instr.makeSlice 25 (.int .i64 3) (.int .i64 3)).run Tryz.prog w = .ok (.slice (some ⟨w.heap.size, 0, none⟩) 3 3) (w.alloc (.cells (rowZ 3 fun _ => 0) 2)) := by kernel_rfl
    exact h
  | 4, _, w => by
    have h : (Instr.makeSlice 25 (.int .i64 4) (.int .i64 4)).run Tryz.prog w = .ok (.slice (some ⟨w.heap.size, 0, none⟩) 4 4) (w.alloc (.cells (rowZ 4 fun _ => 0) 2)) := by kernel_rfl
    exact h
  | 5, _, w => by
    have h : (Instr.makeSlice 25 (.int .i64 5) (.int .i64 5)).run Tryz.prog w = .ok (.slice (some ⟨w.heap.size, 0, none⟩) 5 5) (w.alloc (.cells (rowZ 5 fun _ => 0) 2)) := by kernel_rfl
    exact h
  | 6, _, w => by
    have h : (Instr.makeSlice 25 (.int .i64 6) (.int .i64 6)).run Tryz.prog w = .ok (.slice (some ⟨w.heap.size, 0, none⟩) 6 6) (w.alloc (.cells (rowZ 6 fun _ => 0) 2)) := by kernel_rfl
    exact h
  | n + 7, h, _ => absurd h (by omega)

/-- What put hands back: nothing, or a row of its own. -/
def IsPut (w : World) (n : Nat) (v : Value) : Option (Nat → Int) → Prop
  | none => v = .slice none 0 0
  | some f => ∃ g, v = .slice (some ⟨g, 0, none⟩) n n ∧ RowIs w g (rowZ n f) 2

set_option maxHeartbeats 8000000 in
theorem rput_c (n k ca cp : Nat) (a p : Option Addr) (fa : Nat → Nat) (fp : Nat → Int) (w : World) (ha : Ints w a k fun i => (fa i : Int)) (hp : Ints w p k fp) (hn : n ≤ 6) (hk : k ≤ 3) (hfa : ∀ i, i < k → fa i < n) (hb : ∀ i, i < k → -1099511627776 ≤ fp i ∧ fp i ≤ 1099511627776) :
    Calls Tryz.prog 99 #[.int .i64 n, .slice a k ca, .slice p k cp] w fun e w' => ∃ v, e = .returned v ∧ IsPut w' n v (putR fa fp k) ∧ Below w.heap.size w w' := by
  have mk := make_z n hn
  have HFA := Lib.hid hfa
  have HBP := Lib.hid hb
  clear hfa hb
  obtain ⟨V, hV⟩ : ∃ V, w.alloc (.cells (rowZ n fun _ => 0) 2) = V := ⟨_, rfl⟩
  have SV : RowIs V w.heap.size (rowZ n (putK fa fp 0)) 2 ∧ Below w.heap.size w V := by
    rw [← hV]
    exact ⟨heap_new_at w _ _ rfl, Below.alloc1 (Below.refl _ _) _ (Nat.le_refl _)⟩
  replace SV := Lib.hid SV
  go_enter Tryz.func99, Tryz.ntmps99
  go_wp2
  clear hV mk
  go_loopw [8, 9, 10] (fun lo hi i wr => ∃ j : Nat, j ≤ k ∧ i = .int .i64 j ∧ lo = .int .i64 (lowK fp j) ∧ hi = .int .i64 (highK fp j) ∧ RowIs wr w.heap.size (rowZ n (putK fa fp j)) 2 ∧ Below w.heap.size w wr) (fun _ _ i _ => k - (intOf i).toNat)
  case atStart => exact ⟨0, Nat.zero_le _, rfl, rfl, rfl, SV.out.1, SV.out.2⟩
  case round =>
    obtain ⟨j, hj, rfl, rfl, rfl, hr, hB⟩ := hrel
    have HR := Lib.hid hr
    have HB := Lib.hid hB
    by_cases hlt : j < k
    · obtain ⟨ba, oa, rfl, hbas, -⟩ := Cells.at ha j hlt
      obtain ⟨bp, op, rfl, hbps, -⟩ := Cells.at hp j hlt
      obtain ⟨_, _, e1, -, ca'⟩ := Cells.at (Cells.below ha hB) j hlt
      cases e1
      obtain ⟨_, _, e2, -, cp'⟩ := Cells.at (Cells.below hp hB) j hlt
      cases e2
      have c0 := ca' j hlt
      have c1 := cp' j hlt
      have hx := HFA.out j hlt
      have hy := HBP.out j hlt
      obtain ⟨x, hx0⟩ : ∃ x, fa j = x := ⟨_, rfl⟩
      obtain ⟨y, hy0⟩ : ∃ y, fp j = y := ⟨_, rfl⟩
      simp only [hx0] at c0
      rw [hx0] at hx
      rw [hy0] at c1 hy
      have eL : lowK fp (j + 1) = min (lowK fp j) y := by rw [← hy0]; rfl
      have eH : highK fp (j + 1) = max (highK fp j) y := by rw [← hy0]; rfl
      have eP : putK fa fp (j + 1) = upd (putK fa fp j) x (max y (-y)) := by rw [← hy0, ← hx0]; rfl
      have hwn : IntKind.i64.wrap (-y) = -y := IntWalk.i64_in _ (by omega)
      have EL := Lib.hid eL
      have EH := Lib.hid eH
      have EP := Lib.hid eP
      have hwb : w.heap.size < wr.heap.size := (Array.getElem?_eq_some_iff.1 hr).1
      obtain ⟨l, hl⟩ : ∃ l, lowK fp j = l := ⟨_, rfl⟩
      obtain ⟨h, hh⟩ : ∃ l, highK fp j = l := ⟨_, rfl⟩
      rw [hl] at EL
      rw [hh] at EH
      rw [hl, hh]
      clear hr hB ha hp ca' cp' eL eH eP hx0 hy0 hl hh
      go_wp2
      go_quiet (fail)
      obtain ⟨l', hl'⟩ : ∃ l', min l y = l' := ⟨_, rfl⟩
      obtain ⟨h', hh'⟩ : ∃ h', max h y = h' := ⟨_, rfl⟩
      (try rw [show (if y < l then y else l) = min l y by split <;> omega, show (if h < y then y else h) = max h y by split <;> omega])
      rw [hl', hh']
      have g1 : l' = lowK fp (j + 1) := by rw [EL.out, ← hl']
      have g2 : h' = highK fp (j + 1) := by rw [EH.out, ← hh']
      clear hl' hh'
      have G1 := Lib.hid g1
      have G2 := Lib.hid g2
      clear g1 g2
      have hb1 : Below wr.heap.size wr (wr.drewN nq) := below_drewN (Below.refl _ _) nq
      obtain ⟨W1, hW1⟩ : ∃ W1, wr.drewN nq = W1 := ⟨_, rfl⟩
      rw [hW1] at hb1 ⊢
      have hr1 := RowIs.below HR.out hb1
      have hB1 := HB.out.trans (hb1.mono HB.out.size)
      have d0 := (hb1.cell (p := ⟨ba, oa + j, none⟩) (Nat.lt_of_lt_of_le hbas HB.out.size)).trans c0
      have d1 := (hb1.cell (p := ⟨bp, op + j, none⟩) (Nat.lt_of_lt_of_le hbps HB.out.size)).trans c1
      have q0 : W1.cell? ⟨w.heap.size, x, none⟩ = some (.int .i64 (putK fa fp j x)) := (RowIs.cell hr1 x).trans (rowZ_get _ _ x hx)
      have q1 : W1.frozen? ⟨w.heap.size, x, none⟩ = false := RowIs.frozen hr1 x
      obtain ⟨X, hX⟩ : ∃ X, (W1.setCell ⟨w.heap.size, x, none⟩ (.int .i64 (max y (-y)))).drew = X := ⟨_, rfl⟩
      have hBX : Below w.heap.size w X := by rw [← hX]; exact (Below.setCell hB1 (p := ⟨w.heap.size, x, none⟩) (Nat.le_refl _) _).drew
      have x1 : RowIs X w.heap.size (rowZ n (putK fa fp (j + 1))) 2 := by
        rw [← hX, EP.out, ← rowZ_upd]
        exact RowIs.drew (RowIs.set hr1 x _)
      have X1 := Lib.hid x1
      clear hW1 c0 c1 hr1 hB1 hb1 x1
      go_wp2
      go_region
      go_wp2
      go_roundw
      case rel => exact ⟨j + 1, by omega, by go_num, by rw [G1.out], by rw [G2.out], X1.out, hBX⟩
      case measure => simp [intOf]; omega
    · obtain rfl : j = k := by omega
      have hlw := low_le0 fp j
      have hhg := high_ge0 fp j
      have hcase : putB fp j = true ∨ putB fp j = false := by cases putB fp j <;> simp
      obtain ⟨l, hl⟩ : ∃ l, lowK fp j = l := ⟨_, rfl⟩
      obtain ⟨h, hh⟩ : ∃ l, highK fp j = l := ⟨_, rfl⟩
      have hpb : putB fp j = decide ((l < 0 ∧ 0 < h) ∨ (l = 0 ∧ h = 0)) := by unfold putB; rw [hl, hh]
      rw [hl] at hlw ⊢
      rw [hh] at hhg ⊢
      clear hr hB ha hp
      by_cases e1 : l < 0
      · have t1 : decide (l < 0) = true := decide_eq_true e1
        have t1' : (l == 0) = false := by simp; omega
        by_cases e2 : 0 < h
        · have t2 : decide (0 < h) = true := decide_eq_true e2
          have hb : putB fp j = true := by rw [hpb]; exact decide_eq_true (.inl ⟨e1, e2⟩)
          go_wp2
          go_ret
          exact ⟨_, rfl, by unfold putR; rw [if_pos hb]; rfl, HB.out⟩
        · have t2 : decide (0 < h) = false := decide_eq_false e2
          have hb : putB fp j = false := by rw [hpb]; exact decide_eq_false (by omega)
          go_wp2
          go_ret
          exact ⟨_, rfl, by unfold putR; rw [if_neg (by rw [hb]; simp)]; exact ⟨_, rfl, HR.out⟩, HB.out⟩
      · have t1 : decide (l < 0) = false := decide_eq_false e1
        have t1' : (l == 0) = true := by simp; omega
        by_cases e2 : 0 < h
        · have t2 : (h == 0) = false := by simp; omega
          have hb : putB fp j = false := by rw [hpb]; exact decide_eq_false (by omega)
          go_wp2
          go_ret
          exact ⟨_, rfl, by unfold putR; rw [if_neg (by rw [hb]; simp)]; exact ⟨_, rfl, HR.out⟩, HB.out⟩
        · have t2 : (h == 0) = true := by simp; omega
          have hb : putB fp j = true := by rw [hpb]; exact decide_eq_true (by omega)
          go_wp2
          go_ret
          exact ⟨_, rfl, by unfold putR; rw [if_pos hb]; rfl, HB.out⟩

end Go.Proofs.YtehafggcncbnkaaGreat

namespace Go.Proofs.YtehafggcncbnkaaGreat
open Go Go.RowKit

theorem infoMixes : (Tryz.prog.info? 25).map (fun i => (i.zero, i.size, i.bytes)) = some (some (.slice none 0 0), 1, 24) := by kernel_rfl

/-- A row of slices of its own, from block B on, whose entries are what L says. -/
def EdgesAt (w : World) (B n : Nat) (v : Value) (L : List (Option (Nat → Int))) : Prop :=
  ∃ hs : List Value, w.ownsRow B 25 1 v L.length hs ∧ ∀ t, t < L.length → ∃ u, hs[t]? = some u ∧ IsPut w n u (L.getD t none)

theorem IsPut.below {w w' : World} {n : Nat} {v : Value} {o : Option (Nat → Int)} (h : IsPut w n v o) (hb : Below w.heap.size w w') : IsPut w' n v o := by
  cases o with
  | none => exact h
  | some f =>
    obtain ⟨g, e, hr⟩ := h
    exact ⟨g, e, RowIs.below hr hb⟩
theorem IsPut.form {w : World} {n : Nat} {v : Value} {o : Option (Nat → Int)} (h : IsPut w n v o) : ∃ ad k c, v = .slice ad k c := by
  cases o with
  | none => exact ⟨_, _, _, h⟩
  | some f =>
    obtain ⟨g, e, _⟩ := h
    exact ⟨_, _, _, e⟩
theorem IsPut.grown {w w' : World} {B n N : Nat} {v u : Value} {hs : List Value} {o : Option (Nat → Int)} (h : IsPut w n u o) (hown : w.ownsRow B 25 1 v N hs) (hg : w.grownBy w' v.ownBlock) : IsPut w' n u o := by
  cases o with
  | none => exact h
  | some f =>
    obtain ⟨g, e, hr⟩ := h
    refine ⟨g, e, ?_⟩
    have hlt := (Array.getElem?_eq_some_iff.1 hr).1
    have hne : some g ≠ v.ownBlock := fun he => by
      rcases hown.2 with ⟨hv, _⟩ | ⟨g', cap, cur, hv, _, hh, _⟩
      · rw [hv] at he
        cases he
      · rw [hv] at he
        have hgg : g = g' := Option.some.inj he
        subst hgg
        unfold RowIs at hr
        rw [hr] at hh
        injection hh with hh
        injection hh with _ hh _
        exact absurd hh (by decide)
    show w'.heap[g]? = _
    rw [hg.block g hlt hne]
    exact hr
theorem EdgesAt.below {w w' : World} {B n : Nat} {v : Value} {L : List (Option (Nat → Int))} (h : EdgesAt w B n v L) (hb : Below w.heap.size w w') : EdgesAt w' B n v L := by
  obtain ⟨hs, h1, h2⟩ := h
  exact ⟨hs, own_below h1 hb, fun t ht => by
    obtain ⟨u, e, hu⟩ := h2 t ht
    exact ⟨u, e, hu.below hb⟩⟩
theorem EdgesAt.nil (w : World) (B n : Nat) : EdgesAt w B n (.slice none 0 0) [] := ⟨[], World.ownsRow_nil _ _ _ _, fun t ht => by simp at ht⟩
theorem EdgesAt.snoc {w w' : World} {B n : Nat} {v v' u : Value} {L : List (Option (Nat → Int))} {hs : List Value} {o : Option (Nat → Int)} (hown : w.ownsRow B 25 1 v L.length hs) (hin : ∀ t, t < L.length → ∃ u, hs[t]? = some u ∧ IsPut w n u (L.getD t none))
    (hu : IsPut w n u o) (hown2 : w'.ownsRow B 25 1 v' (L.length + 1) (hs ++ [u])) (hg : w.grownBy w' v.ownBlock) : EdgesAt w' B n v' (L ++ [o]) := by
  have hl : hs.length = L.length := by rw [hown.1]; omega
  refine ⟨hs ++ [u], by simpa using hown2, fun t ht => ?_⟩
  simp only [List.length_append, List.length_singleton] at ht
  by_cases e : t < L.length
  · obtain ⟨x, hx, hp⟩ := hin t e
    refine ⟨x, by rw [List.getElem?_append_left (by omega)]; exact hx, ?_⟩
    have : (L ++ [o]).getD t none = L.getD t none := by simp [List.getD, List.getElem?_append_left e]
    rw [this]
    exact hp.grown hown hg
  · obtain rfl : t = L.length := by omega
    refine ⟨u, by rw [List.getElem?_append_right (by omega), hl]; simp, ?_⟩
    have : (L ++ [o]).getD L.length none = o := by simp [List.getD]
    rw [this]
    exact hu.grown hown hg
theorem EdgesAt.snoc2 {w w' : World} {B n : Nat} {v v' u u2 : Value} {L : List (Option (Nat → Int))} {hs : List Value} {o o2 : Option (Nat → Int)} (hown : w.ownsRow B 25 1 v L.length hs) (hin : ∀ t, t < L.length → ∃ u, hs[t]? = some u ∧ IsPut w n u (L.getD t none))
    (hu : IsPut w n u o) (hu2 : IsPut w n u2 o2) (hown2 : w'.ownsRow B 25 1 v' (L.length + 2) (hs ++ [u, u2])) (hg : w.grownBy w' v.ownBlock) : EdgesAt w' B n v' (L ++ [o, o2]) := by
  have hl : hs.length = L.length := by rw [hown.1]; omega
  refine ⟨hs ++ [u, u2], by simpa using hown2, fun t ht => ?_⟩
  simp only [List.length_append, List.length_cons, List.length_nil] at ht
  by_cases e : t < L.length
  · obtain ⟨x, hx, hp⟩ := hin t e
    refine ⟨x, by rw [List.getElem?_append_left (by omega)]; exact hx, ?_⟩
    have : (L ++ [o, o2]).getD t none = L.getD t none := by simp [List.getD, List.getElem?_append_left e]
    rw [this]
    exact hp.grown hown hg
  · by_cases e2 : t = L.length
    · subst e2
      refine ⟨u, by rw [List.getElem?_append_right (by omega), hl]; simp, ?_⟩
      have : (L ++ [o, o2]).getD L.length none = o := by simp [List.getD]
      rw [this]
      exact hu.grown hown hg
    · obtain rfl : t = L.length + 1 := by omega
      refine ⟨u2, by rw [List.getElem?_append_right (by omega), hl]; simp, ?_⟩
      have : (L ++ [o, o2]).getD (L.length + 1) none = o2 := by simp [List.getD]
      rw [this]
      exact hu2.grown hown hg
theorem EdgesAt.form {w : World} {B n : Nat} {v : Value} {L : List (Option (Nat → Int))} (h : EdgesAt w B n v L) : ∃ ad c, v = .slice ad L.length c := by
  obtain ⟨hs, h1, _⟩ := h
  rcases h1.2 with ⟨hv, h0⟩ | ⟨g, cap, _, hv, _⟩
  · exact ⟨none, 0, by rw [hv, h0]⟩
  · exact ⟨_, _, hv⟩
theorem EdgesAt.at {w : World} {B n t : Nat} {v : Value} {L : List (Option (Nat → Int))} (h : EdgesAt w B n v L) (ht : t < L.length) :
    ∃ g c u, v = .slice (some ⟨g, 0, none⟩) L.length c ∧ g < w.heap.size ∧ B ≤ g ∧ w.cell? ⟨g, t, none⟩ = some u ∧ IsPut w n u (L.getD t none) := by
  obtain ⟨hs, h1, h2⟩ := h
  obtain ⟨u, hu, hp⟩ := h2 t ht
  rcases h1.2 with ⟨hv, h0⟩ | ⟨g, cap, _, hv, hB, hh, _⟩
  · omega
  · subst hv
    refine ⟨g, cap, u, rfl, (Array.getElem?_eq_some_iff.1 hh).1, hB, ?_, hp⟩
    rw [h1.cellAt t (by omega)]
    exact hu

/-- A row of numbers, as a slice of it. -/
theorem ints_rowZ {w : World} {b n : Nat} {T : TypeId} {f : Nat → Int} (h : RowIs w b (rowZ n f) T) : Ints w (some ⟨b, 0, none⟩) n f :=
  .inr ⟨b, 0, rfl, (Array.getElem?_eq_some_iff.1 h).1, fun i hi => by rw [Nat.zero_add, RowIs.cell h i]; exact rowZ_get n f i hi⟩
/-- A short list that is written out. -/
theorem ints_lit {w : World} {b k : Nat} {c : Array Value} {T : TypeId} {f : Nat → Int} (h : RowIs w b c T) (hc : ∀ i, i < k → c[i]? = some (.int .i64 (f i))) : Ints w (some ⟨b, 0, none⟩) k f :=
  .inr ⟨b, 0, rfl, (Array.getElem?_eq_some_iff.1 h).1, fun i hi => by rw [Nat.zero_add, RowIs.cell h i]; exact hc i hi⟩

theorem ints_lit1 {w : World} {b : Nat} {x : Int} {T : TypeId} {f : Nat → Int} (h : RowIs w b #[.int .i64 x] T) (h0 : f 0 = x) : Ints w (some ⟨b, 0, none⟩) 1 f := ints_lit h fun i hi => by
  obtain rfl : i = 0 := by omega
  rw [h0]; rfl
theorem ints_lit2 {w : World} {b : Nat} {x y : Int} {T : TypeId} {f : Nat → Int} (h : RowIs w b #[.int .i64 x, .int .i64 y] T) (h0 : f 0 = x) (h1 : f 1 = y) : Ints w (some ⟨b, 0, none⟩) 2 f := ints_lit h fun i hi => by
  have hc : i = 0 ∨ i = 1 := by omega
  rcases hc with rfl | rfl
  · rw [h0]; rfl
  · rw [h1]; rfl
theorem ints_lit3 {w : World} {b : Nat} {x y z : Int} {T : TypeId} {f : Nat → Int} (h : RowIs w b #[.int .i64 x, .int .i64 y, .int .i64 z] T) (h0 : f 0 = x) (h1 : f 1 = y) (h2 : f 2 = z) : Ints w (some ⟨b, 0, none⟩) 3 f := ints_lit h fun i hi => by
  have hc : i = 0 ∨ i = 1 ∨ i = 2 := by omega
  rcases hc with rfl | rfl | rfl
  · rw [h0]; rfl
  · rw [h1]; rfl
  · rw [h2]; rfl

end Go.Proofs.YtehafggcncbnkaaGreat

namespace Go.Proofs.YtehafggcncbnkaaGreat
open Go Go.RowKit

theorem map_getD {α β : Type} (f : α → β) (l : List α) (d : α) (e : β) (t : Nat) (h : t < l.length) : (l.map f).getD t e = f (l.getD t d) := by
  simp [List.getD, List.getElem?_eq_getElem h]
/-- One of the mixtures, as it lies. -/
theorem edges_at {w : World} {B n t : Nat} {v : Value} {L : List (Nat → Int)} (h : EdgesAt w B n v (L.map some)) (ht : t < L.length) :
    ∃ g c b, v = .slice (some ⟨g, 0, none⟩) L.length c ∧ g < w.heap.size ∧ B ≤ g ∧ w.cell? ⟨g, t, none⟩ = some (.slice (some ⟨b, 0, none⟩) n n) ∧ RowIs w b (rowZ n (L.getD t fun _ => 0)) 2 ∧ b < w.heap.size := by
  obtain ⟨g, c, u, hv, hg, hB, hc, hp⟩ := h.at (t := t) (by simpa using ht)
  rw [map_getD some L (fun _ => 0) none t ht] at hp
  obtain ⟨b, hu, hr⟩ := hp
  subst hu
  exact ⟨g, c, b, by simpa using hv, hg, hB, hc, hr, (Array.getElem?_eq_some_iff.1 hr).1⟩
theorem rat_box {a d A D : Int} (ha : 0 ≤ a ∧ a ≤ A) (hd : 0 < d ∧ d ≤ D) : (0 ≤ ratN a d ∧ ratN a d ≤ A) ∧ (0 < ratD a d ∧ ratD a d ≤ D) := by
  obtain ⟨g, hg, e1, e2, _⟩ := rat_parts a hd.1
  have hD := ratD_pos a hd.1
  have hN : 0 ≤ ratN a d := by
    rcases Int.lt_or_le (ratN a d) 0 with h | h
    · have := Int.mul_neg_of_neg_of_pos h hg
      omega
    · exact h
  have h1 := Int.mul_le_mul_of_nonneg_left (show 1 ≤ g from hg) hN
  have h2 := Int.mul_le_mul_of_nonneg_left (show 1 ≤ g from hg) (Int.le_of_lt hD)
  rw [Int.mul_one] at h1 h2
  omega
/-- A fraction that is small enough to be compared. -/
def Tame (x : Int × Int) : Prop := (0 ≤ x.1 ∧ x.1 ≤ 12000000000) ∧ (0 < x.2 ∧ x.2 ≤ 12000000)
theorem tame_mul {x y : Int × Int} (hx : Tame x) (hy : Tame y) : -4611686018427387904 ≤ x.1 * y.2 ∧ x.1 * y.2 ≤ 4611686018427387904 := by
  have := mul_bd hx.1.1 hx.1.2 (Int.le_of_lt hy.2.1) hy.2.2
  omega
theorem minV_tame {v : Nat → Int × Int} {K : Nat} (h : ∀ i, i < K → Tame (v i)) (h0 : 0 < K) : ∀ k, k ≤ K → Tame (minV v k)
  | 0, _ => h 0 h0
  | k + 1, hk => by
    simp only [minV]
    split
    · exact h k (by omega)
    · exact minV_tame h h0 k (by omega)
theorem maxV_tame {v : Nat → Int × Int} {K : Nat} (h : ∀ i, i < K → Tame (v i)) (h0 : 0 < K) : ∀ k, k ≤ K → Tame (maxV v k)
  | 0, _ => h 0 h0
  | k + 1, hk => by
    simp only [maxV]
    split
    · exact h k (by omega)
    · exact maxV_tame h h0 k (by omega)
theorem edge_part {n : Nat} {m : Nat → M5} {l c : Int} (hF : Fine n m) (ht : 0 ≤ l ∧ l ≤ 1000 ∧ 0 ≤ c ∧ c ≤ 1000) {s : Bool} {i : Nat} (hi : i < (edgeL n m l c s).length) :
    (∀ x, 0 ≤ edgeF n m l c s i x ∧ edgeF n m l c s i x ≤ 2000000) ∧ 0 < sumF (edgeF n m l c s i) n ∧ sumF (edgeF n m l c s i) n ≤ 12000000 := by
  obtain ⟨h1, h2, _⟩ := edge_is hF ht (edgeF_mem hi)
  refine ⟨h1, h2, ?_⟩
  have h3 := (sumF_nn (edgeF n m l c s i) 2000000 n fun x _ => h1 x).2
  have := hF.2.1
  omega
theorem edgeCost_tame {n : Nat} {m : Nat → M5} {l c : Int} (hF : Fine n m) (ht : 0 ≤ l ∧ l ≤ 1000 ∧ 0 ≤ c ∧ c ≤ 1000) {s : Bool} (i : Nat) (hi : i < (edgeL n m l c s).length) : Tame (edgeCost n m l c s i) := by
  obtain ⟨h1, h2, h3⟩ := edge_part hF ht hi
  have h4 := sumF_nn (fun x => edgeF n m l c s i x * (m x).p) 2000000000 n fun x hx => by
    have := mul_bd (h1 x).1 (h1 x).2 (hF.2.2 x hx).1 (hF.2.2 x hx).2.1
    omega
  have h6 := hF.2.1
  exact rat_box (a := priceF m (edgeF n m l c s i) n) (A := 12000000000) ⟨h4.1, by unfold priceF; omega⟩ ⟨h2, h3⟩
theorem edgeShare_tame {n : Nat} {m : Nat → M5} {l c : Int} (hF : Fine n m) (ht : 0 ≤ l ∧ l ≤ 1000 ∧ 0 ≤ c ∧ c ≤ 1000) {s : Bool} (k : Nat) (i : Nat) (hi : i < (edgeL n m l c s).length) : Tame (edgeShare n m l c s k i) := by
  obtain ⟨h1, h2, h3⟩ := edge_part hF ht hi
  exact rat_box (a := edgeF n m l c s i k) (A := 12000000000) ⟨(h1 k).1, by have := (h1 k).2; omega⟩ ⟨h2, h3⟩

end Go.Proofs.YtehafggcncbnkaaGreat
