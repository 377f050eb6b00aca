/- The frame of the rows: how a metal opens. -/
import Derived.Test.YtehafggcncbnkaaGreatProg
import Derived.Test.YtehafggcncbnkaaGreatBasaa
import Derived.Test.YtehafggcncbnkaaGreatBasax
import Derived.ProofKit
import Derived.OpenShut
import Derived.Deep.Slices
import Derived.Deep.RegionHeld
import Derived.Lib.SmallJoins
import Derived.WalkKit
import Derived.Test.YtehafggcncbnkaaGreatBasai
import Derived.Test.YtehafggcncbnkaaGreatBasak
import Derived.Test.YtehafggcncbnkaaGreatBasao
import Derived.Test.YtehafggcncbnkaaGreatBasas
namespace Go.Proofs.YtehafggcncbnkaaGreat
open Go Go.RowKit Go.ChangeShapes Go.WideShapes Go.Deep Go.Joins

section
variable {H : Type} {enc : TypeId × Value → H} {W : World} {sp : Nat → Bool}

set_option maxRecDepth 100000 in
theorem open_metal {r : Reach} {base : Nat} {v : Value} {d : DataW H} {p : List MemPlace} (hok : Value.okWide Tryz.prog W r base 68 v) (h : DataW.Trod enc Tryz.prog W 0 sp true 68 v d p) :
    ∃ q : M5, v = .agg #[.int .i64 q.p, .int .i64 q.l0, .int .i64 q.l1, .int .i64 q.c0, .int .i64 q.c1] := by
  obtain ⟨cs, rfl, hsz⟩ := okWide_struct Tryz.underlying68 hok
  obtain ⟨fuel, hf⟩ := h
  obtain ⟨ys, n', _, _, _, hyl, hfs⟩ := DataW.trod_struct Tryz.underlying68 hf
  have f0 := hfs 0 _ rfl
  have f1 := hfs 1 _ rfl
  have f2 := hfs 2 _ rfl
  rw [cellsM] at hsz
  obtain ⟨l⟩ := cs
  match l, hsz, ys, hyl with
  | [c0, c1, c2, c3, c4], _, [y0, y1, y2], _ =>
    simp [cells64, cellsR, Value.cells] at f0 f1 f2
    obtain ⟨p, hp, _, _⟩ := DataW.trod_int Tryz.underlying2 f0
    obtain ⟨l0, l1, h1, h2⟩ := content_cells f1
    obtain ⟨c0', c1', h3, h4⟩ := content_cells f2
    simp at hp
    subst hp h1 h2 h3 h4
    exact ⟨⟨p, l0, l1, c0', c1'⟩, rfl⟩
end
end Go.Proofs.YtehafggcncbnkaaGreat

namespace Go.Proofs.YtehafggcncbnkaaGreat
open Go Go.RowKit

def knownM (len : Nat) (f : Nat → Int) (m : Nat → M5) (i : Nat) : M5 :=
  ⟨(m i).p, (m i).l0 + (mixG len f i).tmod ((m i).l1 - (m i).l0 + 1), (m i).l0 + (mixG len f i).tmod ((m i).l1 - (m i).l0 + 1),
    (m i).c0 + ((mixG len f i).tdiv 7).tmod ((m i).c1 - (m i).c0 + 1), (m i).c0 + ((mixG len f i).tdiv 7).tmod ((m i).c1 - (m i).c0 + 1)⟩

theorem infoMetal : (Tryz.prog.info? 68).map (fun i => (i.zero, i.size, i.bytes)) = some (some (.agg #[.int .i64 0, .int .i64 0, .int .i64 0, .int .i64 0, .int .i64 0]), 5, 40) := by kernel_rfl

def M5.cells (q : M5) : List Value := [.int .i64 q.p, .int .i64 q.l0, .int .i64 q.l1, .int .i64 q.c0, .int .i64 q.c1]
theorem metals_of_own {w : World} {base : Nat} {e : TypeId} {g n cap : Nat} {q : Nat → M5} (h : w.ownsRow base e 5 (.slice (some ⟨g, 0, none⟩) n cap) n (catF (fun i => (q i).cells) n)) : Metals w (some ⟨g, 0, none⟩) n q ∧ base ≤ g ∧ g < w.heap.size := by
  have hg : base ≤ g ∧ g < w.heap.size := by
    rcases h.2 with ⟨hv, _⟩ | ⟨g', cap', cur, hv, hb, hh, _⟩
    · cases hv
    · cases hv
      exact ⟨hb, (Array.getElem?_eq_some_iff.1 hh).1⟩
  refine ⟨.inr ⟨g, 0, rfl, hg.2, fun i hi => ?_⟩, hg⟩
  have key : ∀ j, j < 5 → w.cell? ⟨g, 0 + i * 5 + j, none⟩ = ((q i).cells)[j]? := fun j hj => by
    have h1 : i * 5 + j < n * 5 := by omega
    have := h.cellAt (i * 5 + j) h1
    rw [catF_get (fun i => (q i).cells) 5 (fun i => rfl) i j hj n hi] at this
    rw [Nat.zero_add]
    exact this
  exact ⟨key 0 (by omega), key 1 (by omega), key 2 (by omega), key 3 (by omega), key 4 (by omega)⟩

theorem own_below {w w' : World} {base : Nat} {e : TypeId} {size n : Nat} {v : Value} {xs : List Value} (h : w.ownsRow base e size v n xs) (hb : Below w.heap.size w w') : w'.ownsRow base e size v n xs := by
  refine ⟨h.1, ?_⟩
  rcases h.2 with h2 | ⟨g, cap, cur, hv, hbg, hg, h3⟩
  · exact .inl h2
  · exact .inr ⟨g, cap, cur, hv, hbg, (hb.block g (Array.getElem?_eq_some_iff.1 hg).1).trans hg, h3⟩

/-- A number of a truth is within its range. -/
theorem truth_bd {a b x : Int} (h : 0 ≤ a ∧ a ≤ b ∧ b ≤ 1000) (hx : 0 ≤ x) : a ≤ a + x.tmod (b - a + 1) ∧ a + x.tmod (b - a + 1) ≤ b := by
  rw [Int.tmod_eq_emod_of_nonneg hx]
  have h1 := Int.emod_nonneg x (show b - a + 1 ≠ 0 by omega)
  have h2 := Int.emod_lt_of_pos x (show 0 < b - a + 1 by omega)
  omega

set_option maxRecDepth 100000 in
set_option maxHeartbeats 4000000 in
theorem known_c (a b : Option Addr) (n cap len cap2 : Nat) (m : Nat → M5) (f : Nat → Int) (w : World) (hm : Metals w a n m) (hF : Fine n m) (hf : Shorts w b len f) (hl : len ≤ 20) (hb : ∀ i, i < len → 0 ≤ f i ∧ f i ≤ 65535) :
    Calls Tryz.prog 47 #[.slice a n cap, .slice b len cap2] w fun e w' => ∃ g cap', w.heap.size ≤ g ∧ g < w'.heap.size ∧ e = .returned (.slice (some ⟨g, 0, none⟩) n cap') ∧ Metals w' (some ⟨g, 0, none⟩) n (knownM len f m) ∧ Below w.heap.size w w' := by
  obtain ⟨i0, hi, hz0, hz1, hz2⟩ := info_parts infoMetal
  have Hb := Lib.hid hb
  have HF := Lib.hid hF
  have hn0 : 0 < n := by have := hF.1; omega
  have hn6 : n ≤ 6 := hF.2.1
  clear hb hF
  go_enter Tryz.func47, Tryz.ntmps47
  go_wp2
  go_loopw [5, 6] (fun v i wr => ∃ k : Nat, k ≤ n ∧ i = .int .i64 k ∧ wr.ownsRow w.heap.size 68 5 v k (catF (fun i => (knownM len f m i).cells) k) ∧ Below w.heap.size w wr) (fun _ i _ => n - (intOf i).toNat)
  case atStart => exact ⟨0, Nat.zero_le _, rfl, World.ownsRow_nil _ _ _ _, Below.refl _ _⟩
  case round =>
    obtain ⟨k, hk, rfl, hown, hB⟩ := hrel
    have hBs := hB.size
    by_cases hlt : k < n
    · obtain ⟨bm, om, rfl, hbms, q0, q1, q2, q3, q4⟩ := Metals.at hm k hlt
      have d0 := (hB.cell (p := ⟨bm, om + k * 5, none⟩) hbms).trans q0
      have d1 := (hB.cell (p := ⟨bm, om + k * 5 + 1, none⟩) hbms).trans q1
      have d2 := (hB.cell (p := ⟨bm, om + k * 5 + 2, none⟩) hbms).trans q2
      have d3 := (hB.cell (p := ⟨bm, om + k * 5 + 3, none⟩) hbms).trans q3
      have d4 := (hB.cell (p := ⟨bm, om + k * 5 + 4, none⟩) hbms).trans q4
      have hfk := HF.out.2.2 k hlt
      have hxk := mixG_bd (B := 65535) (by omega) Hb.out k
      obtain ⟨x, hx⟩ : ∃ x, mixG len f k = x := ⟨_, rfl⟩
      have tb1 := truth_bd (a := (m k).l0) (b := (m k).l1) (x := x) ⟨hfk.2.2.1, hfk.2.2.2.1, hfk.2.2.2.2.1⟩ (by omega)
      have hx7 : 0 ≤ x.tdiv 7 := Int.tdiv_nonneg (by omega) (by omega)
      have tb2 := truth_bd (a := (m k).c0) (b := (m k).c1) (x := x.tdiv 7) ⟨hfk.2.2.2.2.2.1, hfk.2.2.2.2.2.2.1, hfk.2.2.2.2.2.2.2⟩ hx7
      have ekm : (knownM len f m k).cells = [.int .i64 (m k).p, .int .i64 ((m k).l0 + x.tmod ((m k).l1 - (m k).l0 + 1)), .int .i64 ((m k).l0 + x.tmod ((m k).l1 - (m k).l0 + 1)), .int .i64 ((m k).c0 + (x.tdiv 7).tmod ((m k).c1 - (m k).c0 + 1)), .int .i64 ((m k).c0 + (x.tdiv 7).tmod ((m k).c1 - (m k).c0 + 1))] := by
        unfold M5.cells knownM
        rw [hx]
      have Ekm := Lib.hid ekm
      obtain ⟨P, hP⟩ : ∃ P, (m k).p = P := ⟨_, rfl⟩
      obtain ⟨L0, hL0⟩ : ∃ P, (m k).l0 = P := ⟨_, rfl⟩
      obtain ⟨L1, hL1⟩ : ∃ P, (m k).l1 = P := ⟨_, rfl⟩
      obtain ⟨C0, hC0⟩ : ∃ P, (m k).c0 = P := ⟨_, rfl⟩
      obtain ⟨C1, hC1⟩ : ∃ P, (m k).c1 = P := ⟨_, rfl⟩
      rw [hP] at d0
      rw [hL0] at d1
      rw [hL1] at d2
      rw [hC0] at d3
      rw [hC1] at d4
      rw [hP, hL0, hL1, hC0, hC1] at Ekm
      rw [hL0, hL1] at tb1
      rw [hC0, hC1] at tb2
      rw [hP, hL0, hL1, hC0, hC1] at hfk
      have HB := Lib.hid hB
      have Hown := Lib.hid hown
      have Hx := Lib.hid hx
      obtain ⟨Y, hY⟩ : ∃ Y, wr.alloc (.cells #[.int .i64 P, .int .i64 L0, .int .i64 L1, .int .i64 C0, .int .i64 C1] 68) = Y := ⟨_, rfl⟩
      have hR : RowIs Y wr.heap.size #[.int .i64 P, .int .i64 L0, .int .i64 L1, .int .i64 C0, .int .i64 C1] 68 := by rw [← hY]; exact heap_new_at _ _ _ rfl
      have r0 : Y.cell? ⟨wr.heap.size, 0, none⟩ = some (.int .i64 P) := hR.cell 0
      have r1 : Y.cell? ⟨wr.heap.size, 1, none⟩ = some (.int .i64 L0) := hR.cell 1
      have r2 : Y.cell? ⟨wr.heap.size, 2, none⟩ = some (.int .i64 L1) := hR.cell 2
      have r3 : Y.cell? ⟨wr.heap.size, 3, none⟩ = some (.int .i64 C0) := hR.cell 3
      have r4 : Y.cell? ⟨wr.heap.size, 4, none⟩ = some (.int .i64 C1) := hR.cell 4
      have hYz : wr.heap.size < Y.heap.size := (Array.getElem?_eq_some_iff.1 hR).1
      have hBY : Below w.heap.size w Y := by rw [← hY]; exact Below.alloc1 HB.out _ (Nat.le_refl _)
      have hOY := Hown.out.alloc (.cells #[.int .i64 P, .int .i64 L0, .int .i64 L1, .int .i64 C0, .int .i64 C1] 68)
      rw [hY] at hOY
      have HBY := Lib.hid hBY
      have HOY := Lib.hid hOY
      have w1' : IntKind.i64.wrap (L1 - L0) = L1 - L0 := IntWalk.i64_in _ (by omega)
      have w2' : IntKind.i64.wrap (L1 - L0 + 1) = L1 - L0 + 1 := IntWalk.i64_in _ (by omega)
      have w3' : IntKind.i64.wrap (C1 - C0) = C1 - C0 := IntWalk.i64_in _ (by omega)
      have w4' : IntKind.i64.wrap (C1 - C0 + 1) = C1 - C0 + 1 := IntWalk.i64_in _ (by omega)
      have wx : wrap64 x = x := IntWalk.wrap64_in _ ⟨by omega, by omega⟩
      have hx7' : x.tdiv 7 ≤ 65535 := by rw [Int.tdiv_eq_ediv_of_nonneg (by omega)]; omega
      have wd : wrap64 (x.tdiv 7) = x.tdiv 7 := IntWalk.wrap64_in _ ⟨by omega, by omega⟩
      have wa : wrap64 (L0 + x.tmod (L1 - L0 + 1)) = L0 + x.tmod (L1 - L0 + 1) := IntWalk.wrap64_in _ ⟨by omega, by omega⟩
      have wb : wrap64 (C0 + (x.tdiv 7).tmod (C1 - C0 + 1)) = C0 + (x.tdiv 7).tmod (C1 - C0 + 1) := IntWalk.wrap64_in _ ⟨by omega, by omega⟩
      have z1' : L1 - L0 + 1 ≠ 0 := by omega
      have z2' : C1 - C0 + 1 ≠ 0 := by omega
      clear hx7 hx7' hxk hR hBY hOY hown hB ekm q0 q1 q2 q3 q4 hx hP hL0 hL1 hC0 hC1
      by_cases hl0 : 0 < len
      · have hmm : k % len < len := Nat.mod_lt _ hl0
        have hmod : Int.tmod (k : Int) (len : Int) = ((k % len : Nat) : Int) := rfl
        obtain ⟨bb, off, rfl, hbs, hc⟩ := Cells.at hf (k % len) hmm
        have hck := (HBY.out.cell (p := ⟨bb, off + k % len, none⟩) hbs).trans (hc _ hmm)
        have hfx : f (k % len) = x := by rw [← Hx.out]; unfold mixG; rw [if_pos hl0]
        rw [hfx] at hck
        clear hc
        go_wp2_with fail
        clear hY
        go_quiet (fail)
        simp only [wx, wd]
        have hOV := own_below HOY.out (below_drewN (Below.refl _ Y) nq)
        have hBV := below_drewN HBY.out nq
        have s0 : (Y.drewN nq).cell? ⟨wr.heap.size, 0, none⟩ = some (.int .i64 P) := r0
        have hVz : wr.heap.size < (Y.drewN nq).heap.size := hYz
        clear r0 r1 r2 r3 r4
        generalize Y.drewN nq = V at *
        go_wp2_with fail
        refine (metal_c _ _ _ _ _ _).mono ?_
        rintro e w1 ⟨rfl, hb1⟩
        have hO1 := own_below hOV hb1
        have hB1 := bup hBV hb1
        have hs1 := hB1.size
        clear s0 hOV hBV
        go_wp2_with (at_builtin; refine wpList_append_own _ rfl _ _ 22 rfl w.heap.size 68 i0 (.agg #[.int .i64 0, .int .i64 0, .int .i64 0, .int .i64 0, .int .i64 0]) 5 40 Tryz.underlying22 hi hz0 hz1 hz2 rfl (by decide) _ _ _ rfl (hO1.alloc _) ⟨w1.heap.size, 0, none⟩ 1 1 [.int .i64 P, .int .i64 (L0 + x.tmod (L1 - L0 + 1)), .int .i64 (L0 + x.tmod (L1 - L0 + 1)), .int .i64 (C0 + (x.tdiv 7).tmod (C1 - C0 + 1)), .int .i64 (C0 + (x.tdiv 7).tmod (C1 - C0 + 1))] rfl rfl (World.news_of_block (cs := #[.int .i64 P, .int .i64 (L0 + x.tmod (L1 - L0 + 1)), .int .i64 (L0 + x.tmod (L1 - L0 + 1)), .int .i64 (C0 + (x.tdiv 7).tmod (C1 - C0 + 1)), .int .i64 (C0 + (x.tdiv 7).tmod (C1 - C0 + 1))]) (t := 68) (fr := (0, 0)) (heap_new_at _ _ _ rfl)) (by simp [Value.oneCell']) (by unfold maxLen; omega) (by omega) (by simp; omega) ?_; intro v' w2 hown2 hgr2 _)
        go_roundw
        case rel =>
          refine ⟨k + 1, by omega, by go_num, ?_, (Below.alloc1 hB1 _ (Nat.le_refl _)).grown hgr2 (by simp; omega) (fun j h => (hO1.lt j h).1)⟩
          show w2.ownsRow _ _ _ _ _ (catF (fun i => (knownM len f m i).cells) k ++ (knownM len f m k).cells)
          rw [Ekm.out]
          exact hown2
        case measure => simp [intOf]; omega
      · obtain rfl : len = 0 := by omega
        have hx0 : x = 0 := by rw [← Hx.out]; unfold mixG; rw [if_neg (by omega)]
        subst hx0
        go_wp2_with fail
        clear hY
        go_quiet (fail)
        simp only [Int.zero_tdiv, Int.zero_tmod, Int.add_zero] at Ekm
        have hOV := own_below HOY.out (below_drewN (Below.refl _ Y) nq)
        have hBV := below_drewN HBY.out nq
        have s0 : (Y.drewN nq).cell? ⟨wr.heap.size, 0, none⟩ = some (.int .i64 P) := r0
        have hVz : wr.heap.size < (Y.drewN nq).heap.size := hYz
        clear r0 r1 r2 r3 r4
        generalize Y.drewN nq = V at *
        go_wp2_with fail
        refine (metal_c _ _ _ _ _ _).mono ?_
        rintro e w1 ⟨rfl, hb1⟩
        have hO1 := own_below hOV hb1
        have hB1 := bup hBV hb1
        have hs1 := hB1.size
        clear s0 hOV hBV
        go_wp2_with (at_builtin; refine wpList_append_own _ rfl _ _ 22 rfl w.heap.size 68 i0 (.agg #[.int .i64 0, .int .i64 0, .int .i64 0, .int .i64 0, .int .i64 0]) 5 40 Tryz.underlying22 hi hz0 hz1 hz2 rfl (by decide) _ _ _ rfl (hO1.alloc _) ⟨w1.heap.size, 0, none⟩ 1 1 [.int .i64 P, .int .i64 L0, .int .i64 L0, .int .i64 C0, .int .i64 C0] rfl rfl (World.news_of_block (cs := #[.int .i64 P, .int .i64 L0, .int .i64 L0, .int .i64 C0, .int .i64 C0]) (t := 68) (fr := (0, 0)) (heap_new_at _ _ _ rfl)) (by simp [Value.oneCell']) (by unfold maxLen; omega) (by omega) (by simp; omega) ?_; intro v' w2 hown2 hgr2 _)
        go_roundw
        case rel =>
          refine ⟨k + 1, by omega, by go_num, ?_, (Below.alloc1 hB1 _ (Nat.le_refl _)).grown hgr2 (by simp; omega) (fun j h => (hO1.lt j h).1)⟩
          show w2.ownsRow _ _ _ _ _ (catF (fun i => (knownM 0 f m i).cells) k ++ (knownM 0 f m k).cells)
          rw [Ekm.out]
          exact hown2
        case measure => simp [intOf]; omega
    · obtain rfl : k = n := by omega
      obtain ⟨g, cap', rfl, hgz⟩ := own_form hown hn0
      obtain ⟨hI, hg1, hg2⟩ := metals_of_own hown
      go_wp2
      go_ret
      exact ⟨g, cap', hg1, hg2, rfl, hI, hB⟩

end Go.Proofs.YtehafggcncbnkaaGreat
