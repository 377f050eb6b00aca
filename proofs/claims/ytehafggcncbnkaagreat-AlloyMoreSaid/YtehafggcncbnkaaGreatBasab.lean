/- Contracts of package alloy: mixtures that are taken over; their cost, their shares. -/
import Derived.Test.YtehafggcncbnkaaGreatProg
import Derived.Test.YtehafggcncbnkaaGreatBasaa
import Derived.Laws.CopyOwn
namespace Go.Proofs.YtehafggcncbnkaaGreat
open Go.RowKit

def padF (f : Nat → Int) (n : Nat) (i : Nat) : Int := if i < n then f i else 0

theorem one64 : (Tryz.prog.info? 2).map (·.size) = some 1 := by kernel_rfl

theorem pad_splice (f : Nat → Int) (n : Nat) (h : n ≤ 6) :
    splice [Value.int .i64 0, .int .i64 0, .int .i64 0, .int .i64 0, .int .i64 0, .int .i64 0] 0 ((List.range n).map fun i => Value.int .i64 (f i)) =
    [Value.int .i64 (padF f n 0), .int .i64 (padF f n 1), .int .i64 (padF f n 2), .int .i64 (padF f n 3), .int .i64 (padF f n 4), .int .i64 (padF f n 5)] := by
  have : n = 0 ∨ n = 1 ∨ n = 2 ∨ n = 3 ∨ n = 4 ∨ n = 5 ∨ n = 6 := by omega
  rcases this with rfl | rfl | rfl | rfl | rfl | rfl | rfl <;> simp [splice, padF, List.range_succ]

/-- copy of at most six numbers into six cells of one's own. -/
theorem copy6 (w : World) (g : Nat) (b : Option Addr) (n cap : Nat) (f : Nat → Int) (t : TypeId) (hf : Ints w b n f) (hn : n ≤ 6) (hg : RowIs w g #[.int .i64 0, .int .i64 0, .int .i64 0, .int .i64 0, .int .i64 0, .int .i64 0] t) :
    ∃ w', (Builtin.copy_ #[25, 25] 3 #[.slice (some ⟨g, 0, none⟩) 6 6, .slice b n cap]).run Tryz.prog w = .ok (.int .i64 n) w' ∧
      RowIs w' g #[.int .i64 (padF f n 0), .int .i64 (padF f n 1), .int .i64 (padF f n 2), .int .i64 (padF f n 3), .int .i64 (padF f n 4), .int .i64 (padF f n 5)] t ∧ Below g w w' := by
  have hs := pad_splice f n hn
  have hmin : Nat.min n 6 = n := by show min n 6 = n; omega
  by_cases h0 : n = 0
  · subst h0
    refine ⟨w, run_copy_none (P := Tryz.prog) w _ _ _ _ _ _ _ _ _ _ Tryz.underlying25 one64 (by simp), ?_, Below.refl _ _⟩
    simpa [padF] using hg
  · obtain ⟨bb, off, rfl, hbs, hc⟩ := Cells.at hf 0 (by omega)
    have := run_copy_row (P := Tryz.prog) w 25 25 3 2 g 0 6 6 ⟨bb, off, none⟩ n cap #[.int .i64 0, .int .i64 0, .int .i64 0, .int .i64 0, .int .i64 0, .int .i64 0] t ((List.range n).map fun i => Value.int .i64 (f i)) Tryz.underlying25 one64 hg (by simp [hmin])
      (fun j v hv => by
        simp only [List.getElem?_map, Option.map_eq_some_iff] at hv
        obtain ⟨i, hi, rfl⟩ := hv
        have hj : j < n := by
          have := (List.getElem?_eq_some_iff.1 hi).1
          simpa using this
        have hij : i = j := by
          rw [List.getElem?_range hj] at hi
          exact (Option.some.inj hi).symm
        subst hij
        have := hc i hj
        unfold Addr.add
        split
        · simp_all
        · exact this)
      (by simp; omega) (by simp [Value.oneCell'])
    have hr := setRow_heap w g _ ((#[Value.int .i64 0, .int .i64 0, .int .i64 0, .int .i64 0, .int .i64 0, .int .i64 0].toList.take 0 ++ ((List.range n).map fun i => Value.int .i64 (f i)) ++ #[Value.int .i64 0, .int .i64 0, .int .i64 0, .int .i64 0, .int .i64 0, .int .i64 0].toList.drop (0 + ((List.range n).map fun i => Value.int .i64 (f i)).length)).toArray) t (0, 0) hg
    have hlen : ((List.range n).map fun i => Value.int .i64 (f i)).length = n := by simp
    refine ⟨_, this.trans ?_, hr.trans ?_, below_setRow (Below.refl _ _) (Nat.le_refl _) _⟩
    · rw [hlen]; rfl
    · simp only [splice] at hs
      rw [List.append_assoc, hs]

set_option maxRecDepth 100000 in
set_option maxHeartbeats 1000000 in
theorem takeOver_c (b : Option Addr) (n cap : Nat) (f : Nat → Int) (w : World) (hf : Ints w b n f) (hn : n ≤ 6) :
    Calls Tryz.prog 59 #[.slice b n cap] w fun r w' => r = .returned (mixV (padF f n)) ∧ Below w.heap.size w w' := by
  have hB : Below w.heap.size w ((w.alloc (.cells #[.int .i64 0, .int .i64 0, .int .i64 0, .int .i64 0, .int .i64 0, .int .i64 0] 88)).alloc (.cells #[.int .i64 0, .int .i64 0, .int .i64 0, .int .i64 0, .int .i64 0, .int .i64 0] 88)) := ((Below.refl _ _).alloc (Nat.le_refl _) _).alloc (by simp) _
  obtain ⟨w1, hrun, hrow, hb1⟩ := copy6 _ (w.heap.size + 1) b n cap f 88 (hf.below hB) hn (heap_new_at _ _ _ (by simp))
  have Hrun := Lib.hid hrun
  clear hrun
  have hres : RowIs w1 w.heap.size #[.int .i64 0, .int .i64 0, .int .i64 0, .int .i64 0, .int .i64 0, .int .i64 0] 88 := by
    rw [RowIs, hb1.block _ (by omega)]
    exact RowIs.alloc (heap_new_at _ _ _ rfl) _
  have r0 := hres.cell 0
  have r1 := hres.cell 1
  have r2 := hres.cell 2
  have r3 := hres.cell 3
  have r4 := hres.cell 4
  have r5 := hres.cell 5
  simp at r0 r1 r2 r3 r4 r5
  have z0 := hres.frozen 0
  have z1 := hres.frozen 1
  have z2 := hres.frozen 2
  have z3 := hres.frozen 3
  have z4 := hres.frozen 4
  have z5 := hres.frozen 5
  have Hres := Lib.hid hres
  clear hres
  have t0 := hrow.cell 0
  have t1 := hrow.cell 1
  have t2 := hrow.cell 2
  have t3 := hrow.cell 3
  have t4 := hrow.cell 4
  have t5 := hrow.cell 5
  simp at t0 t1 t2 t3 t4 t5
  have Hrow := Lib.hid hrow
  clear hrow hf
  go_enter Tryz.func59, Tryz.ntmps59
  go_wp2_with fail
  rw [Hrun.out]
  go_wp2_with fail
  have hfin := (((((Hres.out.set 0 (.int .i64 (padF f n 0))).set 1 (.int .i64 (padF f n 1))).set 2 (.int .i64 (padF f n 2))).set 3 (.int .i64 (padF f n 3))).set 4 (.int .i64 (padF f n 4))).set 5 (.int .i64 (padF f n 5))
  have hT : Below w.heap.size w w1 := hB.trans (hb1.mono (by omega))
  have hbel : Below w.heap.size w ((((((w1.setCell ⟨w.heap.size, 0, none⟩ (.int .i64 (padF f n 0))).setCell ⟨w.heap.size, 1, none⟩ (.int .i64 (padF f n 1))).setCell ⟨w.heap.size, 2, none⟩ (.int .i64 (padF f n 2))).setCell ⟨w.heap.size, 3, none⟩ (.int .i64 (padF f n 3))).setCell ⟨w.heap.size, 4, none⟩ (.int .i64 (padF f n 4))).setCell ⟨w.heap.size, 5, none⟩ (.int .i64 (padF f n 5))) := by
    exact (((((hT.setCell (Nat.le_refl _) _).setCell (Nat.le_refl _) _).setCell (Nat.le_refl _) _).setCell (Nat.le_refl _) _).setCell (Nat.le_refl _) _).setCell (Nat.le_refl _) _
  refine bodyPost_ret (v := mixV (padF f n)) ?_ rfl ⟨rfl, hbel⟩
  revert hfin
  generalize ((((((w1.setCell ⟨w.heap.size, 0, none⟩ (.int .i64 (padF f n 0))).setCell ⟨w.heap.size, 1, none⟩ (.int .i64 (padF f n 1))).setCell ⟨w.heap.size, 2, none⟩ (.int .i64 (padF f n 2))).setCell ⟨w.heap.size, 3, none⟩ (.int .i64 (padF f n 3))).setCell ⟨w.heap.size, 4, none⟩ (.int .i64 (padF f n 4))).setCell ⟨w.heap.size, 5, none⟩ (.int .i64 (padF f n 5))) = wf
  intro hfin
  have hfin' : RowIs wf w.heap.size #[.int .i64 (padF f n 0), .int .i64 (padF f n 1), .int .i64 (padF f n 2), .int .i64 (padF f n 3), .int .i64 (padF f n 4), .int .i64 (padF f n 5)] 88 := by simpa using hfin
  have y0 := hfin'.cell 0
  have y1 := hfin'.cell 1
  have y2 := hfin'.cell 2
  have y3 := hfin'.cell 3
  have y4 := hfin'.cell 4
  have y5 := hfin'.cell 5
  simp at y0 y1 y2 y3 y4 y5
  simp [results, Tryz.results59, go_sem, y0, y1, y2, y3, y4, y5]

end Go.Proofs.YtehafggcncbnkaaGreat

namespace Go.Proofs.YtehafggcncbnkaaGreat
open Go.RowKit

theorem grown_below {w w1 : World} {t B : Nat} (h : w.grownBy w1 (some t)) (hB : B ≤ t) (hBs : B ≤ w.heap.size) : Below B w w1 :=
  ⟨h.os, h.tape, h.output, h.size, fun k hk => h.block k (by omega) (by intro e; cases e; omega)⟩

theorem unitSum_bd {n : Nat} {u : Nat → U4} {f : Nat → Int} (hf : ∀ i, i < 6 → 0 ≤ f i ∧ f i ≤ 2147483648) (hn : n ≤ 6) (c : U4 → Int) (hc : ∀ i, i < n → 0 ≤ c (u i) ∧ c (u i) ≤ 1000) : 0 ≤ unitSum u f n c ∧ unitSum u f n c ≤ 12884901888000 := by
  have := sumF_nn (fun i => f i * c (u i)) 2147483648000 n fun i hi => by
    have h1 := hf i (by omega)
    have h2 := hc i hi
    have := mul_bd h1.1 h1.2 h2.1 h2.2
    omega
  unfold unitSum
  omega

set_option maxRecDepth 100000 in
set_option maxHeartbeats 1000000 in
theorem cost_c (a : Option Addr) (n cap : Nat) (u : Nat → U4) (f : Nat → Int) (w : World) (hu : Units w a n u) (hS : Small n u) (hf : ∀ i, i < 6 → 0 ≤ f i ∧ f i ≤ 2147483648) (hq : 0 < unitSum u f n (·.q)) :
    Calls Tryz.prog 58 #[.agg #[.slice a n cap], mixV f] w fun r w' => r = .returned (ratV (unitSum u f n (·.p)) (unitSum u f n (·.q))) ∧ Below w.heap.size w w' := by
  have hn := hS.1
  have hbq := unitSum_bd hf hn (·.q) fun i hi => (hS.2 i hi).1
  have hbp := unitSum_bd hf hn (·.p) fun i hi => (hS.2 i hi).2.1
  have hua : ∀ b off, a = some ⟨b, off, none⟩ → 0 < n → b < w.heap.size := fun b off e h0 => by
    obtain ⟨b', o', e', hb', _⟩ := Units.at hu 0 h0
    rw [e] at e'
    cases e'
    exact hb'
  have HU := Lib.hid hu
  have HS := Lib.hid hS
  have HF := Lib.hid hf
  clear hu hS hf
  go_enter Tryz.func58, Tryz.ntmps58
  go_wp2_with fail
  obtain ⟨W, hW⟩ : ∃ W, ((((w.alloc (.cells #[.slice a n cap] 83)).alloc (.cells #[.int .i64 (f 0), .int .i64 (f 1), .int .i64 (f 2), .int .i64 (f 3), .int .i64 (f 4), .int .i64 (f 5)] 88)).alloc (.cells #[.int .i64 0, .int .i64 0] 29)).alloc (.cells #[.int .i64 0, .int .i64 0, .int .i64 0, .int .i64 0] 92)) = W := ⟨_, rfl⟩
  have hB : Below w.heap.size w W := by
    rw [← hW]
    exact ((((Below.refl _ _).alloc (Nat.le_refl _) _).alloc (by simp) _).alloc (by simp; omega) _).alloc (by simp; omega) _
  have ht : RowIs W (w.heap.size + 1 + 1 + 1) #[.int .i64 0, .int .i64 0, .int .i64 0, .int .i64 0] 92 := by rw [← hW]; exact heap_new_at _ _ _ (by simp)
  have hr : RowIs W (w.heap.size + 1 + 1) #[.int .i64 0, .int .i64 0] 29 := by rw [← hW]; exact RowIs.alloc (heap_new_at _ _ _ (by simp)) _
  have hz : W.heap.size = w.heap.size + 4 := by rw [← hW]; simp
  rw [hW]
  clear hW
  refine (weigh_c a n cap (w.heap.size + 1 + 1 + 1) u f _ _ _ _ 92 W (HU.out.below hB) HS.out HF.out ht ?_).mono ?_
  · intro b off e
    rcases Nat.eq_zero_or_pos n with h0 | h0
    · subst h0; simp [unitSum, sumF] at hq
    · have := hua b off e h0
      omega
  rintro e w1 ⟨rfl, hrow, hg⟩
  have t0 : w1.cell? ⟨w.heap.size + 1 + 1 + 1, 0, none⟩ = some (.int .i64 (unitSum u f n (·.q))) := by rw [hrow.cell 0]; rfl
  have t1 : w1.cell? ⟨w.heap.size + 1 + 1 + 1, 1, none⟩ = some (.int .i64 (unitSum u f n (·.p))) := by rw [hrow.cell 1]; rfl
  have hr1 : RowIs w1 (w.heap.size + 1 + 1) #[.int .i64 0, .int .i64 0] 29 := (hg.block _ (by omega) (by simp)).trans hr
  have hB1 : Below w.heap.size W w1 := grown_below hg (by omega) (by omega)
  have hz1 := hg.size
  have Hr1 := Lib.hid hr1
  have Hrow := Lib.hid hrow
  clear hrow hr1 hr ht hg
  go_wp2_with fail
  refine (ratio_c _ _ _ (by omega) (by omega) hq (by omega)).mono ?_
  rintro e w2 ⟨rfl, hb2⟩
  have hr2 : RowIs w2 (w.heap.size + 1 + 1) #[.int .i64 0, .int .i64 0] 29 := (hb2.block _ (by omega)).trans Hr1.out
  have r0 := hr2.cell 0
  have r1 := hr2.cell 1
  have z0 := hr2.frozen 0
  have z1 := hr2.frozen 1
  simp at r0 r1
  clear t0 t1 hr2
  go_wp2_with fail
  refine bodyPost_ret (v := ratV (unitSum u f n (·.p)) (unitSum u f n (·.q))) (by simp [results, Tryz.results58, go_sem, r0, r1]) rfl ⟨rfl, ?_⟩
  exact (((hB.trans hB1).trans (hb2.mono (by omega))).setCell (p := ⟨w.heap.size + 1 + 1, 0, none⟩) (by show w.heap.size ≤ w.heap.size + 1 + 1; omega) _).setCell (p := ⟨w.heap.size + 1 + 1, 1, none⟩) (by show w.heap.size ≤ w.heap.size + 1 + 1; omega) _

end Go.Proofs.YtehafggcncbnkaaGreat

namespace Go.Proofs.YtehafggcncbnkaaGreat
open Go.RowKit

theorem mix_row {w : World} {b : Nat} {f : Nat → Int} {e : TypeId} (h : RowIs w b #[.int .i64 (f 0), .int .i64 (f 1), .int .i64 (f 2), .int .i64 (f 3), .int .i64 (f 4), .int .i64 (f 5)] e) (k : Nat) (hk : k < 6) : w.cell? ⟨b, k, none⟩ = some (.int .i64 (f k)) := by
  rw [h.cell k]
  match k, hk with
  | 0, _ => rfl
  | 1, _ => rfl
  | 2, _ => rfl
  | 3, _ => rfl
  | 4, _ => rfl
  | 5, _ => rfl

theorem units_lt {w : World} {a : Option Addr} {n : Nat} {u : Nat → U4} (h : Units w a n u) (b off : Nat) (e : a = some ⟨b, off, none⟩) (h0 : 0 < n) : b < w.heap.size := by
  obtain ⟨b', o', e', hb', _⟩ := Units.at h 0 h0
  rw [e] at e'
  cases e'
  exact hb'

set_option maxRecDepth 100000 in
set_option maxHeartbeats 1000000 in
theorem share_c (a : Option Addr) (n cap : Nat) (u : Nat → U4) (f : Nat → Int) (k : Nat) (w : World) (hu : Units w a n u) (hS : Small n u) (hf : ∀ i, i < 6 → 0 ≤ f i ∧ f i ≤ 2147483648) (hq : 0 < unitSum u f n (·.q)) (hk : k < 6) :
    Calls Tryz.prog 87 #[.agg #[.slice a n cap], mixV f, .int .i64 k] w fun r w' => r = .returned (ratV (f k) (unitSum u f n (·.q))) ∧ Below w.heap.size w w' := by
  have hn := hS.1
  have hbq := unitSum_bd hf hn (·.q) fun i hi => (hS.2 i hi).1
  have hfk := hf k hk
  have hua := units_lt hu
  have HU := Lib.hid hu
  have HS := Lib.hid hS
  have HF := Lib.hid hf
  clear hu hS hf
  go_enter Tryz.func87, Tryz.ntmps87
  go_wp2_with fail
  obtain ⟨W, hW⟩ : ∃ W, ((((w.alloc (.cells #[.slice a n cap] 83)).alloc (.cells #[.int .i64 (f 0), .int .i64 (f 1), .int .i64 (f 2), .int .i64 (f 3), .int .i64 (f 4), .int .i64 (f 5)] 88)).alloc (.cells #[.int .i64 0, .int .i64 0] 29)).alloc (.cells #[.int .i64 0, .int .i64 0, .int .i64 0, .int .i64 0] 92)) = W := ⟨_, rfl⟩
  have hB : Below w.heap.size w W := by
    rw [← hW]
    exact ((((Below.refl _ _).alloc (Nat.le_refl _) _).alloc (by simp) _).alloc (by simp; omega) _).alloc (by simp; omega) _
  have ht : RowIs W (w.heap.size + 1 + 1 + 1) #[.int .i64 0, .int .i64 0, .int .i64 0, .int .i64 0] 92 := by rw [← hW]; exact heap_new_at _ _ _ (by simp)
  have hr : RowIs W (w.heap.size + 1 + 1) #[.int .i64 0, .int .i64 0] 29 := by rw [← hW]; exact RowIs.alloc (heap_new_at _ _ _ (by simp)) _
  have hm : RowIs W (w.heap.size + 1) #[.int .i64 (f 0), .int .i64 (f 1), .int .i64 (f 2), .int .i64 (f 3), .int .i64 (f 4), .int .i64 (f 5)] 88 := by rw [← hW]; exact RowIs.alloc (RowIs.alloc (heap_new_at _ _ _ (by simp)) _) _
  have hz : W.heap.size = w.heap.size + 4 := by rw [← hW]; simp
  rw [hW]
  clear hW
  refine (weigh_c a n cap (w.heap.size + 1 + 1 + 1) u f _ _ _ _ 92 W (HU.out.below hB) HS.out HF.out ht ?_).mono ?_
  · intro b off e
    rcases Nat.eq_zero_or_pos n with h0 | h0
    · subst h0; simp [unitSum, sumF] at hq
    · have := hua b off e h0
      omega
  rintro e w1 ⟨rfl, hrow, hg⟩
  have t0 : w1.cell? ⟨w.heap.size + 1 + 1 + 1, 0, none⟩ = some (.int .i64 (unitSum u f n (·.q))) := by rw [hrow.cell 0]; rfl
  have t1 : w1.cell? ⟨w.heap.size + 1, k, none⟩ = some (.int .i64 (f k)) := mix_row ((hg.block _ (by omega) (by simp)).trans hm) k hk
  have hr1 : RowIs w1 (w.heap.size + 1 + 1) #[.int .i64 0, .int .i64 0] 29 := (hg.block _ (by omega) (by simp)).trans hr
  have hB1 : Below w.heap.size W w1 := grown_below hg (by omega) (by omega)
  have hz1 := hg.size
  have hzz : w.heap.size + 1 + 1 + 1 < w1.heap.size := by omega
  have hzy : w.heap.size + 1 < w1.heap.size := by omega
  have Hr1 := Lib.hid hr1
  have Hz := Lib.hid hz
  clear hrow hr1 hr ht hg hm hz
  have hlc := fun (x : Later w1) => later_cell x
  have hk0 : (0 : Int) ≤ (k : Int) := by omega
  have hk6 : (k : Int) < 6 := by omega
  go_wp2_with fail
  refine wp_region_later_tail 6 (by kernel_rfl) (by kernel_rfl) ?_
  simp only [List.take_succ_cons, List.take_zero, List.drop_succ_cons, List.drop_zero]
  repeat (go_big_quiet_step ((refine calls_later (ratio_c _ _ _ (by omega) (by omega) hq (by omega)))))
  refine wpQuiet_nil ?_
  clear hlc
  rintro ⟨w2, hb2⟩
  have hr2 : RowIs w2 (w.heap.size + 1 + 1) #[.int .i64 0, .int .i64 0] 29 := (hb2.block _ (by omega)).trans Hr1.out
  have r0 := hr2.cell 0
  have r1 := hr2.cell 1
  have z0 := hr2.frozen 0
  have z1 := hr2.frozen 1
  simp at r0 r1
  clear t0 t1 hr2
  go_wp2_with fail
  refine bodyPost_ret (v := ratV (f k) (unitSum u f n (·.q))) (by simp [results, Tryz.results87, go_sem, r0, r1]) rfl ⟨rfl, ?_⟩
  exact (((hB.trans hB1).trans (hb2.mono (by omega))).setCell (p := ⟨w.heap.size + 1 + 1, 0, none⟩) (by show w.heap.size ≤ w.heap.size + 1 + 1; omega) _).setCell (p := ⟨w.heap.size + 1 + 1, 1, none⟩) (by show w.heap.size ≤ w.heap.size + 1 + 1; omega) _

/-- 'a by b is less than c by d'. -/
def ltB (a b c d : Int) : Bool := decide (a * d < c * b)

set_option maxHeartbeats 400000 in
theorem below_c (a b c d : Int) (w : World) (ha : -1152921504606846976 ≤ a * d) (ha' : a * d ≤ 1152921504606846976) (hc : -1152921504606846976 ≤ c * b) (hc' : c * b ≤ 1152921504606846976) :
    Calls Tryz.prog 86 #[.agg #[.int .i64 a, .int .i64 b], .agg #[.int .i64 c, .int .i64 d]] w fun e w' => e = .returned (.bool (ltB a b c d)) ∧ Below w.heap.size w w' := by
  have hw1 : wrap64 (a * d) = a * d := IntWalk.wrap64_in _ ⟨by omega, by omega⟩
  have hw2 : wrap64 (c * b) = c * b := IntWalk.wrap64_in _ ⟨by omega, by omega⟩
  go_enter Tryz.func86, Tryz.ntmps86
  go_wp2
  go_ret
  exact ⟨rfl, ((Below.refl _ _).alloc (Nat.le_refl _) _).alloc (by simp) _⟩

end Go.Proofs.YtehafggcncbnkaaGreat

namespace Go.Proofs.YtehafggcncbnkaaGreat
open Go.RowKit

def potB (u : Nat → U4) (n : Nat) (f : Nat → Int) (l c : Int) : Bool := decide (unitSum u f n (·.l) ≤ unitSum u f n (·.q) * l ∧ unitSum u f n (·.q) * c ≤ unitSum u f n (·.c))

set_option maxRecDepth 100000 in
set_option maxHeartbeats 1000000 in
theorem potDeserves_c (a : Option Addr) (n cap : Nat) (u : Nat → U4) (f : Nat → Int) (q0 p0 l c : Int) (w : World) (hu : Units w a n u) (hS : Small n u) (hf : ∀ i, i < 6 → 0 ≤ f i ∧ f i ≤ 2147483648) (hl : 0 ≤ l ∧ l ≤ 1000) (hc : 0 ≤ c ∧ c ≤ 1000) (hn0 : 0 < n) :
    Calls Tryz.prog 68 #[.agg #[.slice a n cap, .int .i64 q0, .int .i64 p0, .int .i64 l, .int .i64 c], mixV f] w fun r w' => r = .returned (.bool (potB u n f l c)) ∧ Below w.heap.size w w' := by
  have hn := hS.1
  have hbq := unitSum_bd hf hn (·.q) fun i hi => (hS.2 i hi).1
  have hbl := unitSum_bd hf hn (·.l) fun i hi => (hS.2 i hi).2.2.1
  have hbc := unitSum_bd hf hn (·.c) fun i hi => (hS.2 i hi).2.2.2
  have hx1 := mul_bd hbq.1 hbq.2 hl.1 hl.2
  have hx2 := mul_bd hbq.1 hbq.2 hc.1 hc.2
  have hw1 : IntKind.i64.wrap (unitSum u f n (·.q) * l) = unitSum u f n (·.q) * l := IntWalk.i64_in _ (by omega)
  have hw2 : IntKind.i64.wrap (unitSum u f n (·.q) * c) = unitSum u f n (·.q) * c := IntWalk.i64_in _ (by omega)
  have hv1 : wrap64 (unitSum u f n (·.q) * l) = unitSum u f n (·.q) * l := IntWalk.wrap64_in _ ⟨by omega, by omega⟩
  have hv2 : wrap64 (unitSum u f n (·.q) * c) = unitSum u f n (·.q) * c := IntWalk.wrap64_in _ ⟨by omega, by omega⟩
  have hua := units_lt hu
  have HU := Lib.hid hu
  have HS := Lib.hid hS
  have HF := Lib.hid hf
  clear hu hS hf
  go_enter Tryz.func68, Tryz.ntmps68
  go_wp2_with fail
  obtain ⟨W, hW⟩ : ∃ W, (((w.alloc (.cells #[.slice a n cap, .int .i64 q0, .int .i64 p0, .int .i64 l, .int .i64 c] 102)).alloc (.cells #[.int .i64 (f 0), .int .i64 (f 1), .int .i64 (f 2), .int .i64 (f 3), .int .i64 (f 4), .int .i64 (f 5)] 88)).alloc (.cells #[.int .i64 0, .int .i64 0, .int .i64 0, .int .i64 0] 92)) = W := ⟨_, rfl⟩
  have hB : Below w.heap.size w W := by
    rw [← hW]
    exact (((Below.refl _ _).alloc (Nat.le_refl _) _).alloc (by simp) _).alloc (by rw [World.size_alloc, World.size_alloc]; omega) _
  have ht : RowIs W (w.heap.size + 1 + 1) #[.int .i64 0, .int .i64 0, .int .i64 0, .int .i64 0] 92 := by rw [← hW]; exact heap_new_at _ _ _ (by simp)
  have hp : RowIs W w.heap.size #[.slice a n cap, .int .i64 q0, .int .i64 p0, .int .i64 l, .int .i64 c] 102 := by rw [← hW]; exact RowIs.alloc (RowIs.alloc (heap_new_at _ _ _ rfl) _) _
  have hz : W.heap.size = w.heap.size + 3 := by rw [← hW]; simp only [World.size_alloc]
  rw [hW]
  clear hW
  refine (weigh_c a n cap (w.heap.size + 1 + 1) u f _ _ _ _ 92 W (HU.out.below hB) HS.out HF.out ht ?_).mono ?_
  · intro b off e
    have := hua b off e hn0
    omega
  rintro e w1 ⟨rfl, hrow, hg⟩
  have t0 : w1.cell? ⟨w.heap.size + 1 + 1, 0, none⟩ = some (.int .i64 (unitSum u f n (·.q))) := by rw [hrow.cell 0]; rfl
  have t2 : w1.cell? ⟨w.heap.size + 1 + 1, 2, none⟩ = some (.int .i64 (unitSum u f n (·.l))) := by rw [hrow.cell 2]; rfl
  have t3 : w1.cell? ⟨w.heap.size + 1 + 1, 3, none⟩ = some (.int .i64 (unitSum u f n (·.c))) := by rw [hrow.cell 3]; rfl
  have hp1 : RowIs w1 w.heap.size #[.slice a n cap, .int .i64 q0, .int .i64 p0, .int .i64 l, .int .i64 c] 102 := (hg.block _ (by omega) (fun e => by have := Option.some.inj e; omega)).trans hp
  have p3 : w1.cell? ⟨w.heap.size, 3, none⟩ = some (.int .i64 l) := hp1.cell 3
  have p4 : w1.cell? ⟨w.heap.size, 4, none⟩ = some (.int .i64 c) := hp1.cell 4
  have hB1 : Below w.heap.size W w1 := grown_below hg (by omega) (by omega)
  have Hz := Lib.hid hz
  clear hrow hp1 hp ht hg hz
  by_cases h1 : unitSum u f n (·.l) ≤ unitSum u f n (·.q) * l
  · have h1' : decide (unitSum u f n (·.l) ≤ unitSum u f n (·.q) * l) = true := by simpa using h1
    go_wp2
    go_ret
    exact ⟨ret_b (by unfold potB; rw [Bool.eq_iff_iff]; simp; omega), hB.trans hB1⟩
  · have h1' : decide (unitSum u f n (·.l) ≤ unitSum u f n (·.q) * l) = false := by simpa using h1
    go_wp2
    go_ret
    exact ⟨ret_b (by unfold potB; rw [Bool.eq_iff_iff]; simp; omega), hB.trans hB1⟩


theorem within1 (x lo hi : Int) : withinB lo hi (fun i => [x].getD i 0) 1 = decide (lo ≤ x ∧ x ≤ hi) := by simp [withinB]
theorem within2 (x y lo hi : Int) : withinB lo hi (fun i => [x, y].getD i 0) 2 = (decide (lo ≤ x ∧ x ≤ hi) && decide (lo ≤ y ∧ y ≤ hi)) := by simp [withinB]

/-- within of one number, of two: as the callers lay them. -/
theorem within1_c (lo hi x : Int) (w : World) (s : Nat) (hs : w.heap.size = s) (T : TypeId) :
    Calls Tryz.prog 66 #[.int .i64 lo, .int .i64 hi, .slice (some ⟨s, 0, none⟩) 1 1] (w.alloc (.cells #[.int .i64 x] T)) fun e w' => e = .returned (.bool (decide (lo ≤ x ∧ x ≤ hi))) ∧ w.alloc (.cells #[.int .i64 x] T) = w' := by
  subst hs
  have hi1 := ints_new w T (0, 0) [x]
  have := within_c lo hi (some ⟨w.heap.size, 0, none⟩) 1 1 (fun i => [x].getD i 0) _ hi1 (by omega)
  rw [within1] at this
  exact this

theorem withinI1_c (lo hi x : Int) (w : World) (s : Nat) (hs : w.heap.size = s) (T : TypeId) :
    Calls Tryz.prog 63 #[.int .i64 lo, .int .i64 hi, .slice (some ⟨s, 0, none⟩) 1 1] (w.alloc (.cells #[.int .i64 x] T)) fun e w' => e = .returned (.bool (decide (lo ≤ x ∧ x ≤ hi))) ∧ w.alloc (.cells #[.int .i64 x] T) = w' := by
  subst hs
  have hi1 := ints_new w T (0, 0) [x]
  have := withinI_c lo hi (some ⟨w.heap.size, 0, none⟩) 1 1 (fun i => [x].getD i 0) _ hi1 (by omega)
  rw [within1] at this
  exact this

theorem within2_c (lo hi x y : Int) (w : World) (s : Nat) (hs : w.heap.size = s) (T : TypeId) :
    Calls Tryz.prog 66 #[.int .i64 lo, .int .i64 hi, .slice (some ⟨s, 0, none⟩) 2 2] (w.alloc (.cells #[.int .i64 x, .int .i64 y] T)) fun e w' => e = .returned (.bool (decide (lo ≤ x ∧ x ≤ hi) && decide (lo ≤ y ∧ y ≤ hi))) ∧ w.alloc (.cells #[.int .i64 x, .int .i64 y] T) = w' := by
  subst hs
  have hi1 := ints_new w T (0, 0) [x, y]
  have := within_c lo hi (some ⟨w.heap.size, 0, none⟩) 2 2 (fun i => [x, y].getD i 0) _ hi1 (by omega)
  rw [within2] at this
  exact this

set_option maxHeartbeats 400000 in
theorem checkTouch_c (l c : Int) (w : World) :
    Calls Tryz.prog 25 #[.agg #[.int .i64 l, .int .i64 c]] w fun e w' => e = .returned (.int .i64 (touchE l c)) ∧ Below w.heap.size w w' := by
  by_cases h : (decide (0 ≤ l ∧ l ≤ 1000) && decide (0 ≤ c ∧ c ≤ 1000)) = true
  all_goals
    go_enter Tryz.func25, Tryz.ntmps25
    go_wp2_with fail
    refine (within2_c 0 1000 l c _ _ (by simp) _).mono ?_
    rintro e w1 ⟨he, rfl⟩
    simp only [h] at he
    subst he
    go_wp2
    go_ret
    exact ⟨ret_i (by simp at h; unfold touchE; split <;> omega), ((Below.refl _ _).alloc (Nat.le_refl _) _).alloc (by simp) _⟩

end Go.Proofs.YtehafggcncbnkaaGreat

namespace Go.Proofs.YtehafggcncbnkaaGreat
open Go.RowKit

set_option maxHeartbeats 400000 in
theorem validContent_c (lo hi : Int) (w : World) :
    Calls Tryz.prog 93 #[.agg #[.int .i64 lo, .int .i64 hi]] w fun e w' => e = .returned (.bool (rangeB lo hi)) ∧ Below w.heap.size w w' := by
  have hB : Below w.heap.size w ((w.alloc (.cells #[.int .i64 lo, .int .i64 hi] 66)).alloc (.cells #[.int .i64 lo, .int .i64 hi] 2)) := ((Below.refl _ _).alloc (Nat.le_refl _) _).alloc (by simp) _
  by_cases h : (decide (0 ≤ lo ∧ lo ≤ 1000) && decide (0 ≤ hi ∧ hi ≤ 1000)) = true
  · by_cases h2 : lo ≤ hi
    all_goals
      go_enter Tryz.func93, Tryz.ntmps93
      go_wp2_with fail
      refine (within2_c 0 1000 lo hi _ _ (by simp) _).mono ?_
      rintro e w1 ⟨he, rfl⟩
      simp only [h] at he
      subst he
      go_wp2
      go_ret
      exact ⟨ret_b (by simp at h; unfold rangeB; rw [Bool.eq_iff_iff]; simp; omega), hB⟩
  · go_enter Tryz.func93, Tryz.ntmps93
    go_wp2_with fail
    refine (within2_c 0 1000 lo hi _ _ (by simp) _).mono ?_
    rintro e w1 ⟨he, rfl⟩
    simp only [h] at he
    subst he
    go_wp2
    go_ret
    exact ⟨ret_b (by simp at h; unfold rangeB; rw [Bool.eq_iff_iff]; simp; omega), hB⟩

set_option maxHeartbeats 1000000 in
theorem validMetal_c (m : M5) (w : World) :
    Calls Tryz.prog 64 #[.agg #[.int .i64 m.p, .int .i64 m.l0, .int .i64 m.l1, .int .i64 m.c0, .int .i64 m.c1]] w fun e w' => e = .returned (.bool (!badB m)) ∧ Below w.heap.size w w' := by
  have hB : Below w.heap.size w ((w.alloc (.cells #[.int .i64 m.p, .int .i64 m.l0, .int .i64 m.l1, .int .i64 m.c0, .int .i64 m.c1] 68)).alloc (.cells #[.int .i64 m.p] 2)) := ((Below.refl _ _).alloc (Nat.le_refl _) _).alloc (by simp) _
  by_cases h : decide (0 ≤ m.p ∧ m.p ≤ 1000) = true
  · by_cases h1 : rangeB m.l0 m.l1 = true
    · go_enter Tryz.func64, Tryz.ntmps64
      go_wp2_with fail
      refine (within1_c 0 1000 m.p _ _ (by simp) _).mono ?_
      rintro e w1 ⟨he, rfl⟩
      rw [h] at he
      subst he
      go_wp2_with fail
      refine (validContent_c _ _ _).mono ?_
      rintro e w2 ⟨he, hb2⟩
      rw [h1] at he
      subst he
      obtain ⟨hc, hf⟩ := bcell hb2
      have hz := hb2.size
      go_wp2_with fail
      refine (validContent_c _ _ _).mono ?_
      rintro e w3 ⟨rfl, hb3⟩
      go_wp2_with fail
      go_ret
      exact ⟨ret_b (by simp at h; unfold badB; rw [h1]; have : decide (m.p < 0 ∨ 1000 < m.p) = false := by simp; omega
                       rw [this]; simp), bup (bup hB hb2) hb3⟩
    · have h1' : rangeB m.l0 m.l1 = false := by simpa using h1
      go_enter Tryz.func64, Tryz.ntmps64
      go_wp2_with fail
      refine (within1_c 0 1000 m.p _ _ (by simp) _).mono ?_
      rintro e w1 ⟨he, rfl⟩
      rw [h] at he
      subst he
      go_wp2_with fail
      refine (validContent_c _ _ _).mono ?_
      rintro e w2 ⟨he, hb2⟩
      rw [h1'] at he
      subst he
      go_wp2_with fail
      go_ret
      exact ⟨ret_b (by unfold badB; rw [h1']; simp), bup hB hb2⟩
  · have h' : decide (0 ≤ m.p ∧ m.p ≤ 1000) = false := by simpa using h
    go_enter Tryz.func64, Tryz.ntmps64
    go_wp2_with fail
    refine (within1_c 0 1000 m.p _ _ (by simp) _).mono ?_
    rintro e w1 ⟨he, rfl⟩
    rw [h'] at he
    subst he
    go_wp2_with fail
    go_ret
    exact ⟨ret_b (by
      have : decide (m.p < 0 ∨ 1000 < m.p) = true := by simp at h' ⊢; omega
      unfold badB; rw [this]; simp), hB⟩

set_option maxHeartbeats 1000000 in
theorem checkMetals_c (a : Option Addr) (len cap : Nat) (m : Nat → M5) (w : World) (hm : Metals w a len m) (hl : len ≤ 9223372036854775807) :
    Calls Tryz.prog 23 #[.slice a len cap] w fun e w' => e = .returned (.int .i64 (metalsE len m)) ∧ Below w.heap.size w w' := by
  have hB0 : Below w.heap.size w (w.alloc (.cells #[.int .i64 (len : Int)] 3)) := (Below.refl _ _).alloc (Nat.le_refl _) _
  by_cases h : decide ((1 : Int) ≤ len ∧ (len : Int) ≤ 6) = true
  · have hr : 1 ≤ len ∧ len ≤ 6 := by simp at h; omega
    go_enter Tryz.func23, Tryz.ntmps23
    go_wp2_with fail
    refine (withinI1_c 1 6 len _ _ rfl _).mono ?_
    rintro e w1 ⟨he, rfl⟩
    rw [h] at he
    subst he
    clear h
    go_wp2_with fail
    go_loopw [12] (fun i wr => ∃ k : Nat, k ≤ len ∧ i = .int .i64 k ∧ anyBad m k = false ∧ Below w.heap.size w wr) (fun i _ => len - (intOf i).toNat)
    case atStart => exact ⟨0, Nat.zero_le _, rfl, rfl, hB0⟩
    case round =>
      obtain ⟨k, hk, rfl, hbad, hB⟩ := hrel
      have Hb := Lib.hid hbad
      clear hbad
      by_cases hlt : k < len
      · obtain ⟨b, off, rfl, hbs, c0, c1, c2, c3, c4⟩ := Metals.at (hm.below hB) k hlt
        by_cases hbb : badB (m k) = true
        · go_wp2_with fail
          refine (validMetal_c (m k) _).mono ?_
          rintro e w2 ⟨he, hb2⟩
          rw [hbb] at he
          subst he
          go_wp2
          go_ret
          exact ⟨ret_i (by unfold metalsE; rw [if_neg (by omega), anyBad_of m k len hlt hbb]; rfl), bup (Below.alloc1 hB _ (Nat.le_refl _)) hb2⟩
        · have hbb' : badB (m k) = false := by simpa using hbb
          go_wp2_with fail
          refine (validMetal_c (m k) _).mono ?_
          rintro e w2 ⟨he, hb2⟩
          rw [hbb'] at he
          subst he
          go_wp2
          go_roundw
          case rel => exact ⟨k + 1, by omega, by go_num, by simp only [anyBad, Hb.out, hbb', Bool.or_self], bup (Below.alloc1 hB _ (Nat.le_refl _)) hb2⟩
          case measure => simp [intOf]; omega
      · go_wp2
        go_ret
        exact ⟨ret_i (by obtain rfl : k = len := by omega
                         unfold metalsE; rw [if_neg (by omega), Hb.out]; rfl), hB⟩
  · have h' : decide ((1 : Int) ≤ len ∧ (len : Int) ≤ 6) = false := by simpa using h
    go_enter Tryz.func23, Tryz.ntmps23
    go_wp2_with fail
    refine (withinI1_c 1 6 len _ _ rfl _).mono ?_
    rintro e w1 ⟨he, rfl⟩
    rw [h'] at he
    subst he
    go_wp2_with fail
    go_ret
    exact ⟨ret_i (by simp at h'; unfold metalsE; rw [if_pos (by omega)]), hB0⟩

end Go.Proofs.YtehafggcncbnkaaGreat
