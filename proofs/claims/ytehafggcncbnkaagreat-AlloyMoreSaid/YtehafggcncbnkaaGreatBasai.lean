/- Contracts of package alloy: cross, evenOut. -/
import Derived.Deep.DeepCutAuto
import Derived.Test.YtehafggcncbnkaaGreatProg
import Derived.Test.YtehafggcncbnkaaGreatBasaa
import Derived.Test.YtehafggcncbnkaaGreatBasaf
import Derived.Test.YtehafggcncbnkaaGreatBasag
import Derived.Test.YtehafggcncbnkaaGreatBasah
import Derived.RangeFuncBound
import Derived.Shelf.Abstract
import Derived.Shelf.RegionOpen
import Derived.OwnWalkIn
import Derived.TacticsInMore
import Derived.LoopNIn
import Derived.LoopIn
import Derived.Test.YtehafggcncbnkaaGreatBasad
namespace Go.Proofs.YtehafggcncbnkaaGreat
open Go.RowKit

abbrev roomV (r : Int × Int) : Value := .agg #[.int .i64 r.1, .int .i64 r.2]
def crossR (a b : Int × Int) : Int := a.1 * b.2 - a.2 * b.1
def Close (r : Int × Int) : Prop := (-1000 ≤ r.1 ∧ r.1 ≤ 1000) ∧ (-1000 ≤ r.2 ∧ r.2 ≤ 1000)

theorem cross_bd {a b : Int × Int} (ha : Close a) (hb : Close b) : -2000000 ≤ crossR a b ∧ crossR a b ≤ 2000000 := by
  have h1 := mul_k ha.1 hb.2
  have h2 := mul_k ha.2 hb.1
  unfold crossR
  omega

set_option maxHeartbeats 400000 in
theorem cross_c (a b : Int × Int) (w : World) (ha : Close a) (hb : Close b) :
    Calls Tryz.prog 112 #[roomV a, roomV b] w fun e w' => e = .returned (.int .i64 (crossR a b)) ∧ Below w.heap.size w w' := by
  have h1 := mul_k ha.1 hb.2
  have h2 := mul_k ha.2 hb.1
  have w1 : IntKind.i64.wrap (a.1 * b.2) = a.1 * b.2 := IntWalk.i64_in _ (by omega)
  have w2 : IntKind.i64.wrap (a.2 * b.1) = a.2 * b.1 := IntWalk.i64_in _ (by omega)
  have w3 : IntKind.i64.wrap (a.1 * b.2 - a.2 * b.1) = a.1 * b.2 - a.2 * b.1 := IntWalk.i64_in _ (by omega)
  have hB : Below w.heap.size w ((w.alloc (.cells #[.int .i64 a.1, .int .i64 a.2] 137)).alloc (.cells #[.int .i64 b.1, .int .i64 b.2] 137)) := Below.alloc1 (Below.alloc1 (Below.refl _ _) _ (Nat.le_refl _)) _ (Nat.le_refl _)
  clear h1 h2 ha hb
  go_enter Tryz.func112, Tryz.ntmps112
  go_wp2_with fail
  go_ret
  exact ⟨rfl, hB⟩

/-- What three rooms leave of each other. -/
def leftF (a b c : Int × Int) : Nat → Int
  | 0 => crossR b c
  | 1 => crossR c a
  | _ => crossR a b
def evenD (a b c : Int × Int) : Int := if min (min (leftF a b c 0) (leftF a b c 1)) (leftF a b c 2) < 0 then -(divF (leftF a b c) 3) else divF (leftF a b c) 3
def evenF (a b c : Int × Int) (i : Nat) : Int := (leftF a b c i).tdiv (evenD a b c)
abbrev threeV (f : Nat → Int) : Value := .agg #[.int .i64 (f 0), .int .i64 (f 1), .int .i64 (f 2)]

theorem left_bd {a b c : Int × Int} (ha : Close a) (hb : Close b) (hc : Close c) (i : Nat) : -2000000 ≤ leftF a b c i ∧ leftF a b c i ≤ 2000000 := by
  match i with
  | 0 => exact cross_bd hb hc
  | 1 => exact cross_bd hc ha
  | i + 2 => exact cross_bd ha hb

theorem gcdF_bd (f : Nat → Int) (B : Nat) : ∀ n, (∀ i, i < n → (f i).natAbs ≤ B) → gcdF f n ≤ B
  | 0, _ => by simp [gcdF]
  | n + 1, h => by
    have h1 := h n (by omega)
    have h2 := gcdF_bd f B n fun i hi => h i (by omega)
    simp only [gcdF, Int.gcd, Int.natAbs_natCast]
    by_cases h0 : f n = 0
    · rw [h0]; simp; exact h2
    · exact Nat.le_trans (Nat.le_of_dvd (by omega) (Nat.gcd_dvd_right _ _)) h1

def evenA (a b c : Int × Int) (k : Nat) : Array Value :=
  #[.int .i64 (if 0 < k then evenF a b c 0 else leftF a b c 0), .int .i64 (if 1 < k then evenF a b c 1 else leftF a b c 1), .int .i64 (if 2 < k then evenF a b c 2 else leftF a b c 2)]

set_option maxRecDepth 100000 in
set_option maxHeartbeats 2000000 in
theorem evenOut_c (a b0 c : Int × Int) (w : World) (ha : Close a) (hb : Close b0) (hc : Close c) :
    Calls Tryz.prog 98 #[roomV a, roomV b0, roomV c] w fun e w' => e = .returned (threeV (evenF a b0 c)) ∧ Below w.heap.size w w' := by
  obtain ⟨W, hW⟩ : ∃ W, (((w.alloc (.cells #[.int .i64 a.1, .int .i64 a.2] 137)).alloc (.cells #[.int .i64 b0.1, .int .i64 b0.2] 137)).alloc (.cells #[.int .i64 c.1, .int .i64 c.2] 137)).alloc (.cells #[.int .i64 0, .int .i64 0, .int .i64 0] 134) = W := ⟨_, rfl⟩
  have hB0 : Below w.heap.size w W := by rw [← hW]; exact Below.alloc1 (Below.alloc1 (Below.alloc1 (Below.alloc1 (Below.refl _ _) _ (Nat.le_refl _)) _ (Nat.le_refl _)) _ (Nat.le_refl _)) _ (Nat.le_refl _)
  have hA : RowIs W w.heap.size #[.int .i64 a.1, .int .i64 a.2] 137 := by rw [← hW]; exact RowIs.alloc (RowIs.alloc (RowIs.alloc (heap_new_at _ _ _ rfl) _) _) _
  have hB : RowIs W (w.heap.size + 1) #[.int .i64 b0.1, .int .i64 b0.2] 137 := by rw [← hW]; exact RowIs.alloc (RowIs.alloc (heap_new_at _ _ _ (by simp)) _) _
  have hC : RowIs W (w.heap.size + 2) #[.int .i64 c.1, .int .i64 c.2] 137 := by rw [← hW]; exact RowIs.alloc (heap_new_at _ _ _ (by simp)) _
  have hR : RowIs W (w.heap.size + 3) #[.int .i64 0, .int .i64 0, .int .i64 0] 134 := by rw [← hW]; exact heap_new_at _ _ _ (by simp)
  have e0 := hA.cell 0
  have e1 := hA.cell 1
  have f0 := hB.cell 0
  have f1 := hB.cell 1
  have g0 := hC.cell 0
  have g1 := hC.cell 1
  simp at e0 e1 f0 f1 g0 g1
  have hz3 : w.heap.size + 3 < W.heap.size := (Array.getElem?_eq_some_iff.1 hR).1
  have hz2 : w.heap.size + 2 < W.heap.size := by omega
  have hz1 : w.heap.size + 1 < W.heap.size := by omega
  have hz0 : w.heap.size < W.heap.size := by omega
  have hzd : W.heap.size ≤ W.drew.heap.size := Nat.le_refl _
  have HR := Lib.hid hR
  have hlb := left_bd ha hb hc
  have HL := Lib.hid hlb
  have hgb := gcdF_bd (leftF a b0 c) 2000000 3 fun i _ => by have := hlb i; omega
  have HG := Lib.hid hgb
  clear hA hB hC hR hlb hgb
  have H1 := Lib.hid fun (x : World) => cross_c b0 c x hb hc
  have H2 := Lib.hid fun (x : World) => cross_c c a x hc ha
  have H3 := Lib.hid fun (x : World) => cross_c a b0 x ha hb
  clear ha hb hc
  go_enter Tryz.func98, Tryz.ntmps98
  go_wp2_with fail
  clear hW
  refine wp_region_float 10 7 43 (.cells #[.int .i64 0, .int .i64 0, .int .i64 0] 134 (0, 0)) _ (by kernel_rfl) (by kernel_rfl) rfl rfl rfl ?hal (by kernel_rfl) (by kernel_rfl) rfl rfl ?_
  case hal => intro a w; go_simp
  simp only [List.take_succ_cons, List.take_zero, List.drop_succ_cons, List.drop_zero]
  apply Exists.intro
  refine ⟨fun w1 hb1 K hK => ?_, ?_⟩
  · have hlc := fun (x : Later w1) => later_cell2 hb1 x
    repeat (go_big_quiet_step ((first | (with_reducible refine calls_later (H1.out _)) | (with_reducible refine calls_later (H2.out _)) | (with_reducible refine calls_later (H3.out _)))))
    exact wpQuiet_nil hK
  clear e0 e1 f0 f1 g0 g1
  intro b w2 hbb hb2 hz
  have hr2 : RowIs w2 b #[.int .i64 0, .int .i64 0, .int .i64 0] 134 := hz
  have r0 := hr2.cell 0
  have r1 := hr2.cell 1
  have r2 := hr2.cell 2
  have z0 := hr2.frozen 0
  have z1 := hr2.frozen 1
  have z2 := hr2.frozen 2
  simp at r0 r1 r2
  have hbz := (Array.getElem?_eq_some_iff.1 hr2).1
  have Hr2 := Lib.hid hr2
  clear hz hr2
  go_wp2_with fail
  obtain ⟨w3, hw3⟩ : ∃ w3, ((w2.setCell ⟨b, 0, none⟩ (.int .i64 (crossR b0 c))).setCell ⟨b, 1, none⟩ (.int .i64 (crossR c a))).setCell ⟨b, 2, none⟩ (.int .i64 (crossR a b0)) = w3 := ⟨_, rfl⟩
  have hr3 : RowIs w3 b (evenA a b0 c 0) 134 := by rw [← hw3]; simpa [evenA, leftF] using ((Hr2.out.set 0 (.int .i64 (crossR b0 c))).set 1 (.int .i64 (crossR c a))).set 2 (.int .i64 (crossR a b0))
  have hb3 : Below W.heap.size W w3 := by rw [← hw3]; exact ((hb2.setCell hbb _).setCell hbb _).setCell hbb _
  rw [hw3]
  clear hw3 hb2 r0 r1 r2 z0 z1 z2 hbz
  have hI : Ints w3 (some ⟨b, 0, none⟩) 3 (leftF a b0 c) := .inr ⟨b, 0, rfl, (Array.getElem?_eq_some_iff.1 hr3).1, fun i hi => by
    have : i = 0 ∨ i = 1 ∨ i = 2 := by omega
    rcases this with rfl | rfl | rfl
    · exact hr3.cell 0
    · exact hr3.cell 1
    · exact hr3.cell 2⟩
  refine (divisor_c _ 3 3 (leftF a b0 c) w3 hI (by omega) (fun i _ => by have := HL.out i; omega)).mono ?_
  rintro e w4 ⟨rfl, q, rfl⟩
  have hr4 : RowIs (w3.drewN q) b (evenA a b0 c 0) 134 := hr3
  have hb4 : Below W.heap.size W (w3.drewN q) := below_drewN hb3 q
  generalize w3.drewN q = w4 at hr4 hb4 ⊢
  have r0 : w4.cell? ⟨b, 0, none⟩ = some (.int .i64 (leftF a b0 c 0)) := hr4.cell 0
  have r1 : w4.cell? ⟨b, 1, none⟩ = some (.int .i64 (leftF a b0 c 1)) := hr4.cell 1
  have r2 : w4.cell? ⟨b, 2, none⟩ = some (.int .i64 (leftF a b0 c 2)) := hr4.cell 2
  have hbz := (Array.getElem?_eq_some_iff.1 hr4).1
  have Hr4 := Lib.hid hr4
  have HB4 := Lib.hid hb4
  have hdv : 1 ≤ divF (leftF a b0 c) 3 ∧ divF (leftF a b0 c) 3 ≤ 2000000 := by
    have := HG.out
    unfold divF
    omega
  obtain ⟨D, hD⟩ : ∃ D, divF (leftF a b0 c) 3 = D := ⟨_, rfl⟩
  rw [hD] at hdv ⊢
  have HD := Lib.hid hD
  clear hr3 hr4 hb3 hb4 hI hD Hr2
  by_cases hneg : min (min (leftF a b0 c 0) (leftF a b0 c 1)) (leftF a b0 c 2) < 0
  · have hev : evenD a b0 c = -D := by unfold evenD; rw [if_pos hneg, HD.out]
    have HEv := Lib.hid hev
    clear hev
    go_upto_region 3 with fail
    go_cut [29] (fun s wx => s = .bool true ∧ wx = w4)
    case first =>
      go_wp2_with fail
      all_goals go_meet
      all_goals exact ⟨by simp; omega, rfl⟩
    case rest =>
      obtain ⟨rfl, rfl⟩ := hcut
      clear hneg r0 r1 r2
      go_wp2_with fail
      go_loopw [32] (fun i wr => ∃ j : Nat, j ≤ 3 ∧ i = .int .i64 j ∧ RowIs wr b (evenA a b0 c j) 134 ∧ Below W.heap.size W wr) (fun i _ => 3 - (intOf i).toNat)
      case atStart => exact ⟨0, by omega, rfl, Hr4.out, HB4.out⟩
      case round =>
        obtain ⟨j, hj, rfl, hrow, hBr⟩ := hrel
        have hcase : j = 0 ∨ j = 1 ∨ j = 2 ∨ j = 3 := by omega
        rcases hcase with rfl | rfl | rfl | rfl
        · have q0 : wr.cell? ⟨b, 0, none⟩ = some (.int .i64 (leftF a b0 c 0)) := hrow.cell 0
          have y0 := hrow.frozen 0
          have yz := (Array.getElem?_eq_some_iff.1 hrow).1
          have hdiv : IntKind.i64.wrap ((leftF a b0 c 0).tdiv (-D)) = (leftF a b0 c 0).tdiv (-D) := by
            have h1 := HL.out 0
            have h2 := Int.natAbs_tdiv_le_natAbs (leftF a b0 c 0) (-D)
            exact IntWalk.i64_in _ (by omega)
          have hdw : wrap64 (-(leftF a b0 c 0).tdiv D) = -(leftF a b0 c 0).tdiv D := by
            have h1 := HL.out 0
            have h2 := Int.natAbs_tdiv_le_natAbs (leftF a b0 c 0) D
            exact IntWalk.wrap64_in _ ⟨by omega, by omega⟩
          have Hdw := Lib.hid hdw
          clear hdw
          have hne : (-D == 0) = false := by simp; omega
          have Hrow := Lib.hid hrow
          clear hrow
          go_wp2_with fail
          go_roundw
          case rel => exact ⟨1, by omega, rfl, by simpa [evenA, evenF, HEv.out, Hdw.out] using Hrow.out.set 0 (.int .i64 ((leftF a b0 c 0).tdiv (-D))), hBr.setCell hbb _⟩
          case measure => simp [intOf]
        · have q0 : wr.cell? ⟨b, 1, none⟩ = some (.int .i64 (leftF a b0 c 1)) := hrow.cell 1
          have y0 := hrow.frozen 1
          have yz := (Array.getElem?_eq_some_iff.1 hrow).1
          have hdiv : IntKind.i64.wrap ((leftF a b0 c 1).tdiv (-D)) = (leftF a b0 c 1).tdiv (-D) := by
            have h1 := HL.out 1
            have h2 := Int.natAbs_tdiv_le_natAbs (leftF a b0 c 1) (-D)
            exact IntWalk.i64_in _ (by omega)
          have hdw : wrap64 (-(leftF a b0 c 1).tdiv D) = -(leftF a b0 c 1).tdiv D := by
            have h1 := HL.out 1
            have h2 := Int.natAbs_tdiv_le_natAbs (leftF a b0 c 1) D
            exact IntWalk.wrap64_in _ ⟨by omega, by omega⟩
          have Hdw := Lib.hid hdw
          clear hdw
          have hne : (-D == 0) = false := by simp; omega
          have Hrow := Lib.hid hrow
          clear hrow
          go_wp2_with fail
          go_roundw
          case rel => exact ⟨2, by omega, rfl, by simpa [evenA, evenF, HEv.out, Hdw.out] using Hrow.out.set 1 (.int .i64 ((leftF a b0 c 1).tdiv (-D))), hBr.setCell hbb _⟩
          case measure => simp [intOf]
        · have q0 : wr.cell? ⟨b, 2, none⟩ = some (.int .i64 (leftF a b0 c 2)) := hrow.cell 2
          have y0 := hrow.frozen 2
          have yz := (Array.getElem?_eq_some_iff.1 hrow).1
          have hdiv : IntKind.i64.wrap ((leftF a b0 c 2).tdiv (-D)) = (leftF a b0 c 2).tdiv (-D) := by
            have h1 := HL.out 2
            have h2 := Int.natAbs_tdiv_le_natAbs (leftF a b0 c 2) (-D)
            exact IntWalk.i64_in _ (by omega)
          have hdw : wrap64 (-(leftF a b0 c 2).tdiv D) = -(leftF a b0 c 2).tdiv D := by
            have h1 := HL.out 2
            have h2 := Int.natAbs_tdiv_le_natAbs (leftF a b0 c 2) D
            exact IntWalk.wrap64_in _ ⟨by omega, by omega⟩
          have Hdw := Lib.hid hdw
          clear hdw
          have hne : (-D == 0) = false := by simp; omega
          have Hrow := Lib.hid hrow
          clear hrow
          go_wp2_with fail
          go_roundw
          case rel => exact ⟨3, by omega, rfl, by simpa [evenA, evenF, HEv.out, Hdw.out] using Hrow.out.set 2 (.int .i64 ((leftF a b0 c 2).tdiv (-D))), hBr.setCell hbb _⟩
          case measure => simp [intOf]
        · have hrow' : RowIs wr b #[.int .i64 (evenF a b0 c 0), .int .i64 (evenF a b0 c 1), .int .i64 (evenF a b0 c 2)] 134 := by simpa [evenA] using hrow
          have hR : RowIs wr (w.heap.size + 3) #[.int .i64 0, .int .i64 0, .int .i64 0] 134 := (hBr.block _ hz3).trans HR.out
          have q0 : wr.cell? ⟨b, 0, none⟩ = some (.int .i64 (evenF a b0 c 0)) := hrow'.cell 0
          have q1 : wr.cell? ⟨b, 1, none⟩ = some (.int .i64 (evenF a b0 c 1)) := hrow'.cell 1
          have q2 : wr.cell? ⟨b, 2, none⟩ = some (.int .i64 (evenF a b0 c 2)) := hrow'.cell 2
          have yz := (Array.getElem?_eq_some_iff.1 hrow').1
          have x0 : wr.cell? ⟨w.heap.size + 3, 0, none⟩ = some (.int .i64 0) := hR.cell 0
          have x1 : wr.cell? ⟨w.heap.size + 3, 1, none⟩ = some (.int .i64 0) := hR.cell 1
          have x2 : wr.cell? ⟨w.heap.size + 3, 2, none⟩ = some (.int .i64 0) := hR.cell 2
          have z0 := hR.frozen 0
          have z1 := hR.frozen 1
          have z2 := hR.frozen 2
          have xz := (Array.getElem?_eq_some_iff.1 hR).1
          have H9 := Lib.hid hR
          clear hrow hrow' hR
          go_wp2_with fail
          have f9 : RowIs _ (w.heap.size + 3) _ 134 := ((H9.out.set 0 (.int .i64 (evenF a b0 c 0))).set 1 (.int .i64 (evenF a b0 c 1))).set 2 (.int .i64 (evenF a b0 c 2))
          have g0 := f9.cell 0
          have g1 := f9.cell 1
          have g2 := f9.cell 2
          simp at g0 g1 g2
          clear f9 q0 q1 q2 x0 x1 x2 z0 z1 z2
          refine bodyPost_ret (v := threeV (evenF a b0 c)) (by simp [results, Tryz.results98, go_sem, g0, g1, g2]) rfl ⟨rfl, ?_⟩
          exact (((hB0.trans (hBr.mono (by omega))).setCell (p := ⟨w.heap.size + 3, 0, none⟩) (Nat.le_add_right _ _) _).setCell (p := ⟨w.heap.size + 3, 1, none⟩) (Nat.le_add_right _ _) _).setCell (p := ⟨w.heap.size + 3, 2, none⟩) (Nat.le_add_right _ _) _
  · have hev : evenD a b0 c = D := by unfold evenD; rw [if_neg hneg, HD.out]
    have HEv := Lib.hid hev
    clear hev
    go_upto_region 3 with fail
    go_cut [29] (fun s wx => s = .bool false ∧ wx = w4)
    case first =>
      go_wp2_with fail
      all_goals go_meet
      all_goals exact ⟨by simp; omega, rfl⟩
    case rest =>
      obtain ⟨rfl, rfl⟩ := hcut
      clear hneg r0 r1 r2
      go_wp2_with fail
      go_loopw [32] (fun i wr => ∃ j : Nat, j ≤ 3 ∧ i = .int .i64 j ∧ RowIs wr b (evenA a b0 c j) 134 ∧ Below W.heap.size W wr) (fun i _ => 3 - (intOf i).toNat)
      case atStart => exact ⟨0, by omega, rfl, Hr4.out, HB4.out⟩
      case round =>
        obtain ⟨j, hj, rfl, hrow, hBr⟩ := hrel
        have hcase : j = 0 ∨ j = 1 ∨ j = 2 ∨ j = 3 := by omega
        rcases hcase with rfl | rfl | rfl | rfl
        · have q0 : wr.cell? ⟨b, 0, none⟩ = some (.int .i64 (leftF a b0 c 0)) := hrow.cell 0
          have y0 := hrow.frozen 0
          have yz := (Array.getElem?_eq_some_iff.1 hrow).1
          have hdiv : IntKind.i64.wrap ((leftF a b0 c 0).tdiv (D)) = (leftF a b0 c 0).tdiv (D) := by
            have h1 := HL.out 0
            have h2 := Int.natAbs_tdiv_le_natAbs (leftF a b0 c 0) (D)
            exact IntWalk.i64_in _ (by omega)
          have hdw : wrap64 (-(leftF a b0 c 0).tdiv D) = -(leftF a b0 c 0).tdiv D := by
            have h1 := HL.out 0
            have h2 := Int.natAbs_tdiv_le_natAbs (leftF a b0 c 0) D
            exact IntWalk.wrap64_in _ ⟨by omega, by omega⟩
          have Hdw := Lib.hid hdw
          clear hdw
          have hne : (D == 0) = false := by simp; omega
          have Hrow := Lib.hid hrow
          clear hrow
          go_wp2_with fail
          go_roundw
          case rel => exact ⟨1, by omega, rfl, by simpa [evenA, evenF, HEv.out, Hdw.out] using Hrow.out.set 0 (.int .i64 ((leftF a b0 c 0).tdiv (D))), hBr.setCell hbb _⟩
          case measure => simp [intOf]
        · have q0 : wr.cell? ⟨b, 1, none⟩ = some (.int .i64 (leftF a b0 c 1)) := hrow.cell 1
          have y0 := hrow.frozen 1
          have yz := (Array.getElem?_eq_some_iff.1 hrow).1
          have hdiv : IntKind.i64.wrap ((leftF a b0 c 1).tdiv (D)) = (leftF a b0 c 1).tdiv (D) := by
            have h1 := HL.out 1
            have h2 := Int.natAbs_tdiv_le_natAbs (leftF a b0 c 1) (D)
            exact IntWalk.i64_in _ (by omega)
          have hdw : wrap64 (-(leftF a b0 c 1).tdiv D) = -(leftF a b0 c 1).tdiv D := by
            have h1 := HL.out 1
            have h2 := Int.natAbs_tdiv_le_natAbs (leftF a b0 c 1) D
            exact IntWalk.wrap64_in _ ⟨by omega, by omega⟩
          have Hdw := Lib.hid hdw
          clear hdw
          have hne : (D == 0) = false := by simp; omega
          have Hrow := Lib.hid hrow
          clear hrow
          go_wp2_with fail
          go_roundw
          case rel => exact ⟨2, by omega, rfl, by simpa [evenA, evenF, HEv.out, Hdw.out] using Hrow.out.set 1 (.int .i64 ((leftF a b0 c 1).tdiv (D))), hBr.setCell hbb _⟩
          case measure => simp [intOf]
        · have q0 : wr.cell? ⟨b, 2, none⟩ = some (.int .i64 (leftF a b0 c 2)) := hrow.cell 2
          have y0 := hrow.frozen 2
          have yz := (Array.getElem?_eq_some_iff.1 hrow).1
          have hdiv : IntKind.i64.wrap ((leftF a b0 c 2).tdiv (D)) = (leftF a b0 c 2).tdiv (D) := by
            have h1 := HL.out 2
            have h2 := Int.natAbs_tdiv_le_natAbs (leftF a b0 c 2) (D)
            exact IntWalk.i64_in _ (by omega)
          have hdw : wrap64 (-(leftF a b0 c 2).tdiv D) = -(leftF a b0 c 2).tdiv D := by
            have h1 := HL.out 2
            have h2 := Int.natAbs_tdiv_le_natAbs (leftF a b0 c 2) D
            exact IntWalk.wrap64_in _ ⟨by omega, by omega⟩
          have Hdw := Lib.hid hdw
          clear hdw
          have hne : (D == 0) = false := by simp; omega
          have Hrow := Lib.hid hrow
          clear hrow
          go_wp2_with fail
          go_roundw
          case rel => exact ⟨3, by omega, rfl, by simpa [evenA, evenF, HEv.out, Hdw.out] using Hrow.out.set 2 (.int .i64 ((leftF a b0 c 2).tdiv (D))), hBr.setCell hbb _⟩
          case measure => simp [intOf]
        · have hrow' : RowIs wr b #[.int .i64 (evenF a b0 c 0), .int .i64 (evenF a b0 c 1), .int .i64 (evenF a b0 c 2)] 134 := by simpa [evenA] using hrow
          have hR : RowIs wr (w.heap.size + 3) #[.int .i64 0, .int .i64 0, .int .i64 0] 134 := (hBr.block _ hz3).trans HR.out
          have q0 : wr.cell? ⟨b, 0, none⟩ = some (.int .i64 (evenF a b0 c 0)) := hrow'.cell 0
          have q1 : wr.cell? ⟨b, 1, none⟩ = some (.int .i64 (evenF a b0 c 1)) := hrow'.cell 1
          have q2 : wr.cell? ⟨b, 2, none⟩ = some (.int .i64 (evenF a b0 c 2)) := hrow'.cell 2
          have yz := (Array.getElem?_eq_some_iff.1 hrow').1
          have x0 : wr.cell? ⟨w.heap.size + 3, 0, none⟩ = some (.int .i64 0) := hR.cell 0
          have x1 : wr.cell? ⟨w.heap.size + 3, 1, none⟩ = some (.int .i64 0) := hR.cell 1
          have x2 : wr.cell? ⟨w.heap.size + 3, 2, none⟩ = some (.int .i64 0) := hR.cell 2
          have z0 := hR.frozen 0
          have z1 := hR.frozen 1
          have z2 := hR.frozen 2
          have xz := (Array.getElem?_eq_some_iff.1 hR).1
          have H9 := Lib.hid hR
          clear hrow hrow' hR
          go_wp2_with fail
          have f9 : RowIs _ (w.heap.size + 3) _ 134 := ((H9.out.set 0 (.int .i64 (evenF a b0 c 0))).set 1 (.int .i64 (evenF a b0 c 1))).set 2 (.int .i64 (evenF a b0 c 2))
          have g0 := f9.cell 0
          have g1 := f9.cell 1
          have g2 := f9.cell 2
          simp at g0 g1 g2
          clear f9 q0 q1 q2 x0 x1 x2 z0 z1 z2
          refine bodyPost_ret (v := threeV (evenF a b0 c)) (by simp [results, Tryz.results98, go_sem, g0, g1, g2]) rfl ⟨rfl, ?_⟩
          exact (((hB0.trans (hBr.mono (by omega))).setCell (p := ⟨w.heap.size + 3, 0, none⟩) (Nat.le_add_right _ _) _).setCell (p := ⟨w.heap.size + 3, 1, none⟩) (Nat.le_add_right _ _) _).setCell (p := ⟨w.heap.size + 3, 2, none⟩) (Nat.le_add_right _ _) _

end Go.Proofs.YtehafggcncbnkaaGreat

namespace Go.Proofs.YtehafggcncbnkaaGreat
open Go.RowKit

theorem infoRoom : (Tryz.prog.info? 137).map (fun i => (i.zero, i.size, i.bytes)) = some (some (.agg #[.int .i64 0, .int .i64 0]), 2, 16) := by kernel_rfl

def roomCells (r : Int × Int) : List Value := [.int .i64 r.1, .int .i64 r.2]

/-- A slice of rooms. -/
def Rooms (w : World) (a : Option Addr) (n : Nat) (r : Nat → Int × Int) : Prop :=
  n = 0 ∨ ∃ b off, a = some ⟨b, off, none⟩ ∧ b < w.heap.size ∧ ∀ i, i < n → w.cell? ⟨b, off + i * 2, none⟩ = some (.int .i64 (r i).1) ∧ w.cell? ⟨b, off + i * 2 + 1, none⟩ = some (.int .i64 (r i).2)

/-- What rooms metals have, and behind them the two that are none. -/
def roomF (n : Nat) (u : Nat → U4) (l c : Int) (i : Nat) : Int × Int := if i < n then (l - (u i).l, (u i).c - c) else if i = n then (-1, 0) else (0, -1)

theorem rooms_of_own {w : World} {base : Nat} {e : TypeId} {g n cap : Nat} {r : Nat → Int × Int} (h : w.ownsRow base e 2 (.slice (some ⟨g, 0, none⟩) n cap) n (catF (fun i => roomCells (r i)) n)) : base ≤ g ∧ g < w.heap.size ∧ ∀ i, i < n → w.cell? ⟨g, i * 2, none⟩ = some (.int .i64 (r i).1) ∧ w.cell? ⟨g, i * 2 + 1, none⟩ = some (.int .i64 (r i).2) := by
  have hg : base ≤ g ∧ g < w.heap.size := by
    obtain ⟨_, h2⟩ := h
    rcases h2 with ⟨hv, _⟩ | ⟨g', cap', cur, hv, hb, hh, _⟩
    · cases hv
    · cases hv
      exact ⟨hb, (Array.getElem?_eq_some_iff.1 hh).1⟩
  refine ⟨hg.1, hg.2, fun i hi => ?_⟩
  have key : ∀ j, j < 2 → w.cell? ⟨g, i * 2 + j, none⟩ = (roomCells (r i))[j]? := fun j hj => by
    have h1 : i * 2 + j < n * 2 := by omega
    have := h.cellAt (i * 2 + j) h1
    rw [catF_get (fun i => roomCells (r i)) 2 (fun i => rfl) i j hj n hi] at this
    exact this
  exact ⟨key 0 (by omega), key 1 (by omega)⟩

theorem catF_congr {α : Type} {f g : Nat → List α} : ∀ n, (∀ i, i < n → f i = g i) → catF f n = catF g n
  | 0, _ => rfl
  | n + 1, h => by simp only [catF]; rw [catF_congr n fun i hi => h i (by omega), h n (by omega)]

set_option maxRecDepth 100000 in
set_option maxHeartbeats 4000000 in
theorem rooms_c (g n : Nat) (u : Nat → U4) (l c : Int) (w : World) (hu : Units w (some ⟨g, 0, none⟩) n u) (hn : n ≤ 6) (hS : ∀ i, i < n → (0 ≤ (u i).l ∧ (u i).l ≤ 1000) ∧ (0 ≤ (u i).c ∧ (u i).c ≤ 1000)) (ht : 0 ≤ l ∧ l ≤ 1000 ∧ 0 ≤ c ∧ c ≤ 1000) :
    Calls Tryz.prog 96 #[potV g n l c] w fun e w' => ∃ h, w.heap.size < h ∧ h < w'.heap.size ∧ e = .returned (.slice (some ⟨h, 0, none⟩) (n + 2) (n + 2)) ∧
      (∀ i, i < n + 2 → w'.cell? ⟨h, i * 2, none⟩ = some (.int .i64 (roomF n u l c i).1) ∧ w'.cell? ⟨h, i * 2 + 1, none⟩ = some (.int .i64 (roomF n u l c i).2)) ∧ Below w.heap.size w w' := by
  obtain ⟨i0, hi, hz0, hz1, hz2⟩ := info_parts infoRoom
  obtain ⟨W, hW⟩ : ∃ W, w.alloc (.cells #[.slice (some ⟨g, 0, none⟩) n n, .int .i64 1, .int .i64 0, .int .i64 l, .int .i64 c] 102) = W := ⟨_, rfl⟩
  have hB0 : Below w.heap.size w W := by rw [← hW]; exact Below.alloc1 (Below.refl _ _) _ (Nat.le_refl _)
  have hP : RowIs W w.heap.size #[.slice (some ⟨g, 0, none⟩) n n, .int .i64 1, .int .i64 0, .int .i64 l, .int .i64 c] 102 := by rw [← hW]; exact heap_new_at _ _ _ rfl
  have hzW : W.heap.size = w.heap.size + 1 := by rw [← hW]; simp
  have hu0 := hu.below hB0
  obtain ⟨e0, e1, e2, e3, e4, ez⟩ := potrow hP
  have HP := Lib.hid hP
  have HzW := Lib.hid hzW
  have hzl : W.heap.size ≤ w.heap.size + 1 := by omega
  have hzg : w.heap.size + 1 ≤ W.heap.size := by omega
  have hmul : ((n : Int) + 2).toNat = n + 2 := by omega
  have Hm := Lib.hid hmul
  clear hu hP hzW hmul
  go_enter Tryz.func96, Tryz.ntmps96
  go_wp2_with (at_make; refine wpList_make_own _ rfl _ _ 128 rfl (w.heap.size + 1) 137 i0 (.agg #[.int .i64 0, .int .i64 0]) 2 Tryz.underlying128 hi hz0 hz1 .i64 .i64 _ (n + 2) rfl rfl rfl (by rw [hz2]; omega) (by unfold maxLen; omega) (by omega) ?_; intro w1 hown hgr; have hb1 : Below W.heap.size W w1 := ((Below.refl _ W).grown hgr (Nat.le_refl _) (fun k h => by cases h)); obtain ⟨f0, f1, f2, f3, f4, fz⟩ := potrow (HP.out.below hb1))
  have hwz : w.heap.size + 1 = W.heap.size := HzW.out.symm
  have hg1 : W.heap.size < w1.heap.size := by
    obtain ⟨_, h2⟩ := hown
    rcases h2 with ⟨hv, _⟩ | ⟨g', cap', cur, hv, hb, hh, _⟩
    · cases hv
    · cases hv
      exact (Array.getElem?_eq_some_iff.1 hh).1
  have Hwz := Lib.hid hwz
  clear hwz f0 f1 f2 f3 f4 fz e0 e1 e2 e3 e4 ez
  go_loopw [3, 16] (fun v i wr => ∃ k : Nat, k ≤ n ∧ i = .int .i64 k ∧ v = .slice (some ⟨W.heap.size, 0, none⟩) k (n + 2) ∧ wr.ownsRow (w.heap.size + 1) 137 2 (.slice (some ⟨W.heap.size, 0, none⟩) k (n + 2)) k (catF (fun i => roomCells (roomF n u l c i)) k) ∧ Below W.heap.size W wr ∧ W.heap.size < wr.heap.size) (fun _ i _ => n - (intOf i).toNat)
  case atStart => exact ⟨0, Nat.zero_le _, rfl, rfl, hown, hb1, hg1⟩
  case round =>
    obtain ⟨k, hk, rfl, rfl, hown, hB, hz⟩ := hrel
    clear hgr hb1 hg1
    obtain ⟨e0, e1, e2, e3, e4, ez⟩ := potrow (HP.out.below hB)
    by_cases hlt : k < n
    · obtain ⟨b, off, he, hbs, c0, c1, c2, c3⟩ := Units.at hu0 k hlt
      cases he
      have d0 := (hB.cell hbs).trans c0
      have d1 := (hB.cell hbs).trans c1
      have d2 := (hB.cell hbs).trans c2
      have d3 := (hB.cell hbs).trans c3
      simp only [Nat.zero_add] at d0 d1 d2 d3
      have hsk := hS k hlt
      have w1' : IntKind.i64.wrap (l - (u k).l) = l - (u k).l := IntWalk.i64_in _ (by omega)
      have w2' : IntKind.i64.wrap ((u k).c - c) = (u k).c - c := IntWalk.i64_in _ (by omega)
      have HB := Lib.hid hB
      clear c0 c1 c2 c3 hB
      go_wp2_with (at_builtin; refine wpList_append_fits _ rfl _ _ 128 rfl (w.heap.size + 1) 137 i0 2 Tryz.underlying128 hi hz1 W.heap.size k (n + 2) _ rfl ((hown.alloc _).alloc _) _ 1 1 [.int .i64 (l - (u k).l), .int .i64 ((u k).c - c)] rfl rfl (World.news_of_block (cs := #[.int .i64 (l - (u k).l), .int .i64 ((u k).c - c)]) (t := 137) (fr := (0, 0)) (heap_new_at _ _ _ (by simp))) (by simp [Value.oneCell']) (by omega) ?_; intro w2 hown2 hgr2)
      go_roundw
      case rel =>
        have hs2 := hgr2.size
        simp at hs2
        refine ⟨k + 1, by omega, by go_num, rfl, ?_, (Below.alloc1 (Below.alloc1 HB.out _ (Nat.le_refl _)) _ (Nat.le_refl _)).grown hgr2 (by simp; omega) (fun j h => by cases h; exact Nat.le_refl _), by omega⟩
        simpa [catF, roomCells, roomF, hlt] using hown2
      case measure => simp [intOf]; omega
    · obtain rfl : k = n := by omega
      have hc1 : catF (fun i => roomCells (roomF k u l c i)) (k + 2) = catF (fun i => roomCells (roomF k u l c i)) k ++ [.int .i64 (-1), .int .i64 0, .int .i64 0, .int .i64 (-1)] := by
        have r0 : roomF k u l c k = (-1, 0) := by unfold roomF; rw [if_neg (Nat.lt_irrefl k), if_pos rfl]
        have r1 : roomF k u l c (k + 1) = (0, -1) := by unfold roomF; rw [if_neg (by omega), if_neg (by omega)]
        show (catF (fun i => roomCells (roomF k u l c i)) k ++ roomCells (roomF k u l c k)) ++ roomCells (roomF k u l c (k + 1)) = _
        rw [r0, r1, List.append_assoc]
        rfl
      have Hc1 := Lib.hid hc1
      clear hc1
      have HB := Lib.hid hB
      clear hB e0 e1 e2 e3 e4 ez
      go_wp2_with (at_builtin; refine wpList_append_fits _ rfl _ _ 128 rfl (w.heap.size + 1) 137 i0 2 Tryz.underlying128 hi hz1 W.heap.size k (k + 2) _ rfl (hown.alloc _) _ 2 2 [.int .i64 (-1), .int .i64 0, .int .i64 0, .int .i64 (-1)] rfl rfl (World.news_of_block (cs := #[.int .i64 (-1), .int .i64 0, .int .i64 0, .int .i64 (-1)]) (t := 137) (fr := (0, 0)) (heap_new_at _ _ _ rfl)) (by simp [Value.oneCell']) (by omega) ?_; intro w2 hown2 hgr2)
      rw [← Hc1.out] at hown2
      obtain ⟨hg1, hg2, hcells⟩ := rooms_of_own hown2
      go_ret
      have hs2 := hgr2.size
      simp at hs2
      refine ⟨W.heap.size, by omega, hg2, rfl, hcells, ?_⟩
      exact bup hB0 ((Below.alloc1 HB.out _ (Nat.le_refl _)).grown hgr2 (by simp; omega) (fun j h => by cases h; exact Nat.le_refl _))

end Go.Proofs.YtehafggcncbnkaaGreat

namespace Go.Proofs.YtehafggcncbnkaaGreat
open Go Go.RowKit Go.Shelf
attribute [local go_sem] Oper.semAt_some

/-- The triples that begin with i, j, up to m; those that begin with i, up to m; those up to m. -/
def rowK (i j m : Nat) : List (Nat × Nat × Nat) := (List.range (m - (j + 1))).map fun t => (i, j, j + 1 + t)
def rowJ (n i m : Nat) : List (Nat × Nat × Nat) := catF (fun t => rowK i (i + 1 + t) n) (m - (i + 1))
def rowI (n m : Nat) : List (Nat × Nat × Nat) := catF (fun i => rowJ n i n) m
def triL (n : Nat) : List (Nat × Nat × Nat) := rowI n n

theorem catF_pre {α : Type} (g : Nat → List α) {a b : Nat} (h : a ≤ b) : catF g a <+: catF g b := by
  induction b with
  | zero => obtain rfl : a = 0 := by omega
            exact List.prefix_refl _
  | succ b ih =>
    by_cases e : a = b + 1
    · subst e; exact List.prefix_refl _
    · exact (ih (by omega)).trans (List.prefix_append _ _)

theorem rowK_succ {i j k : Nat} (h : j < k) : rowK i j (k + 1) = rowK i j k ++ [(i, j, k)] := by
  unfold rowK
  rw [show k + 1 - (j + 1) = (k - (j + 1)) + 1 by omega, List.range_succ, List.map_append]
  simp
  omega

theorem rowK_pre {i j k n : Nat} (h : k ≤ n) : rowK i j k <+: rowK i j n := by
  unfold rowK
  obtain ⟨d, hd⟩ : ∃ d, n - (j + 1) = (k - (j + 1)) + d := ⟨n - (j + 1) - (k - (j + 1)), by omega⟩
  rw [hd, List.range_add, List.map_append]
  exact List.prefix_append _ _

theorem rowJ_succ {n i j : Nat} (h : i < j) : rowJ n i (j + 1) = rowJ n i j ++ rowK i j n := by
  unfold rowJ
  rw [show j + 1 - (i + 1) = (j - (i + 1)) + 1 by omega]
  simp only [catF]
  rw [show i + 1 + (j - (i + 1)) = j by omega]

theorem rowJ_pre {n i a b : Nat} (h : a ≤ b) : rowJ n i a <+: rowJ n i b := catF_pre _ (by omega)
theorem rowI_succ (n i : Nat) : rowI n (i + 1) = rowI n i ++ rowJ n i n := rfl
theorem rowK_zero (i j : Nat) : rowK i j (j + 1) = [] := by simp [rowK]
theorem rowJ_zero (n i : Nat) : rowJ n i (i + 1) = [] := by simp [rowJ, catF]

theorem tri_pre {n i j k : Nat} (h1 : i < j) (h2 : j < k) (h3 : k < n) : (rowI n i ++ rowJ n i j ++ rowK i j k) ++ [(i, j, k)] <+: triL n := by
  have p1 : rowK i j k ++ [(i, j, k)] <+: rowK i j n := by rw [← rowK_succ h2]; exact rowK_pre (by omega)
  have p2 : rowJ n i j ++ rowK i j n <+: rowJ n i n := by rw [← rowJ_succ h1]; exact rowJ_pre (by omega)
  have p3 : rowI n i ++ rowJ n i n <+: triL n := by rw [← rowI_succ]; exact catF_pre _ (by omega)
  refine List.IsPrefix.trans ?_ p3
  rw [List.append_assoc, List.append_assoc]
  refine (List.prefix_append_right_inj _).2 (List.IsPrefix.trans ?_ p2)
  exact (List.prefix_append_right_inj _).2 p1

theorem at_pre {α : Type} {p l : List α} {x : α} (h : p ++ [x] <+: l) : ∃ hk : p.length < l.length, l[p.length] = x := by
  obtain ⟨r, rfl⟩ := h
  exact ⟨by simp, by simp⟩

abbrev triV (t : Nat × Nat × Nat) : Value := .agg #[.int .i64 t.1, .int .i64 t.2.1, .int .i64 t.2.2]

set_option maxHeartbeats 400000 in
theorem triples_c (n : Nat) (w : World) :
    Calls Tryz.prog 97 #[.int .i64 n] w fun e w' => e = .returned (.func (.func 111) #[] #[.pointer (some ⟨w.heap.size, 0, none⟩)]) ∧ w.alloc (.cells #[.int .i64 n] 3) = w' := by
  go_enter Tryz.func97, Tryz.ntmps97
  go_wp2_with fail
  go_ret
  exact ⟨rfl, rfl⟩

set_option maxRecDepth 100000 in
set_option maxHeartbeats 2000000 in
theorem triples1_in (F : Fence) (m : Nat) (hF : F.fn 111) (hro : F.round = none) (hm : 1 ≤ m) (l Bn D n : Nat) (J Jx : Nat → World → Prop) (W : World) (hBn : RowIs W Bn #[.int .i64 n] 3) (hn : n ≤ 1000) (hD : W.heap.size = D)
    (hJ : ∀ k A B, J k A → Below D A B → J k B)
    (hY : ∀ k (_ : k < (triL n).length) A, D ≤ A.heap.size → J k A → YieldAt F (m - 1) Tryz.prog l #[triV (triL n)[k]] A fun e B => (e = .returned (.bool true) ∧ J (k + 1) B ∧ Spares (· = Bn) D A B) ∨ (e = .returned (.bool false) ∧ Jx (k + 1) B ∧ Spares (· = Bn) D A B))
    (h0 : J 0 W) :
    CallsIn F m Tryz.prog 111 #[.func (.yield l) #[] #[], .pointer (some ⟨Bn, 0, none⟩)] W fun e B => (∃ v, e = .returned v) ∧ (J (triL n).length B ∨ ∃ k, Jx k B) := by
  refine callsIn_of_wp Tryz.func111 rfl hF ?_ hro
  simp only [Tryz.ntmps111, List.size_toArray, List.length_cons, List.length_nil, Nat.reduceAdd, Nat.reduceSub, Array.replicate_succ, Array.replicate_zero, List.push_toArray, List.append_toArray, List.nil_append, List.cons_append]
  have e0 : W.cell? ⟨Bn, 0, none⟩ = some (.int .i64 n) := hBn.cell 0
  gi_wp2
  have HB := Lib.hid hBn
  have HY := Lib.hid hY
  have HJ := Lib.hid hJ
  have HD := Lib.hid hD
  clear e0 hBn hY hJ hD
  gi_loopw [7] (fun s wr => ∃ i : Nat, i ≤ n ∧ s = .int .i64 i ∧ J (rowI n i).length wr ∧ RowIs wr Bn #[.int .i64 n] 3 ∧ D ≤ wr.heap.size) (fun s _ => n - (intOf s).toNat)
  case atStart => exact ⟨0, Nat.zero_le _, rfl, h0, HB.out, Nat.le_of_eq HD.out.symm⟩
  case round =>
    obtain ⟨i, hi, rfl, hj, hb, hz⟩ := hrel
    have HJi := Lib.hid hj
    have HBi := Lib.hid hb
    clear hj hb h0
    by_cases hin : i < n
    · gi_wp2
      gi_loopw [4] (fun s wr => ∃ j : Nat, i < j ∧ j ≤ n ∧ s = .int .i64 j ∧ J (rowI n i ++ rowJ n i j).length wr ∧ RowIs wr Bn #[.int .i64 n] 3 ∧ D ≤ wr.heap.size) (fun s _ => n - (intOf s).toNat)
      case atStart => exact ⟨i + 1, by omega, by omega, by go_num, by rw [rowJ_zero, List.append_nil]; exact HJi.out, HBi.out, hz⟩
      case round =>
        clear HJi HBi hz
        obtain ⟨j, hij, hjn, rfl, hj, hb, hz⟩ := hrel
        have e0 : wr.cell? ⟨Bn, 0, none⟩ = some (.int .i64 n) := hb.cell 0
        have HJj := Lib.hid hj
        have HBj := Lib.hid hb
        clear hj hb
        by_cases hjl : j < n
        · gi_wp2
          gi_loopw [5] (fun s wr => ∃ k : Nat, j < k ∧ k ≤ n ∧ s = .int .i64 k ∧ J (rowI n i ++ rowJ n i j ++ rowK i j k).length wr ∧ RowIs wr Bn #[.int .i64 n] 3 ∧ D ≤ wr.heap.size) (fun s _ => n - (intOf s).toNat)
          case atStart => exact ⟨j + 1, by omega, by omega, by go_num, by rw [rowK_zero, List.append_nil]; exact HJj.out, HBj.out, hz⟩
          case round =>
            clear HJj HBj hz e0
            obtain ⟨k, hjk, hkn, rfl, hj, hb, hz⟩ := hrel
            have e0 : wr.cell? ⟨Bn, 0, none⟩ = some (.int .i64 n) := hb.cell 0
            by_cases hkl : k < n
            · obtain ⟨hlen, hat⟩ := at_pre (tri_pre hij hjk hkl)
              have hyy := HY.out _ hlen wr hz hj
              rw [hat] at hyy
              obtain ⟨fn, tmps, assign, body, hy, hR⟩ := hyy
              try dsimp only at hy
              have HBk := Lib.hid hb
              clear hj hb hat hlen
              gi_wp2
              refine hR.mono ?_
              rintro e W3 (⟨rfl, hJ3, hS3⟩ | ⟨rfl, hJx3, hS3⟩)
              · gi_wp2
                go_roundw
                case rel => exact ⟨k + 1, by omega, by omega, by go_num, by rw [rowK_succ hjk, ← List.append_assoc, List.length_append]; exact hJ3, (hS3.block Bn (Array.getElem?_eq_some_iff.1 HBk.out).1 (.inl rfl)).trans HBk.out, Nat.le_trans hz hS3.size⟩
                case measure => simp [intOf]; omega
              · gi_wp2
                refine bodyPost_ret (results_none rfl _ _ _) rfl ?_
                exact ⟨⟨_, rfl⟩, .inr ⟨_, hJx3⟩⟩
            · obtain rfl : k = n := by omega
              gi_wp2
              go_roundw
              case rel => exact ⟨j + 1, by omega, by omega, by go_num, by rw [rowJ_succ hij, ← List.append_assoc]; exact hj, hb, hz⟩
              case measure => simp [intOf]; omega
        · obtain rfl : j = n := by omega
          gi_wp2
          go_roundw
          case rel => exact ⟨i + 1, by omega, by go_num, by rw [rowI_succ]; exact HJj.out, HBj.out, hz⟩
          case measure => simp [intOf]; omega
    · obtain rfl : i = n := by omega
      gi_wp2
      go_end0
      exact ⟨⟨_, rfl⟩, .inl HJi.out⟩

/-- The iterator that triples hands back yields all triples. -/
theorem triples_gives (Bn n : Nat) (w : World) (hBn : RowIs w Bn #[.int .i64 n] 3) (hn : n ≤ 1000) :
    Gives Tryz.prog 111 #[] #[.pointer (some ⟨Bn, 0, none⟩)] (· = Bn) ((triL n).map fun t => #[triV t]) w := by
  intro l J Jx W hW hz hJ hJx hY h0
  have hb : RowIs W Bn #[.int .i64 n] 3 := (hW Bn rfl).2.trans hBn
  have := triples1_in Fence.wide 1 trivial rfl (Nat.le_refl _) l Bn W.heap.size n J Jx W hb hn rfl hJ (fun k hk A hA hj => by
    have := hY k (by simpa using hk) A hA hj
    simpa using this) h0
  refine (callsIn_wide.1 this).mono ?_
  rintro e B ⟨hv, h⟩
  exact ⟨hv, by simpa using h⟩

end Go.Proofs.YtehafggcncbnkaaGreat

namespace Go.Proofs.YtehafggcncbnkaaGreat
open Go Go.RowKit

abbrev Tri := Nat × Nat × Nat
def upd (f : Nat → Int) (x : Nat) (v : Int) (y : Nat) : Int := if y = x then v else f y
def putP (n : Nat) (f : Nat → Int) (x : Nat) (v : Int) : Nat → Int := if x < n then upd f x v else f
def partsOf (r : Nat → Int × Int) (t : Tri) : Nat → Int := evenF (r t.1) (r t.2.1) (r t.2.2)
/-- The number of a part's metal. -/
def triAt (t : Tri) : Nat → Nat
  | 0 => t.1
  | 1 => t.2.1
  | _ => t.2.2
/-- The mixture, when j parts of it are known. -/
def mixAt (n : Nat) (r : Nat → Int × Int) (t : Tri) : Nat → Nat → Int
  | 0 => fun _ => 0
  | j + 1 => putP n (mixAt n r t j) (triAt t j) (partsOf r t j)
def mixOf (n : Nat) (r : Nat → Int × Int) (t : Tri) : Nat → Int := mixAt n r t 3
def zero6 (f : Nat → Int) : Bool := f 0 == 0 && (f 1 == 0 && (f 2 == 0 && (f 3 == 0 && (f 4 == 0 && f 5 == 0))))
def cornB (n : Nat) (r : Nat → Int × Int) (t : Tri) : Bool := decide (0 ≤ partsOf r t 0 ∧ 0 ≤ partsOf r t 1 ∧ 0 ≤ partsOf r t 2) && !zero6 (mixOf n r t)
def cornL (n : Nat) (r : Nat → Int × Int) : List (Nat → Int) := ((triL (n + 2)).filter (cornB n r)).map (mixOf n r)
/-- How many corners the first k triples have. -/
def cornN (n : Nat) (r : Nat → Int × Int) (k : Nat) : Nat := (((triL (n + 2)).take k).filter (cornB n r)).length

theorem cornN_zero (n : Nat) (r : Nat → Int × Int) : cornN n r 0 = 0 := by simp [cornN]
theorem cornN_all (n : Nat) (r : Nat → Int × Int) : cornN n r (triL (n + 2)).length = (cornL n r).length := by simp [cornN, cornL]
theorem cornN_no {n : Nat} {r : Nat → Int × Int} {k : Nat} (h : k < (triL (n + 2)).length) (hb : cornB n r (triL (n + 2))[k] = false) : cornN n r (k + 1) = cornN n r k := by
  unfold cornN
  rw [List.take_succ_eq_append_getElem h, List.filter_append]
  simp [hb]
theorem cornN_yes {n : Nat} {r : Nat → Int × Int} {k : Nat} (h : k < (triL (n + 2)).length) (hb : cornB n r (triL (n + 2))[k] = true) : cornN n r (k + 1) = cornN n r k + 1 := by
  unfold cornN
  rw [List.take_succ_eq_append_getElem h, List.filter_append]
  simp [hb]
theorem corn_at {n : Nat} {r : Nat → Int × Int} {k : Nat} (h : k < (triL (n + 2)).length) (hb : cornB n r (triL (n + 2))[k] = true) : ∃ hk : cornN n r k < (cornL n r).length, (cornL n r)[cornN n r k] = mixOf n r (triL (n + 2))[k] := by
  have hp : ((triL (n + 2)).take k).filter (cornB n r) ++ [(triL (n + 2))[k]] <+: (triL (n + 2)).filter (cornB n r) := by
    have : ((triL (n + 2)).take (k + 1)).filter (cornB n r) = ((triL (n + 2)).take k).filter (cornB n r) ++ [(triL (n + 2))[k]] := by
      rw [List.take_succ_eq_append_getElem h, List.filter_append]
      simp [hb]
    rw [← this]
    exact (List.take_prefix _ _).filter _
  obtain ⟨hk, he⟩ := at_pre hp
  refine ⟨by simpa [cornL, cornN] using hk, ?_⟩
  simp only [cornL, List.getElem_map]
  congr 1

theorem mem_catF {α : Type} {g : Nat → List α} {x : α} : ∀ n, x ∈ catF g n → ∃ i, i < n ∧ x ∈ g i
  | 0, h => by simp [catF] at h
  | n + 1, h => by
    simp only [catF, List.mem_append] at h
    rcases h with h | h
    · obtain ⟨i, hi, hx⟩ := mem_catF n h
      exact ⟨i, by omega, hx⟩
    · exact ⟨n, by omega, h⟩

theorem tri_mem {N : Nat} {t : Tri} (h : t ∈ triL N) : t.1 < t.2.1 ∧ t.2.1 < t.2.2 ∧ t.2.2 < N := by
  obtain ⟨i, hi, h⟩ := mem_catF N h
  obtain ⟨j, hj, h⟩ := mem_catF _ h
  unfold rowK at h
  rw [List.mem_map] at h
  obtain ⟨k, hk, rfl⟩ := h
  rw [List.mem_range] at hk
  simp only
  omega

/-- Triple number k. -/
def triK (n k : Nat) : Tri := (triL (n + 2)).getD k (0, 0, 0)
theorem triK_get {n k : Nat} (h : k < (triL (n + 2)).length) : (triL (n + 2))[k] = triK n k := by simp [triK, List.getD, h]
theorem triK_lt {n k : Nat} (h : k < (triL (n + 2)).length) : (triK n k).1 < (triK n k).2.1 ∧ (triK n k).2.1 < (triK n k).2.2 ∧ (triK n k).2.2 < n + 2 := by
  rw [← triK_get h]
  exact tri_mem (List.getElem_mem h)
theorem triK_arg {n k : Nat} (hk : k < ((triL (n + 2)).map fun t => #[triV t]).length) : ((triL (n + 2)).map fun t => #[triV t])[k] = #[triV (triK n k)] := by
  rw [List.getElem_map, triK_get (by simpa using hk)]

/-- A mixture's row. -/
def mixRow (f : Nat → Int) : Array Value := #[.int .i64 (f 0), .int .i64 (f 1), .int .i64 (f 2), .int .i64 (f 3), .int .i64 (f 4), .int .i64 (f 5)]

theorem mixRow_set (f : Nat → Int) (x : Nat) (v : Int) (h : x < 6) : (mixRow f).setIfInBounds x (.int .i64 v) = mixRow (upd f x v) := by
  have : x = 0 ∨ x = 1 ∨ x = 2 ∨ x = 3 ∨ x = 4 ∨ x = 5 := by omega
  rcases this with rfl | rfl | rfl | rfl | rfl | rfl <;> simp [mixRow, upd]

theorem mixRow_at (f : Nat → Int) (x : Nat) (h : x < 6) : (mixRow f)[x]? = some (.int .i64 (f x)) := by
  have : x = 0 ∨ x = 1 ∨ x = 2 ∨ x = 3 ∨ x = 4 ∨ x = 5 := by omega
  rcases this with rfl | rfl | rfl | rfl | rfl | rfl <;> rfl

end Go.Proofs.YtehafggcncbnkaaGreat

namespace Go.Proofs.YtehafggcncbnkaaGreat
open Go.RowKit

set_option maxRecDepth 100000 in
set_option maxHeartbeats 1000000 in
theorem eqMix (x0 x1 x2 x3 x4 x5 : Int) (w : World) :
    (Op.equalIn 10000 88 (.agg #[.int .i64 x0, .int .i64 x1, .int .i64 x2, .int .i64 x3, .int .i64 x4, .int .i64 x5]) (.agg #[.int .i64 0, .int .i64 0, .int .i64 0, .int .i64 0, .int .i64 0, .int .i64 0])).run Tryz.prog w =
      .ok (x0 == 0 && (x1 == 0 && (x2 == 0 && (x3 == 0 && (x4 == 0 && x5 == 0))))) w := by
  rw [show (10000 : Nat) = 9999 + 1 from rfl]
  unfold Op.equalIn
  have e9 : ∀ (x y : Int) (w : World), (Op.equalIn 9999 2 (.int .i64 x) (.int .i64 y)).run Tryz.prog w = .ok (x == y) w := fun x y w => eq64 9998 x y w
  have p0 : ∀ (a b c d e f : Value) (w : World), (part 2 #[a, b, c, d, e, f] 0).run Tryz.prog w = .ok a w := fun _ _ _ _ _ _ _ => by kernel_rfl
  have p1 : ∀ (a b c d e f : Value) (w : World), (part 2 #[a, b, c, d, e, f] 1).run Tryz.prog w = .ok b w := fun _ _ _ _ _ _ _ => by kernel_rfl
  have p2 : ∀ (a b c d e f : Value) (w : World), (part 2 #[a, b, c, d, e, f] 2).run Tryz.prog w = .ok c w := fun _ _ _ _ _ _ _ => by kernel_rfl
  have p3 : ∀ (a b c d e f : Value) (w : World), (part 2 #[a, b, c, d, e, f] 3).run Tryz.prog w = .ok d w := fun _ _ _ _ _ _ _ => by kernel_rfl
  have p4 : ∀ (a b c d e f : Value) (w : World), (part 2 #[a, b, c, d, e, f] 4).run Tryz.prog w = .ok e w := fun _ _ _ _ _ _ _ => by kernel_rfl
  have p5 : ∀ (a b c d e f : Value) (w : World), (part 2 #[a, b, c, d, e, f] 5).run Tryz.prog w = .ok f w := fun _ _ _ _ _ _ _ => by kernel_rfl
  simp [run_underlying Tryz.underlying88]
  rw [show List.range' 0 6 = [0, 1, 2, 3, 4, 5] from rfl]
  cases h0 : (x0 == 0) <;> cases h1 : (x1 == 0) <;> cases h2 : (x2 == 0) <;> cases h3 : (x3 == 0) <;> cases h4 : (x4 == 0) <;> cases h5 : (x5 == 0) <;> simp [p0, p1, p2, p3, p4, p5, e9, h0, h1, h2, h3, h4, h5]
end Go.Proofs.YtehafggcncbnkaaGreat
