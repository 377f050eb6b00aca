/- Contracts of package alloy: what a proof gives rows. -/
import Derived.Test.YtehafggcncbnkaaGreatProg
import Derived.Test.YtehafggcncbnkaaGreatBasaa
import Derived.Test.YtehafggcncbnkaaGreatBasab
import Derived.Test.YtehafggcncbnkaaGreatBasad
import Derived.Test.YtehafggcncbnkaaGreatBasaf
namespace Go.Proofs.YtehafggcncbnkaaGreat
open Go.RowKit

abbrev rowV (u : U4) : Value := .agg #[.int .i64 u.q, .int .i64 u.p, .int .i64 u.l, .int .i64 u.c]
def U4.at (u : U4) : Nat → Int
  | 0 => u.q
  | 1 => u.p
  | 2 => u.l
  | _ => u.c
def dotR (a b : U4) : Int := a.q * b.q + a.p * b.p + a.l * b.l + a.c * b.c
/-- Each product is far from the ends of int64. -/
def Mild (a b : U4) : Prop := ∀ k, -1152921504606846976 ≤ a.at k * b.at k ∧ a.at k * b.at k ≤ 1152921504606846976

theorem dot_sum (a b : U4) : sumF (fun i => a.at i * b.at i) 4 = dotR a b := by
  simp [sumF, U4.at, dotR]

set_option maxHeartbeats 2000000 in
theorem dot_c (a b : U4) (w : World) (h : Mild a b) :
    Calls Tryz.prog 102 #[rowV a, rowV b] w fun e w' => e = .returned (.int .i64 (dotR a b)) ∧ Below w.heap.size w w' := by
  obtain ⟨W, hW⟩ : ∃ W, (w.alloc (.cells #[.int .i64 a.q, .int .i64 a.p, .int .i64 a.l, .int .i64 a.c] 92)).alloc (.cells #[.int .i64 b.q, .int .i64 b.p, .int .i64 b.l, .int .i64 b.c] 92) = W := ⟨_, rfl⟩
  have hB0 : Below w.heap.size w W := by rw [← hW]; exact Below.alloc1 (Below.alloc1 (Below.refl _ _) _ (Nat.le_refl _)) _ (Nat.le_refl _)
  have hA : RowIs W w.heap.size #[.int .i64 a.q, .int .i64 a.p, .int .i64 a.l, .int .i64 a.c] 92 := by rw [← hW]; exact RowIs.alloc (heap_new_at _ _ _ rfl) _
  have hC : RowIs W (w.heap.size + 1) #[.int .i64 b.q, .int .i64 b.p, .int .i64 b.l, .int .i64 b.c] 92 := by rw [← hW]; exact heap_new_at _ _ _ (by simp)
  have a0 := hA.cell 0
  have a1 := hA.cell 1
  have a2 := hA.cell 2
  have a3 := hA.cell 3
  have b0 := hC.cell 0
  have b1 := hC.cell 1
  have b2 := hC.cell 2
  have b3 := hC.cell 3
  simp at a0 a1 a2 a3 b0 b1 b2 b3
  have hz1 : w.heap.size + 1 < W.heap.size := (Array.getElem?_eq_some_iff.1 hC).1
  have hz0 : w.heap.size < W.heap.size := by omega
  have m0 : -1152921504606846976 ≤ a.q * b.q ∧ a.q * b.q ≤ 1152921504606846976 := h 0
  have m1 : -1152921504606846976 ≤ a.p * b.p ∧ a.p * b.p ≤ 1152921504606846976 := h 1
  have m2 : -1152921504606846976 ≤ a.l * b.l ∧ a.l * b.l ≤ 1152921504606846976 := h 2
  have m3 : -1152921504606846976 ≤ a.c * b.c ∧ a.c * b.c ≤ 1152921504606846976 := h 3
  have x0 : IntKind.i64.wrap (a.q * b.q) = a.q * b.q := IntWalk.i64_in _ (by omega)
  have x1 : IntKind.i64.wrap (a.p * b.p) = a.p * b.p := IntWalk.i64_in _ (by omega)
  have x2 : IntKind.i64.wrap (a.l * b.l) = a.l * b.l := IntWalk.i64_in _ (by omega)
  have x3 : IntKind.i64.wrap (a.c * b.c) = a.c * b.c := IntWalk.i64_in _ (by omega)
  have y0 : IntKind.i64.wrap (0 + a.q * b.q) = a.q * b.q := by rw [Int.zero_add]; exact x0
  have y1 : IntKind.i64.wrap (a.q * b.q + a.p * b.p) = a.q * b.q + a.p * b.p := IntWalk.i64_in _ (by omega)
  have y2 : IntKind.i64.wrap (a.q * b.q + a.p * b.p + a.l * b.l) = a.q * b.q + a.p * b.p + a.l * b.l := IntWalk.i64_in _ (by omega)
  have y3 : IntKind.i64.wrap (a.q * b.q + a.p * b.p + a.l * b.l + a.c * b.c) = a.q * b.q + a.p * b.p + a.l * b.l + a.c * b.c := IntWalk.i64_in _ (by omega)
  clear hA hC h m0 m1 m2 m3
  go_enter Tryz.func102, Tryz.ntmps102
  go_wp2_with fail
  clear hW
  go_loopw [5, 7] (fun v i wr => (∃ q, wr = W.drewN q) ∧ ((i = .int .i64 0 ∧ v = .int .i64 0) ∨ (i = .int .i64 1 ∧ v = .int .i64 (a.q * b.q)) ∨ (i = .int .i64 2 ∧ v = .int .i64 (a.q * b.q + a.p * b.p)) ∨ (i = .int .i64 3 ∧ v = .int .i64 (a.q * b.q + a.p * b.p + a.l * b.l)) ∨ (i = .int .i64 4 ∧ v = .int .i64 (dotR a b)))) (fun _ i _ => 4 - (intOf i).toNat)
  case atStart => exact ⟨⟨0, rfl⟩, .inl ⟨rfl, rfl⟩⟩
  case round =>
    obtain ⟨⟨q, rfl⟩, hc⟩ := hrel
    rcases hc with ⟨rfl, rfl⟩ | ⟨rfl, rfl⟩ | ⟨rfl, rfl⟩ | ⟨rfl, rfl⟩ | ⟨rfl, rfl⟩
    · go_wp2_with fail
      go_quiet (fail)
      go_wp2_with fail
      go_roundw
      case rel => exact ⟨⟨_, rfl⟩, .inr (.inl ⟨rfl, rfl⟩)⟩
      case measure => simp [intOf]
    · go_wp2_with fail
      go_quiet (fail)
      go_wp2_with fail
      go_roundw
      case rel => exact ⟨⟨_, rfl⟩, .inr (.inr (.inl ⟨rfl, rfl⟩))⟩
      case measure => simp [intOf]
    · go_wp2_with fail
      go_quiet (fail)
      go_wp2_with fail
      go_roundw
      case rel => exact ⟨⟨_, rfl⟩, .inr (.inr (.inr (.inl ⟨rfl, rfl⟩)))⟩
      case measure => simp [intOf]
    · go_wp2_with fail
      go_quiet (fail)
      go_wp2_with fail
      go_roundw
      case rel => exact ⟨⟨_, rfl⟩, .inr (.inr (.inr (.inr ⟨rfl, rfl⟩)))⟩
      case measure => simp [intOf]
    · go_wp2_with fail
      go_ret
      exact ⟨rfl, below_drewN hB0 _⟩

def facU (p : P4) : U4 := ⟨p.b, -p.d, -p.l, p.c⟩

set_option maxHeartbeats 1000000 in
theorem factors_c (p : P4) (w : World) (hd : -4611686018427387904 ≤ p.d ∧ p.d ≤ 4611686018427387904) (hl : -4611686018427387904 ≤ p.l ∧ p.l ≤ 4611686018427387904) :
    Calls Tryz.prog 103 #[proofV p] w fun e w' => e = .returned (rowV (facU p)) ∧ Below w.heap.size w w' := by
  obtain ⟨W, hW⟩ : ∃ W, (w.alloc (.cells #[.int .i64 p.d, .int .i64 p.b, .int .i64 p.l, .int .i64 p.c] 45)).alloc (.cells #[.int .i64 0, .int .i64 0, .int .i64 0, .int .i64 0] 92) = W := ⟨_, rfl⟩
  have hB0 : Below w.heap.size w W := by rw [← hW]; exact Below.alloc1 (Below.alloc1 (Below.refl _ _) _ (Nat.le_refl _)) _ (Nat.le_refl _)
  have hA : RowIs W w.heap.size #[.int .i64 p.d, .int .i64 p.b, .int .i64 p.l, .int .i64 p.c] 45 := by rw [← hW]; exact RowIs.alloc (heap_new_at _ _ _ rfl) _
  have hC : RowIs W (w.heap.size + 1) #[.int .i64 0, .int .i64 0, .int .i64 0, .int .i64 0] 92 := by rw [← hW]; exact heap_new_at _ _ _ (by simp)
  have a0 := hA.cell 0
  have a1 := hA.cell 1
  have a2 := hA.cell 2
  have a3 := hA.cell 3
  have b0 := hC.cell 0
  have b1 := hC.cell 1
  have b2 := hC.cell 2
  have b3 := hC.cell 3
  have z0 := hC.frozen 0
  have z1 := hC.frozen 1
  have z2 := hC.frozen 2
  have z3 := hC.frozen 3
  simp at a0 a1 a2 a3 b0 b1 b2 b3
  have hz1 : w.heap.size + 1 < W.heap.size := (Array.getElem?_eq_some_iff.1 hC).1
  have x1 : IntKind.i64.wrap (-p.d) = -p.d := IntWalk.i64_in _ (by omega)
  have x2 : IntKind.i64.wrap (-p.l) = -p.l := IntWalk.i64_in _ (by omega)
  clear hA
  have HC := Lib.hid hC
  clear hC
  go_enter Tryz.func103, Tryz.ntmps103
  go_wp2_with fail
  clear hW
  have f0 : RowIs _ (w.heap.size + 1) _ 92 := (((HC.out.set 0 (.int .i64 p.b)).set 1 (.int .i64 (-p.d))).set 2 (.int .i64 (-p.l))).set 3 (.int .i64 p.c)
  have g0 := f0.cell 0
  have g1 := f0.cell 1
  have g2 := f0.cell 2
  have g3 := f0.cell 3
  simp at g0 g1 g2 g3
  clear f0 b0 b1 b2 b3 z0 z1 z2 z3
  refine bodyPost_ret (v := rowV (facU p)) (by simp [results, Tryz.results103, go_sem, g0, g1, g2, g3, facU]) rfl ⟨rfl, ?_⟩
  exact (((hB0.setCell (p := ⟨w.heap.size + 1, 0, none⟩) (Nat.le_succ _) _).setCell (p := ⟨w.heap.size + 1, 1, none⟩) (Nat.le_succ _) _).setCell (p := ⟨w.heap.size + 1, 2, none⟩) (Nat.le_succ _) _).setCell (p := ⟨w.heap.size + 1, 3, none⟩) (Nat.le_succ _) _

def noneB (f : U4) (u : Nat → U4) : Nat → Bool
  | 0 => true
  | k + 1 => noneB f u k && decide (dotR f (u k) ≤ 0)

theorem noneB_no (f : U4) (u : Nat → U4) (k : Nat) : ∀ n, k < n → 0 < dotR f (u k) → noneB f u n = false
  | 0, h, _ => by omega
  | n + 1, h, hb => by
    by_cases e : k = n
    · subst e; simp [noneB]; intro _; omega
    · simp [noneB, noneB_no f u k n (by omega) hb]

set_option maxHeartbeats 2000000 in
theorem noneAbove_c (a : Option Addr) (n cap : Nat) (u : Nat → U4) (p : P4) (w : World) (hu : Units w a n u) (hn : n ≤ 1048576) (hM : ∀ i, i < n → Mild (facU p) (u i))
    (hd : -4611686018427387904 ≤ p.d ∧ p.d ≤ 4611686018427387904) (hl : -4611686018427387904 ≤ p.l ∧ p.l ≤ 4611686018427387904) :
    Calls Tryz.prog 101 #[.slice a n cap, proofV p] w fun e w' => e = .returned (.bool (noneB (facU p) u n)) ∧ Below w.heap.size w w' := by
  have hB0 : Below w.heap.size w (w.alloc (.cells #[.int .i64 p.d, .int .i64 p.b, .int .i64 p.l, .int .i64 p.c] 45)) := Below.alloc1 (Below.refl _ _) _ (Nat.le_refl _)
  have HM := Lib.hid hM
  clear hM
  go_enter Tryz.func101, Tryz.ntmps101
  go_wp2_with fail
  refine (factors_c p _ hd hl).mono ?_
  rintro e w1 ⟨rfl, hb1⟩
  have hB1 := bup hB0 hb1
  go_wp2_with fail
  obtain ⟨W, hW⟩ : ∃ W, w1.alloc (.cells #[.int .i64 (facU p).q, .int .i64 (facU p).p, .int .i64 (facU p).l, .int .i64 (facU p).c] 92) = W := ⟨_, rfl⟩
  have hA : RowIs W w1.heap.size #[.int .i64 (facU p).q, .int .i64 (facU p).p, .int .i64 (facU p).l, .int .i64 (facU p).c] 92 := by rw [← hW]; exact heap_new_at _ _ _ rfl
  have hBW : Below w.heap.size w W := by rw [← hW]; exact Below.alloc1 hB1 _ (Nat.le_refl _)
  have hz1 : w1.heap.size < W.heap.size := (Array.getElem?_eq_some_iff.1 hA).1
  have a0 := hA.cell 0
  have a1 := hA.cell 1
  have a2 := hA.cell 2
  have a3 := hA.cell 3
  simp at a0 a1 a2 a3
  try rw [hW]
  clear hW hA
  have hu0 := hu.below hBW
  clear hu
  go_loopw [12] (fun i wr => ∃ k : Nat, k ≤ n ∧ i = .int .i64 k ∧ noneB (facU p) u k = true ∧ Below W.heap.size W wr) (fun i _ => n - (intOf i).toNat)
  case atStart => exact ⟨0, Nat.zero_le _, rfl, rfl, Below.refl _ _⟩
  case round =>
    obtain ⟨k, hk, rfl, ho, hB⟩ := hrel
    have Ho := Lib.hid ho
    clear ho
    by_cases hlt : k < n
    · obtain ⟨ab, ao, rfl, has, c0, c1, c2, c3⟩ := Units.at (hu0.below hB) k hlt
      obtain ⟨hcc, hff⟩ := bcell hB
      have r0 := (hcc _ 0 hz1).trans a0
      have r1 := (hcc _ 1 hz1).trans a1
      have r2 := (hcc _ 2 hz1).trans a2
      have r3 := (hcc _ 3 hz1).trans a3
      clear hcc hff a0 a1 a2 a3
      have hzr := Nat.lt_of_lt_of_le hz1 hB.size
      by_cases hle : dotR (facU p) (u k) ≤ 0
      · have hd1 : decide (0 < dotR (facU p) (u k)) = false := by simpa using hle
        have Hle := Lib.hid hle
        clear hle
        go_wp2_with fail
        refine (dot_c (facU p) (u k) _ (HM.out k hlt)).mono ?_
        rintro e w2 ⟨rfl, hb2⟩
        go_wp2_with fail
        go_roundw
        case rel => exact ⟨k + 1, by omega, by go_num, by simp [noneB, Ho.out, Hle.out], bup (Below.alloc1 hB _ (Nat.le_refl _)) hb2⟩
        case measure => simp [intOf]; omega
      · have hd1 : decide (0 < dotR (facU p) (u k)) = true := by simp; omega
        have Hle := Lib.hid hle
        clear hle
        go_wp2_with fail
        refine (dot_c (facU p) (u k) _ (HM.out k hlt)).mono ?_
        rintro e w2 ⟨rfl, hb2⟩
        go_wp2_with fail
        go_ret
        exact ⟨ret_b (noneB_no _ u k n hlt (by have := Hle.out; omega)).symm, bup hBW (bup (Below.alloc1 hB _ (Nat.le_refl _)) hb2)⟩
    · obtain rfl : k = n := by omega
      go_wp2_with fail
      go_ret
      exact ⟨ret_b Ho.out.symm, bup hBW hB⟩

end Go.Proofs.YtehafggcncbnkaaGreat

namespace Go.Proofs.YtehafggcncbnkaaGreat
open Go.RowKit

theorem bad_pot (s : Bool) (m : Nat → M5) (i : Nat) : (potU s m i).l = bad s (m i) ∧ (potU s m i).c = good s (m i) := by
  cases s <;> exact ⟨rfl, rfl⟩

theorem dot_left (s : Bool) (m : Nat → M5) (p : P4) (i : Nat) : dotR (facU p) (potU s m i) = leftOf s p (m i) - p.d * (m i).p := by
  obtain ⟨h1, h2⟩ := bad_pot s m i
  have h3 : (potU s m i).q = 1 := rfl
  have h4 : (potU s m i).p = (m i).p := rfl
  unfold dotR leftOf
  rw [h1, h2, h3, h4]
  simp only [facU, Int.neg_mul, Int.mul_one]
  omega

theorem none_holds (s : Bool) (m : Nat → M5) (p : P4) : ∀ n, noneB (facU p) (potU s m) n = holdsB s m p n
  | 0 => rfl
  | n + 1 => by
    simp only [noneB, holdsB, none_holds s m p n, dot_left]
    congr 1
    rw [Bool.eq_iff_iff]
    simp only [decide_eq_true_eq]
    omega

theorem dot_value (l c : Int) (p : P4) : dotR (facU p) ⟨1, 0, l, c⟩ = valueR l c p := by
  simp [dotR, valueR, facU, Int.neg_mul, Int.sub_eq_add_neg]

theorem mild_pot {n : Nat} {m : Nat → M5} (hF : Fine n m) (s : Bool) (p : P4) (hp : isProofB p = true) (hd : 0 ≤ p.d ∧ p.d ≤ 1073741824) (i : Nat) (hi : i < n) : Mild (facU p) (potU s m i) := by
  have hb := isProof_bd hp
  have hpp := hF.2.2 i hi
  obtain ⟨h1, h2⟩ := bad_pot s m i
  have b1 := bad_bd hF s i hi
  have b2 := good_bd hF s i hi
  have m1 := mul_bd hd.1 hd.2 hpp.1 hpp.2.1
  have m2 := mul_bd hb.2.2.1 hb.2.2.2.1 b1.1 b1.2
  have m3 := mul_bd hb.2.2.2.2.1 hb.2.2.2.2.2 b2.1 b2.2
  intro k
  match k with
  | 0 => show _ ≤ p.b * 1 ∧ p.b * 1 ≤ _; omega
  | 1 => show _ ≤ (-p.d) * (m i).p ∧ (-p.d) * (m i).p ≤ _; rw [Int.neg_mul]; omega
  | 2 => show _ ≤ (-p.l) * (potU s m i).l ∧ (-p.l) * (potU s m i).l ≤ _; rw [Int.neg_mul, h1]; omega
  | k + 3 => show _ ≤ p.c * (potU s m i).c ∧ p.c * (potU s m i).c ≤ _; rw [h2]; omega

theorem mild_asked (p : P4) (l c : Int) (hp : isProofB p = true) (ht : 0 ≤ l ∧ l ≤ 1000 ∧ 0 ≤ c ∧ c ≤ 1000) : Mild (facU p) ⟨1, 0, l, c⟩ := by
  have hb := isProof_bd hp
  have m2 := mul_bd hb.2.2.1 hb.2.2.2.1 ht.1 ht.2.1
  have m3 := mul_bd hb.2.2.2.2.1 hb.2.2.2.2.2 ht.2.2.1 ht.2.2.2
  intro k
  match k with
  | 0 => show _ ≤ p.b * 1 ∧ p.b * 1 ≤ _; omega
  | 1 => show _ ≤ (-p.d) * 0 ∧ (-p.d) * 0 ≤ _; omega
  | 2 => show _ ≤ (-p.l) * l ∧ (-p.l) * l ≤ _; rw [Int.neg_mul]; omega
  | k + 3 => show _ ≤ p.c * c ∧ p.c * c ≤ _; omega

set_option maxHeartbeats 1000000 in
theorem holds_c (g n : Nat) (m : Nat → M5) (s : Bool) (l c : Int) (p : P4) (w : World) (hu : Units w (some ⟨g, 0, none⟩) n (potU s m)) (hF : Fine n m) (hp : isProofB p = true) (hd : 0 ≤ p.d ∧ p.d ≤ 1073741824) :
    Calls Tryz.prog 77 #[potV g n l c, proofV p] w fun e w' => e = .returned (.bool (holdsB s m p n)) ∧ Below w.heap.size w w' := by
  have hn6 := hF.2.1
  have hb := isProof_bd hp
  have HM := Lib.hid fun i hi => mild_pot hF s p hp hd i hi
  have hB0 : Below w.heap.size w ((w.alloc (.cells #[.slice (some ⟨g, 0, none⟩) n n, .int .i64 1, .int .i64 0, .int .i64 l, .int .i64 c] 102)).alloc (.cells #[.int .i64 p.d, .int .i64 p.b, .int .i64 p.l, .int .i64 p.c] 45)) := Below.alloc1 (Below.alloc1 (Below.refl _ _) _ (Nat.le_refl _)) _ (Nat.le_refl _)
  go_enter Tryz.func77, Tryz.ntmps77
  go_wp2_with fail
  refine (noneAbove_c _ n n (potU s m) p _ ?_ (by omega) HM.out (by omega) (by omega)).mono ?_
  · exact hu.below hB0
  rintro e w2 ⟨rfl, hb2⟩
  go_wp2_with fail
  go_ret
  exact ⟨ret_b (none_holds s m p n), bup hB0 hb2⟩

set_option maxHeartbeats 1000000 in
theorem value_c (g n : Nat) (l c : Int) (p : P4) (w : World) (hp : isProofB p = true) (hd : 0 ≤ p.d ∧ p.d ≤ 1073741824) (ht : 0 ≤ l ∧ l ≤ 1000 ∧ 0 ≤ c ∧ c ≤ 1000) :
    Calls Tryz.prog 78 #[potV g n l c, proofV p] w fun e w' => e = .returned (.int .i64 (valueR l c p)) ∧ Below w.heap.size w w' := by
  obtain ⟨W, hW⟩ : ∃ W, (w.alloc (.cells #[.slice (some ⟨g, 0, none⟩) n n, .int .i64 1, .int .i64 0, .int .i64 l, .int .i64 c] 102)).alloc (.cells #[.int .i64 p.d, .int .i64 p.b, .int .i64 p.l, .int .i64 p.c] 45) = W := ⟨_, rfl⟩
  have hB0 : Below w.heap.size w W := by rw [← hW]; exact Below.alloc1 (Below.alloc1 (Below.refl _ _) _ (Nat.le_refl _)) _ (Nat.le_refl _)
  have hA : RowIs W w.heap.size #[.slice (some ⟨g, 0, none⟩) n n, .int .i64 1, .int .i64 0, .int .i64 l, .int .i64 c] 102 := by rw [← hW]; exact RowIs.alloc (heap_new_at _ _ _ rfl) _
  have hC : RowIs W (w.heap.size + 1) #[.int .i64 p.d, .int .i64 p.b, .int .i64 p.l, .int .i64 p.c] 45 := by rw [← hW]; exact heap_new_at _ _ _ (by simp)
  have a1 := hA.cell 1
  have a2 := hA.cell 2
  have a3 := hA.cell 3
  have a4 := hA.cell 4
  have b0 := hC.cell 0
  have b1 := hC.cell 1
  have b2 := hC.cell 2
  have b3 := hC.cell 3
  simp at a1 a2 a3 a4 b0 b1 b2 b3
  have hz1 : w.heap.size + 1 < W.heap.size := (Array.getElem?_eq_some_iff.1 hC).1
  have hz0 : w.heap.size < W.heap.size := by omega
  have hb := isProof_bd hp
  have HM := mild_asked p l c hp ht
  clear hA hC
  go_enter Tryz.func78, Tryz.ntmps78
  go_wp2_with fail
  clear hW
  have hlc := fun (x : Later W) => later_cell x
  refine wp_region_later (by kernel_rfl) (by kernel_rfl) ?_
  repeat (go_big_quiet_step ((first | (refine calls_later (factors_c p _ (by omega) (by omega))) | (refine calls_later (dot_c (facU p) ⟨1, 0, l, c⟩ _ HM)))))
  refine wpQuiet_nil ?_
  clear hlc
  rintro ⟨w2, hb2⟩
  go_wp2_with fail
  go_ret
  exact ⟨ret_i (dot_value l c p), bup hB0 hb2⟩

theorem isProof_eq (p : P4) : (decide (-68719476736 ≤ p.b ∧ p.b ≤ 68719476736) && (decide (0 ≤ p.l ∧ p.l ≤ 68719476736) && decide (0 ≤ p.c ∧ p.c ≤ 68719476736))) = isProofB p := by
  unfold isProofB
  rw [Bool.eq_iff_iff]
  simp only [Bool.and_eq_true, decide_eq_true_eq]
  omega

set_option maxHeartbeats 1000000 in
theorem validWeights_c (p : P4) (w : World) :
    Calls Tryz.prog 76 #[proofV p] w fun e w' => e = .returned (.bool (isProofB p)) ∧ Below w.heap.size w w' := by
  rw [← isProof_eq]
  cases h1 : decide (-68719476736 ≤ p.b ∧ p.b ≤ 68719476736)
  · go_enter Tryz.func76, Tryz.ntmps76
    go_wp2_with fail
    refine (within1_c (-68719476736) 68719476736 p.b _ _ (by simp) _).mono ?_
    rintro e w1 ⟨he, rfl⟩
    rw [h1] at he
    subst he
    go_wp2_with fail
    go_ret
    exact ⟨ret_b (by simp), Below.alloc1 (Below.alloc1 (Below.refl _ _) _ (Nat.le_refl _)) _ (Nat.le_refl _)⟩
  · go_enter Tryz.func76, Tryz.ntmps76
    go_wp2_with fail
    refine (within1_c (-68719476736) 68719476736 p.b _ _ (by simp) _).mono ?_
    rintro e w1 ⟨he, rfl⟩
    rw [h1] at he
    subst he
    go_wp2_with fail
    refine (within2_c 0 68719476736 p.l p.c _ _ (by simp) _).mono ?_
    rintro e w1 ⟨he, rfl⟩
    subst he
    go_wp2_with fail
    go_ret
    exact ⟨ret_b (by simp), Below.alloc1 (Below.alloc1 (Below.alloc1 (Below.refl _ _) _ (Nat.le_refl _)) _ (Nat.le_refl _)) _ (Nat.le_refl _)⟩

end Go.Proofs.YtehafggcncbnkaaGreat

namespace Go.Proofs.YtehafggcncbnkaaGreat
open Go.RowKit


theorem RowIs.below {w w' : World} {b : Nat} {c : Array Value} {e : TypeId} (h : RowIs w b c e) (hb : Below w.heap.size w w') : RowIs w' b c e :=
  (hb.block b (Array.getElem?_eq_some_iff.1 h).1).trans h
theorem prow {w : World} {b : Nat} {p : P4} {T : TypeId} (h : RowIs w b #[.int .i64 p.d, .int .i64 p.b, .int .i64 p.l, .int .i64 p.c] T) :
    w.cell? ⟨b, 0, none⟩ = some (.int .i64 p.d) ∧ w.cell? ⟨b, 1, none⟩ = some (.int .i64 p.b) ∧ w.cell? ⟨b, 2, none⟩ = some (.int .i64 p.l) ∧ w.cell? ⟨b, 3, none⟩ = some (.int .i64 p.c) ∧ b < w.heap.size :=
  ⟨h.cell 0, h.cell 1, h.cell 2, h.cell 3, (Array.getElem?_eq_some_iff.1 h).1⟩
theorem potrow {w : World} {b g n : Nat} {l c : Int} {T : TypeId} (h : RowIs w b #[.slice (some ⟨g, 0, none⟩) n n, .int .i64 1, .int .i64 0, .int .i64 l, .int .i64 c] T) :
    w.cell? ⟨b, 0, none⟩ = some (.slice (some ⟨g, 0, none⟩) n n) ∧ w.cell? ⟨b, 1, none⟩ = some (.int .i64 1) ∧ w.cell? ⟨b, 2, none⟩ = some (.int .i64 0) ∧ w.cell? ⟨b, 3, none⟩ = some (.int .i64 l) ∧ w.cell? ⟨b, 4, none⟩ = some (.int .i64 c) ∧ b < w.heap.size :=
  ⟨h.cell 0, h.cell 1, h.cell 2, h.cell 3, h.cell 4, (Array.getElem?_eq_some_iff.1 h).1⟩

set_option maxHeartbeats 2000000 in
theorem CheckNever_c (a : Option Addr) (n cap : Nat) (m : Nat → M5) (l c : Int) (s : Bool) (p : P4) (w : World) (hm : Metals w a n m) (hn : n ≤ 1048576) :
    Calls Tryz.prog 37 #[.slice a n cap, .agg #[.int .i64 l, .int .i64 c], .bool s, proofV p] w fun e w' => e = .returned (.int .i64 (checkNeverE n m l c s p)) ∧ Below w.heap.size w w' := by
  obtain ⟨W, hW⟩ : ∃ W, (w.alloc (.cells #[.int .i64 l, .int .i64 c] 24)).alloc (.cells #[.int .i64 p.d, .int .i64 p.b, .int .i64 p.l, .int .i64 p.c] 45) = W := ⟨_, rfl⟩
  have hB0 : Below w.heap.size w W := by rw [← hW]; exact Below.alloc1 (Below.alloc1 (Below.refl _ _) _ (Nat.le_refl _)) _ (Nat.le_refl _)
  have c5 : W.cell? ⟨w.heap.size, 0, none⟩ = some (.int .i64 l) := by rw [← hW]; simp
  have c6 : W.cell? ⟨w.heap.size, 1, none⟩ = some (.int .i64 c) := by rw [← hW]; simp
  have hP : RowIs W (w.heap.size + 1) #[.int .i64 p.d, .int .i64 p.b, .int .i64 p.l, .int .i64 p.c] 45 := by rw [← hW]; exact heap_new_at _ _ _ (by simp)
  have hz1 : w.heap.size + 1 < W.heap.size := (Array.getElem?_eq_some_iff.1 hP).1
  have hz0 : w.heap.size < W.heap.size := by omega
  have hm0 := hm.below hB0
  have HP := Lib.hid hP
  clear hm hP
  by_cases h0 : bothE n m l c = 0
  · obtain ⟨hM, ht⟩ := both_ok h0
    have HFine := Lib.hid (fine_of hM)
    have H0 := Lib.hid h0
    clear h0 hM
    by_cases h1 : p.d = 0
    · have h1' : (p.d != 0) = false := by simp [h1]
      have hd : 0 ≤ p.d ∧ p.d ≤ 1073741824 := by omega
      have H1 := Lib.hid h1
      clear h1
      by_cases h2 : isProofB p = true
      · by_cases h3 : holdsB s m p n = true
        · by_cases h4 : valueR l c p ≤ 0
          all_goals
            go_enter Tryz.func37, Tryz.ntmps37
            go_wp2_with fail
            clear hW
            refine (newPot_c a n cap m l c s _ hm0 (by omega) H0.out).mono ?_
            rintro e w1 ⟨g, rfl, hU, hb1⟩
            obtain ⟨d0, d1, d2, d3, dz⟩ := prow (HP.out.below hb1)
            go_wp2_with fail
            have hb2 : Below w1.heap.size w1 (w1.alloc (.cells #[.slice (some ⟨g, 0, none⟩) n n, .int .i64 1, .int .i64 0, .int .i64 l, .int .i64 c] 102)) := Below.alloc1 (Below.refl _ _) _ (Nat.le_refl _)
            have hQ : RowIs (w1.alloc (.cells #[.slice (some ⟨g, 0, none⟩) n n, .int .i64 1, .int .i64 0, .int .i64 l, .int .i64 c] 102)) w1.heap.size _ _ := heap_new_at _ _ _ rfl
            generalize w1.alloc (.cells #[.slice (some ⟨g, 0, none⟩) n n, .int .i64 1, .int .i64 0, .int .i64 l, .int .i64 c] 102) = w2 at hb2 hQ ⊢
            have HQ := Lib.hid hQ
            have hb12 := bup hb1 hb2
            have hU2 := hU.below hb2
            clear d0 d1 d2 d3 dz hQ
            refine (validWeights_c p _).mono ?_
            rintro e w3 ⟨rfl, hb3⟩
            have hb13 := bup hb12 hb3
            obtain ⟨d0, d1, d2, d3, dz⟩ := prow (HP.out.below hb13)
            obtain ⟨e0, e1, e2, e3, e4, ez⟩ := potrow (HQ.out.below hb3)
            go_wp2_with fail
            refine (holds_c g n m s l c p _ (hU2.below hb3) HFine.out h2 hd).mono ?_
            rintro e w4 ⟨rfl, hb4⟩
            have hb14 := bup hb13 hb4
            clear d0 d1 d2 d3 dz e0 e1 e2 e3 e4 ez
            obtain ⟨d0, d1, d2, d3, dz⟩ := prow (HP.out.below hb14)
            obtain ⟨e0, e1, e2, e3, e4, ez⟩ := potrow (HQ.out.below (bup hb3 hb4))
            go_wp2_with fail
            refine (value_c g n l c p _ h2 hd ht).mono ?_
            rintro e w5 ⟨rfl, hb5⟩
            go_wp2_with fail
            go_ret
            exact ⟨ret_i (by unfold checkNeverE; rw [if_neg (by simp [H0.out]), if_neg (by simp [H1.out, h2])]; simp [h3, h4]), bup hB0 (bup hb14 hb5)⟩
        · have h3' : holdsB s m p n = false := by simpa using h3
          go_enter Tryz.func37, Tryz.ntmps37
          go_wp2_with fail
          clear hW
          refine (newPot_c a n cap m l c s _ hm0 (by omega) H0.out).mono ?_
          rintro e w1 ⟨g, rfl, hU, hb1⟩
          obtain ⟨d0, d1, d2, d3, dz⟩ := prow (HP.out.below hb1)
          go_wp2_with fail
          have hb2 : Below w1.heap.size w1 (w1.alloc (.cells #[.slice (some ⟨g, 0, none⟩) n n, .int .i64 1, .int .i64 0, .int .i64 l, .int .i64 c] 102)) := Below.alloc1 (Below.refl _ _) _ (Nat.le_refl _)
          have hQ : RowIs (w1.alloc (.cells #[.slice (some ⟨g, 0, none⟩) n n, .int .i64 1, .int .i64 0, .int .i64 l, .int .i64 c] 102)) w1.heap.size _ _ := heap_new_at _ _ _ rfl
          generalize w1.alloc (.cells #[.slice (some ⟨g, 0, none⟩) n n, .int .i64 1, .int .i64 0, .int .i64 l, .int .i64 c] 102) = w2 at hb2 hQ ⊢
          have HQ := Lib.hid hQ
          have hb12 := bup hb1 hb2
          have hU2 := hU.below hb2
          clear d0 d1 d2 d3 dz hQ
          refine (validWeights_c p _).mono ?_
          rintro e w3 ⟨rfl, hb3⟩
          have hb13 := bup hb12 hb3
          obtain ⟨d0, d1, d2, d3, dz⟩ := prow (HP.out.below hb13)
          obtain ⟨e0, e1, e2, e3, e4, ez⟩ := potrow (HQ.out.below hb3)
          go_wp2_with fail
          refine (holds_c g n m s l c p _ (hU2.below hb3) HFine.out h2 hd).mono ?_
          rintro e w4 ⟨rfl, hb4⟩
          have hb14 := bup hb13 hb4
          go_wp2_with fail
          go_ret
          exact ⟨ret_i (by unfold checkNeverE; rw [if_neg (by simp [H0.out]), if_neg (by simp [H1.out, h2])]; simp [h3']), bup hB0 hb14⟩
      · have h2' : isProofB p = false := by simpa using h2
        go_enter Tryz.func37, Tryz.ntmps37
        go_wp2_with fail
        clear hW
        refine (newPot_c a n cap m l c s _ hm0 (by omega) H0.out).mono ?_
        rintro e w1 ⟨g, rfl, hU, hb1⟩
        obtain ⟨d0, d1, d2, d3, dz⟩ := prow (HP.out.below hb1)
        go_wp2_with fail
        have hb2 : Below w1.heap.size w1 (w1.alloc (.cells #[.slice (some ⟨g, 0, none⟩) n n, .int .i64 1, .int .i64 0, .int .i64 l, .int .i64 c] 102)) := Below.alloc1 (Below.refl _ _) _ (Nat.le_refl _)
        refine (validWeights_c p _).mono ?_
        rintro e w3 ⟨rfl, hb3⟩
        go_wp2_with fail
        go_ret
        exact ⟨ret_i (by unfold checkNeverE; rw [if_neg (by simp [H0.out]), if_pos (by simp [h2'])]), bup hB0 (bup (bup hb1 hb2) hb3)⟩
    · have h1' : (p.d != 0) = true := by simp [h1]
      go_enter Tryz.func37, Tryz.ntmps37
      go_wp2_with fail
      clear hW
      refine (newPot_c a n cap m l c s _ hm0 (by omega) H0.out).mono ?_
      rintro e w1 ⟨g, rfl, hU, hb1⟩
      obtain ⟨d0, d1, d2, d3, dz⟩ := prow (HP.out.below hb1)
      have hb2 : Below w1.heap.size w1 (w1.alloc (.cells #[.slice (some ⟨g, 0, none⟩) n n, .int .i64 1, .int .i64 0, .int .i64 l, .int .i64 c] 102)) := Below.alloc1 (Below.refl _ _) _ (Nat.le_refl _)
      go_wp2_with fail
      go_ret
      exact ⟨ret_i (by unfold checkNeverE; rw [if_neg (by simp [H0.out]), if_pos (by simp [h1])]), bup hB0 (bup hb1 hb2)⟩
  · have h0' : (bothE n m l c != 0) = true := by simp [h0]
    have H0 := Lib.hid h0
    clear h0
    go_enter Tryz.func37, Tryz.ntmps37
    go_wp2_with fail
    clear hW
    refine (newPot_err_c a n cap m l c s _ hm0 (by omega) H0.out).mono ?_
    rintro e w1 ⟨rfl, hb1⟩
    go_wp2_with fail
    go_ret
    exact ⟨ret_i (by unfold checkNeverE; rw [if_pos H0.out]), bup hB0 (Below.alloc1 hb1 _ (Nat.le_refl _))⟩

end Go.Proofs.YtehafggcncbnkaaGreat

namespace Go.Proofs.YtehafggcncbnkaaGreat
open Go.RowKit

theorem ratrow {w : World} {b : Nat} {T : TypeId} (h : RowIs w b #[.int .i64 0, .int .i64 0] T) :
    w.cell? ⟨b, 0, none⟩ = some (.int .i64 0) ∧ w.cell? ⟨b, 1, none⟩ = some (.int .i64 0) ∧ w.frozen? ⟨b, 0, none⟩ = false ∧ w.frozen? ⟨b, 1, none⟩ = false ∧ b < w.heap.size :=
  ⟨h.cell 0, h.cell 1, h.frozen 0, h.frozen 1, (Array.getElem?_eq_some_iff.1 h).1⟩

set_option maxHeartbeats 2000000 in
theorem CheckProof_c (a : Option Addr) (n cap : Nat) (m : Nat → M5) (l c : Int) (s : Bool) (p : P4) (w : World) (hm : Metals w a n m) (hn : n ≤ 1048576) :
    Calls Tryz.prog 33 #[.slice a n cap, .agg #[.int .i64 l, .int .i64 c], .bool s, proofV p] w fun e w' => e = .returned (re2 (checkProofR n m l c s p)) ∧ Below w.heap.size w w' := by
  obtain ⟨W, hW⟩ : ∃ W, ((w.alloc (.cells #[.int .i64 l, .int .i64 c] 24)).alloc (.cells #[.int .i64 p.d, .int .i64 p.b, .int .i64 p.l, .int .i64 p.c] 45)).alloc (.cells #[.int .i64 0, .int .i64 0] 29) = W := ⟨_, rfl⟩
  have hB0 : Below w.heap.size w W := by rw [← hW]; exact Below.alloc1 (Below.alloc1 (Below.alloc1 (Below.refl _ _) _ (Nat.le_refl _)) _ (Nat.le_refl _)) _ (Nat.le_refl _)
  have hP : RowIs W (w.heap.size + 1) #[.int .i64 p.d, .int .i64 p.b, .int .i64 p.l, .int .i64 p.c] 45 := by rw [← hW]; exact RowIs.alloc (heap_new_at _ _ _ (by simp)) _
  have hT : RowIs W w.heap.size #[.int .i64 l, .int .i64 c] 24 := by rw [← hW]; exact RowIs.alloc (RowIs.alloc (heap_new_at _ _ _ rfl) _) _
  have hR : RowIs W (w.heap.size + 2) #[.int .i64 0, .int .i64 0] 29 := by rw [← hW]; exact heap_new_at _ _ _ (by simp)
  have hz2 : w.heap.size + 2 < W.heap.size := (Array.getElem?_eq_some_iff.1 hR).1
  have hz1 : w.heap.size + 1 < W.heap.size := by omega
  have hz0 : w.heap.size < W.heap.size := by omega
  have c5 := hT.cell 0
  have c6 := hT.cell 1
  simp at c5 c6
  have hm0 := hm.below hB0
  have HP := Lib.hid hP
  have HR := Lib.hid hR
  clear hm hP hT hR
  by_cases h0 : bothE n m l c = 0
  · obtain ⟨hM, ht⟩ := both_ok h0
    have HFine := Lib.hid (fine_of hM)
    have H0 := Lib.hid h0
    clear h0 hM
    by_cases h1 : 1 ≤ p.d ∧ p.d ≤ 1073741824
    · have h1' : decide (1 ≤ p.d ∧ p.d ≤ 1073741824) = true := by simp; omega
      have hd : 0 ≤ p.d ∧ p.d ≤ 1073741824 := by omega
      have hdp : 0 < p.d := by omega
      have H1 := Lib.hid h1
      clear h1
      by_cases h2 : isProofB p = true
      · have hvb : -4611686018427387904 ≤ valueR l c p ∧ valueR l c p ≤ 4611686018427387904 := by
          have hb := isProof_bd h2
          have h1 := mul_bd hb.2.2.1 hb.2.2.2.1 ht.1 ht.2.1
          have h2 := mul_bd hb.2.2.2.2.1 hb.2.2.2.2.2 ht.2.2.1 ht.2.2.2
          unfold valueR; omega
        by_cases h3 : holdsB s m p n = true
        · have ev : checkProofR n m l c s p = (ratN (valueR l c p) p.d, ratD (valueR l c p) p.d, 0) := by
            unfold checkProofR; rw [if_neg (by simp [H0.out]), if_neg (by rw [h2]; simp; have := H1.out; omega), if_neg (by simp [h3])]
          rw [ev]
          clear ev
          go_enter Tryz.func33, Tryz.ntmps33
          go_wp2_with fail
          clear hW
          refine (newPot_c a n cap m l c s _ hm0 (by omega) H0.out).mono ?_
          rintro e w1 ⟨g, rfl, hU, hb1⟩
          obtain ⟨d0, d1, d2, d3, dz⟩ := prow (HP.out.below hb1)
          go_wp2_with fail
          refine (within1_c 1 1073741824 p.d _ _ (by simp) _).mono ?_
          rintro e w2 ⟨he, hw2⟩
          rw [h1'] at he
          subst he
          have hb2 : Below w1.heap.size w1 w2 := by rw [← hw2]; exact Below.alloc1 (Below.alloc1 (Below.refl _ _) _ (Nat.le_refl _)) _ (Nat.le_refl _)
          have hQ : RowIs w2 w1.heap.size #[.slice (some ⟨g, 0, none⟩) n n, .int .i64 1, .int .i64 0, .int .i64 l, .int .i64 c] 102 := by rw [← hw2]; exact RowIs.alloc (heap_new_at _ _ _ rfl) _
          have HQ := Lib.hid hQ
          have hb12 := bup hb1 hb2
          have hU2 := hU.below hb2
          clear d0 d1 d2 d3 dz hQ hw2 hU
          obtain ⟨d0, d1, d2, d3, dz⟩ := prow (HP.out.below hb12)
          go_wp2_with fail
          refine (validWeights_c p _).mono ?_
          rintro e w3 ⟨rfl, hb3⟩
          have hb13 := bup hb12 hb3
          clear d0 d1 d2 d3 dz
          obtain ⟨d0, d1, d2, d3, dz⟩ := prow (HP.out.below hb13)
          obtain ⟨e0, e1, e2, e3, e4, ez⟩ := potrow (HQ.out.below hb3)
          go_wp2_with fail
          refine (holds_c g n m s l c p _ (hU2.below hb3) HFine.out h2 hd).mono ?_
          rintro e w4 ⟨rfl, hb4⟩
          have hb14 := bup hb13 hb4
          clear d0 d1 d2 d3 dz e0 e1 e2 e3 e4 ez
          obtain ⟨d0, d1, d2, d3, dz⟩ := prow (HP.out.below hb14)
          obtain ⟨e0, e1, e2, e3, e4, ez⟩ := potrow (HQ.out.below (bup hb3 hb4))
          go_wp2_with fail
          have hlc := fun (x : Later w4) => later_cell x
          refine wp_region_later_tail 6 (by kernel_rfl) (by kernel_rfl) ?_
          simp only [List.take_succ_cons, List.take_zero, List.drop_succ_cons, List.drop_zero]
          repeat (go_big_quiet_step ((first | (refine calls_later (value_c g n l c p _ h2 hd ht)) | (refine calls_later (ratio_c (valueR l c p) p.d _ hvb.1 hvb.2 hdp (by omega))))))
          refine wpQuiet_nil ?_
          clear hlc
          rintro ⟨w5, hb5⟩
          obtain ⟨r0, r1, z0, z1, rz⟩ := ratrow (HR.out.below (bup hb14 hb5))
          go_wp2_with fail
          refine bodyPost_ret (v := re2 (ratN (valueR l c p) p.d, ratD (valueR l c p) p.d, 0)) (by simp [results, Tryz.results33, go_sem, r0, r1]) rfl ⟨rfl, ?_⟩
          exact ((bup hB0 (bup hb14 hb5)).setCell (p := ⟨w.heap.size + 2, 0, none⟩) (Nat.le_add_right _ _) _).setCell (p := ⟨w.heap.size + 2, 1, none⟩) (Nat.le_add_right _ _) _
        · have h3' : holdsB s m p n = false := by simpa using h3
          have ev : checkProofR n m l c s p = (0, 0, 14) := by
            unfold checkProofR; rw [if_neg (by simp [H0.out]), if_neg (by rw [h2]; simp; have := H1.out; omega), if_pos h3']
          rw [ev]
          clear ev
          go_enter Tryz.func33, Tryz.ntmps33
          go_wp2_with fail
          clear hW
          refine (newPot_c a n cap m l c s _ hm0 (by omega) H0.out).mono ?_
          rintro e w1 ⟨g, rfl, hU, hb1⟩
          obtain ⟨d0, d1, d2, d3, dz⟩ := prow (HP.out.below hb1)
          go_wp2_with fail
          refine (within1_c 1 1073741824 p.d _ _ (by simp) _).mono ?_
          rintro e w2 ⟨he, hw2⟩
          rw [h1'] at he
          subst he
          have hb2 : Below w1.heap.size w1 w2 := by rw [← hw2]; exact Below.alloc1 (Below.alloc1 (Below.refl _ _) _ (Nat.le_refl _)) _ (Nat.le_refl _)
          have hQ : RowIs w2 w1.heap.size #[.slice (some ⟨g, 0, none⟩) n n, .int .i64 1, .int .i64 0, .int .i64 l, .int .i64 c] 102 := by rw [← hw2]; exact RowIs.alloc (heap_new_at _ _ _ rfl) _
          have HQ := Lib.hid hQ
          have hb12 := bup hb1 hb2
          have hU2 := hU.below hb2
          clear d0 d1 d2 d3 dz hQ hw2 hU
          obtain ⟨d0, d1, d2, d3, dz⟩ := prow (HP.out.below hb12)
          go_wp2_with fail
          refine (validWeights_c p _).mono ?_
          rintro e w3 ⟨rfl, hb3⟩
          have hb13 := bup hb12 hb3
          clear d0 d1 d2 d3 dz
          obtain ⟨d0, d1, d2, d3, dz⟩ := prow (HP.out.below hb13)
          obtain ⟨e0, e1, e2, e3, e4, ez⟩ := potrow (HQ.out.below hb3)
          go_wp2_with fail
          refine (holds_c g n m s l c p _ (hU2.below hb3) HFine.out h2 hd).mono ?_
          rintro e w4 ⟨rfl, hb4⟩
          have hb14 := bup hb13 hb4
          obtain ⟨r0, r1, z0, z1, rz⟩ := ratrow (HR.out.below hb14)
          go_wp2_with fail
          refine bodyPost_ret (v := re2 (0, 0, 14)) (by simp [results, Tryz.results33, go_sem, r0, r1]) rfl ⟨rfl, ?_⟩
          exact ((bup hB0 hb14).setCell (p := ⟨w.heap.size + 2, 0, none⟩) (Nat.le_add_right _ _) _).setCell (p := ⟨w.heap.size + 2, 1, none⟩) (Nat.le_add_right _ _) _
      · have h2' : isProofB p = false := by simpa using h2
        have ev : checkProofR n m l c s p = (0, 0, 3) := by unfold checkProofR; rw [if_neg (by simp [H0.out]), if_pos (Or.inr h2')]
        rw [ev]
        clear ev
        go_enter Tryz.func33, Tryz.ntmps33
        go_wp2_with fail
        clear hW
        refine (newPot_c a n cap m l c s _ hm0 (by omega) H0.out).mono ?_
        rintro e w1 ⟨g, rfl, hU, hb1⟩
        obtain ⟨d0, d1, d2, d3, dz⟩ := prow (HP.out.below hb1)
        go_wp2_with fail
        refine (within1_c 1 1073741824 p.d _ _ (by simp) _).mono ?_
        rintro e w2 ⟨he, hw2⟩
        rw [h1'] at he
        subst he
        have hb2 : Below w1.heap.size w1 w2 := by rw [← hw2]; exact Below.alloc1 (Below.alloc1 (Below.refl _ _) _ (Nat.le_refl _)) _ (Nat.le_refl _)
        have hb12 := bup hb1 hb2
        clear d0 d1 d2 d3 dz hw2 hU
        obtain ⟨d0, d1, d2, d3, dz⟩ := prow (HP.out.below hb12)
        go_wp2_with fail
        refine (validWeights_c p _).mono ?_
        rintro e w3 ⟨rfl, hb3⟩
        have hb13 := bup hb12 hb3
        obtain ⟨r0, r1, z0, z1, rz⟩ := ratrow (HR.out.below hb13)
        go_wp2_with fail
        refine bodyPost_ret (v := re2 (0, 0, 3)) (by simp [results, Tryz.results33, go_sem, r0, r1]) rfl ⟨rfl, ?_⟩
        exact ((bup hB0 hb13).setCell (p := ⟨w.heap.size + 2, 0, none⟩) (Nat.le_add_right _ _) _).setCell (p := ⟨w.heap.size + 2, 1, none⟩) (Nat.le_add_right _ _) _
    · have h1' : decide (1 ≤ p.d ∧ p.d ≤ 1073741824) = false := by simp; omega
      have ev : checkProofR n m l c s p = (0, 0, 3) := by unfold checkProofR; rw [if_neg (by simp [H0.out]), if_pos (Or.inl (by omega))]
      rw [ev]
      clear ev
      go_enter Tryz.func33, Tryz.ntmps33
      go_wp2_with fail
      clear hW
      refine (newPot_c a n cap m l c s _ hm0 (by omega) H0.out).mono ?_
      rintro e w1 ⟨g, rfl, hU, hb1⟩
      obtain ⟨d0, d1, d2, d3, dz⟩ := prow (HP.out.below hb1)
      go_wp2_with fail
      refine (within1_c 1 1073741824 p.d _ _ (by simp) _).mono ?_
      rintro e w2 ⟨he, hw2⟩
      rw [h1'] at he
      subst he
      have hb2 : Below w1.heap.size w1 w2 := by rw [← hw2]; exact Below.alloc1 (Below.alloc1 (Below.refl _ _) _ (Nat.le_refl _)) _ (Nat.le_refl _)
      have hb12 := bup hb1 hb2
      clear d0 d1 d2 d3 dz hw2 hU
      obtain ⟨r0, r1, z0, z1, rz⟩ := ratrow (HR.out.below hb12)
      go_wp2_with fail
      refine bodyPost_ret (v := re2 (0, 0, 3)) (by simp [results, Tryz.results33, go_sem, r0, r1]) rfl ⟨rfl, ?_⟩
      exact ((bup hB0 hb12).setCell (p := ⟨w.heap.size + 2, 0, none⟩) (Nat.le_add_right _ _) _).setCell (p := ⟨w.heap.size + 2, 1, none⟩) (Nat.le_add_right _ _) _
  · have h0' : (bothE n m l c != 0) = true := by simp [h0]
    have ev : checkProofR n m l c s p = (0, 0, bothE n m l c) := by unfold checkProofR; rw [if_pos h0]
    rw [ev]
    have H0 := Lib.hid h0
    clear h0 ev
    go_enter Tryz.func33, Tryz.ntmps33
    go_wp2_with fail
    clear hW
    refine (newPot_err_c a n cap m l c s _ hm0 (by omega) H0.out).mono ?_
    rintro e w1 ⟨rfl, hb1⟩
    obtain ⟨r0, r1, z0, z1, rz⟩ := ratrow (HR.out.below hb1)
    go_wp2_with fail
    have f0 : RowIs _ (w.heap.size + 2) _ 29 := RowIs.alloc (((HR.out.below hb1).set 0 (.int .i64 0)).set 1 (.int .i64 0)) (.cells #[.slice none 0 0, .int .i64 0, .int .i64 0, .int .i64 0, .int .i64 0] 102)
    have g0 := f0.cell 0
    have g1 := f0.cell 1
    simp at g0 g1
    clear f0 r0 r1 z0 z1
    refine bodyPost_ret (v := re2 (0, 0, bothE n m l c)) (by simp [results, Tryz.results33, go_sem, g0, g1]) rfl ⟨rfl, ?_⟩
    exact Below.alloc1 (((bup hB0 hb1).setCell (p := ⟨w.heap.size + 2, 0, none⟩) (Nat.le_add_right _ _) _).setCell (p := ⟨w.heap.size + 2, 1, none⟩) (Nat.le_add_right _ _) _) _ (Nat.le_refl _)

end Go.Proofs.YtehafggcncbnkaaGreat

namespace Go.Proofs.YtehafggcncbnkaaGreat
open Go.RowKit

set_option maxHeartbeats 1000000 in
theorem risProof_c (p : P4) (w : World) :
    Calls Tryz.prog 79 #[proofV p] w fun e w' => e = .returned (.bool (isProofB p)) ∧ Below w.heap.size w w' := by
  by_cases h1 : -68719476736 ≤ p.b
  · by_cases h2 : p.b ≤ 68719476736
    · by_cases h3 : 0 ≤ p.l
      · by_cases h4 : p.l ≤ 68719476736
        · by_cases h5 : 0 ≤ p.c
          · by_cases h6 : p.c ≤ 68719476736
            all_goals (go_enter Tryz.func79, Tryz.ntmps79; go_wp2; go_ret; exact ⟨ret_b (by simp [isProofB]; omega), (Below.refl _ _).alloc (Nat.le_refl _) _⟩)
          · (go_enter Tryz.func79, Tryz.ntmps79; go_wp2; go_ret; exact ⟨ret_b (by simp [isProofB]; omega), (Below.refl _ _).alloc (Nat.le_refl _) _⟩)
        · (go_enter Tryz.func79, Tryz.ntmps79; go_wp2; go_ret; exact ⟨ret_b (by simp [isProofB]; omega), (Below.refl _ _).alloc (Nat.le_refl _) _⟩)
      · (go_enter Tryz.func79, Tryz.ntmps79; go_wp2; go_ret; exact ⟨ret_b (by simp [isProofB]; omega), (Below.refl _ _).alloc (Nat.le_refl _) _⟩)
    · (go_enter Tryz.func79, Tryz.ntmps79; go_wp2; go_ret; exact ⟨ret_b (by simp [isProofB]; omega), (Below.refl _ _).alloc (Nat.le_refl _) _⟩)
  · (go_enter Tryz.func79, Tryz.ntmps79; go_wp2; go_ret; exact ⟨ret_b (by simp [isProofB]; omega), (Below.refl _ _).alloc (Nat.le_refl _) _⟩)

set_option maxHeartbeats 1000000 in
theorem rvalueOf_c (p : P4) (l c : Int) (w : World) (hp : isProofB p = true) (ht : 0 ≤ l ∧ l ≤ 1000 ∧ 0 ≤ c ∧ c ≤ 1000) :
    Calls Tryz.prog 81 #[.agg #[.int .i64 l, .int .i64 c], proofV p] w fun e w' => e = .returned (.int .i64 (valueR l c p)) ∧ Below w.heap.size w w' := by
  have hb := isProof_bd hp
  have h1 := mul_bd hb.2.2.1 hb.2.2.2.1 ht.1 ht.2.1
  have h2 := mul_bd hb.2.2.2.2.1 hb.2.2.2.2.2 ht.2.2.1 ht.2.2.2
  have w1 : IntKind.i64.wrap (p.l * l) = p.l * l := IntWalk.i64_in _ (by omega)
  have w2 : IntKind.i64.wrap (p.b - p.l * l) = p.b - p.l * l := IntWalk.i64_in _ (by omega)
  have w3 : IntKind.i64.wrap (p.c * c) = p.c * c := IntWalk.i64_in _ (by omega)
  have w4 : IntKind.i64.wrap (p.b - p.l * l + p.c * c) = p.b - p.l * l + p.c * c := IntWalk.i64_in _ (by omega)
  go_enter Tryz.func81, Tryz.ntmps81
  go_wp2
  go_ret
  exact ⟨rfl, Below.alloc1 (Below.alloc1 (Below.refl _ _) _ (Nat.le_refl _)) _ (Nat.le_refl _)⟩

set_option maxHeartbeats 1000000 in
theorem rless_c (a b c d : Int) (w : World) (h1 : -4611686018427387904 ≤ a * d ∧ a * d ≤ 4611686018427387904) (h2 : -4611686018427387904 ≤ c * b ∧ c * b ≤ 4611686018427387904) :
    Calls Tryz.prog 46 #[.agg #[.int .i64 a, .int .i64 b], .agg #[.int .i64 c, .int .i64 d]] w fun e w' => e = .returned (.bool (decide (a * d < c * b))) ∧ Below w.heap.size w w' := by
  have w1 : IntKind.i64.wrap (a * d) = a * d := IntWalk.i64_in _ (by omega)
  have w2 : IntKind.i64.wrap (c * b) = c * b := IntWalk.i64_in _ (by omega)
  go_enter Tryz.func46, Tryz.ntmps46
  go_wp2
  go_ret
  exact ⟨rfl, Below.alloc1 (Below.alloc1 (Below.refl _ _) _ (Nat.le_refl _)) _ (Nat.le_refl _)⟩

def spareR (l c : Int) (s copper : Bool) (m : M5) : Int := if copper then c - good s m else bad s m - l

set_option maxHeartbeats 1000000 in
theorem rspare_c (m : M5) (l c : Int) (s copper : Bool) (w : World) (ht : 0 ≤ l ∧ l ≤ 1000 ∧ 0 ≤ c ∧ c ≤ 1000) (hb : 0 ≤ bad s m ∧ bad s m ≤ 1000) (hg : 0 ≤ good s m ∧ good s m ≤ 1000) :
    Calls Tryz.prog 100 #[metalV m, .agg #[.int .i64 l, .int .i64 c], .bool s, .bool copper] w fun e w' => e = .returned (.int .i64 (spareR l c s copper m)) ∧ Below w.heap.size w w' := by
  have w1 : IntKind.i64.wrap (c - good s m) = c - good s m := IntWalk.i64_in _ (by omega)
  have w2 : IntKind.i64.wrap (bad s m - l) = bad s m - l := IntWalk.i64_in _ (by omega)
  obtain ⟨W, hW⟩ : ∃ W, (w.alloc (.cells #[.int .i64 m.p, .int .i64 m.l0, .int .i64 m.l1, .int .i64 m.c0, .int .i64 m.c1] 68)).alloc (.cells #[.int .i64 l, .int .i64 c] 24) = W := ⟨_, rfl⟩
  have hB0 : Below w.heap.size w W := by rw [← hW]; exact Below.alloc1 (Below.alloc1 (Below.refl _ _) _ (Nat.le_refl _)) _ (Nat.le_refl _)
  have c0 : W.cell? ⟨w.heap.size, 0, none⟩ = some (.int .i64 m.p) := by rw [← hW]; simp
  have c1 : W.cell? ⟨w.heap.size, 1, none⟩ = some (.int .i64 m.l0) := by rw [← hW]; simp
  have c2 : W.cell? ⟨w.heap.size, 2, none⟩ = some (.int .i64 m.l1) := by rw [← hW]; simp
  have c3 : W.cell? ⟨w.heap.size, 3, none⟩ = some (.int .i64 m.c0) := by rw [← hW]; simp
  have c4 : W.cell? ⟨w.heap.size, 4, none⟩ = some (.int .i64 m.c1) := by rw [← hW]; simp
  have c5 : W.cell? ⟨w.heap.size + 1, 0, none⟩ = some (.int .i64 l) := by rw [← hW]; simp
  have c6 : W.cell? ⟨w.heap.size + 1, 1, none⟩ = some (.int .i64 c) := by rw [← hW]; simp
  have hz : w.heap.size + 1 < W.heap.size := by rw [← hW]; simp
  have hz0 : w.heap.size < W.heap.size := by omega
  cases copper
  all_goals
    go_enter Tryz.func100, Tryz.ntmps100
    go_wp2_with fail
    clear hW
    have hlc := fun (x : Later W) => later_cell x
    refine wp_region_later (by kernel_rfl) (by kernel_rfl) ?_
    repeat (go_big_quiet_step ((first | (refine calls_later (rbad_c m s _)) | (refine calls_later (rgood_c m s _)))))
    refine wpQuiet_nil ?_
    clear hlc
    rintro ⟨w2, hb2⟩
    go_wp2_with fail
    go_ret
    exact ⟨rfl, bup hB0 hb2⟩

set_option maxHeartbeats 1000000 in
theorem rholds_c (a : Option Addr) (n cap : Nat) (m : Nat → M5) (s : Bool) (p : P4) (w : World) (hm : Metals w a n m) (hF : Fine n m) (hp : isProofB p = true) (hd : 0 ≤ p.d ∧ p.d ≤ 1073741824) :
    Calls Tryz.prog 80 #[.slice a n cap, .bool s, proofV p] w fun e w' => e = .returned (.bool (holdsB s m p n)) ∧ Below w.heap.size w w' := by
  have hb := isProof_bd hp
  have hn6 := hF.2.1
  obtain ⟨W, hW⟩ : ∃ W, w.alloc (.cells #[.int .i64 p.d, .int .i64 p.b, .int .i64 p.l, .int .i64 p.c] 45) = W := ⟨_, rfl⟩
  have hB0 : Below w.heap.size w W := by rw [← hW]; exact Below.alloc1 (Below.refl _ _) _ (Nat.le_refl _)
  have q0 : W.cell? ⟨w.heap.size, 0, none⟩ = some (.int .i64 p.d) := by rw [← hW]; simp
  have q1 : W.cell? ⟨w.heap.size, 1, none⟩ = some (.int .i64 p.b) := by rw [← hW]; simp
  have q2 : W.cell? ⟨w.heap.size, 2, none⟩ = some (.int .i64 p.l) := by rw [← hW]; simp
  have q3 : W.cell? ⟨w.heap.size, 3, none⟩ = some (.int .i64 p.c) := by rw [← hW]; simp
  have hz : w.heap.size < W.heap.size := by rw [← hW]; simp
  have hm0 := hm.below hB0
  clear hm hp
  go_enter Tryz.func80, Tryz.ntmps80
  go_wp2_with fail
  clear hW
  go_loopw [7] (fun i wr => ∃ k : Nat, k ≤ n ∧ i = .int .i64 k ∧ holdsB s m p k = true ∧ Below W.heap.size W wr) (fun i _ => n - (intOf i).toNat)
  case atStart => exact ⟨0, Nat.zero_le _, rfl, rfl, Below.refl _ _⟩
  case round =>
    obtain ⟨k, hk, rfl, ho, hB⟩ := hrel
    have Ho := Lib.hid ho
    clear ho
    by_cases hlt : k < n
    · obtain ⟨ab, ao, rfl, has, c0, c1, c2, c3, c4⟩ := Metals.at (hm0.below hB) k hlt
      obtain ⟨hcc, hff⟩ := bcell hB
      have r0 := (hcc _ 0 hz).trans q0
      have r1 := (hcc _ 1 hz).trans q1
      have r2 := (hcc _ 2 hz).trans q2
      have r3 := (hcc _ 3 hz).trans q3
      clear hcc hff q0 q1 q2 q3
      have hzr := Nat.lt_of_lt_of_le hz hB.size
      have hbb := bad_bd hF s k hlt
      have hgg := good_bd hF s k hlt
      have hpp := hF.2.2 k hlt
      have m1 := mul_bd hb.2.2.1 hb.2.2.2.1 hbb.1 hbb.2
      have m2 := mul_bd hb.2.2.2.2.1 hb.2.2.2.2.2 hgg.1 hgg.2
      have m3 := mul_bd hd.1 hd.2 hpp.1 hpp.2.1
      have x1 : IntKind.i64.wrap (p.l * bad s (m k)) = p.l * bad s (m k) := IntWalk.i64_in _ (by omega)
      have x2 : IntKind.i64.wrap (p.b - p.l * bad s (m k)) = p.b - p.l * bad s (m k) := IntWalk.i64_in _ (by omega)
      have x3 : IntKind.i64.wrap (p.c * good s (m k)) = p.c * good s (m k) := IntWalk.i64_in _ (by omega)
      have x4 : IntKind.i64.wrap (p.b - p.l * bad s (m k) + p.c * good s (m k)) = p.b - p.l * bad s (m k) + p.c * good s (m k) := IntWalk.i64_in _ (by omega)
      have x5 : IntKind.i64.wrap (p.d * (m k).p) = p.d * (m k).p := IntWalk.i64_in _ (by omega)
      have HF := Lib.hid hF
      have HM := Lib.hid hm0
      clear hF hm0
      by_cases hle : leftOf s p (m k) ≤ p.d * (m k).p
      all_goals
        have hle2 := hle
        unfold leftOf at hle2
        go_wp2_with fail
        have hlc := fun (x : Later wr) => later_cell x
        refine wp_region_later (by kernel_rfl) (by kernel_rfl) ?_
        repeat (go_big_quiet_step ((first | (refine calls_later (rbad_c (m k) s _)) | (refine calls_later (rgood_c (m k) s _)))))
        refine wpQuiet_nil ?_
        clear hlc
        rintro ⟨w2, hb2⟩
      · have hd1 : decide (p.d * (m k).p < p.b - p.l * bad s (m k) + p.c * good s (m k)) = false := by simpa using hle2
        go_wp2_with fail
        go_roundw
        case rel => exact ⟨k + 1, by omega, by go_num, by simp [holdsB, Ho.out, hle], bup hB hb2⟩
        case measure => simp [intOf]; omega
      · have hd1 : decide (p.d * (m k).p < p.b - p.l * bad s (m k) + p.c * good s (m k)) = true := by simp; omega
        go_wp2_with fail
        go_ret
        exact ⟨ret_b (holdsB_no s m p k n hlt (by omega)).symm, bup (bup hB0 hB) hb2⟩
    · obtain rfl : k = n := by omega
      go_wp2_with fail
      go_ret
      exact ⟨ret_b Ho.out.symm, bup hB0 hB⟩

end Go.Proofs.YtehafggcncbnkaaGreat
