/- Contracts: maps.DeleteFunc at a map of proofs. -/
import Derived.Lib.SlMapFilter
import Derived.WalkKit
import Derived.Maps.RangeWalk
import Derived.Laws.IdiomRangeMap
import Derived.Deep.LoopGhost
import Derived.Shelf.Abstract
import Derived.Test.YtehafggcncbnkaaGreatProg
import Derived.Test.YtehafggcncbnkaaGreatBasaa
import Derived.Test.YtehafggcncbnkaaGreatBasag
import Derived.Test.YtehafggcncbnkaaGreatBasak
import Derived.Test.YtehafggcncbnkaaGreatBasae
import Derived.Test.YtehafggcncbnkaaGreatBasah
import Derived.ArgAppend
import Derived.OwnWalkIn
import Derived.Test.YtehafggcncbnkaaGreatBasad
import Derived.Test.YtehafggcncbnkaaGreatBasai
namespace Go.Proofs.YtehafggcncbnkaaGreat
open Go Go.RowKit Go.Maps Go.Shelf

/-- What a loop over a map that strikes the proofs of pd has left, those of 'left' being still to come. -/
def Struck (S : P4 → Prop) (val : P4 → Int) (pd : P4 → Bool) (D : DataW Unit) (left : Lit → Bool) : Prop :=
  (∀ p, p.ok → (has D (keyL p) = true ↔ (S p ∧ (pd p = false ∨ left (keyL p) = true)))) ∧ (∀ p, p.ok → left (keyL p) = true → S p) ∧
  (∀ p, S p → (pd p = false ∨ left (keyL p) = true) → D.atKey (keyL p) (.lit (.int .i64 0)) = .lit (.int .i64 (val p)))

theorem struck_start {S : P4 → Prop} {val : P4 → Int} (pd : P4 → Bool) {D : DataW Unit} (h2 : ∀ p, p.ok → (has D (keyL p) = true ↔ S p)) (h3 : ∀ p, S p → In64 (val p) ∧ D.atKey (keyL p) (.lit (.int .i64 0)) = .lit (.int .i64 (val p))) :
    Struck S val pd D (has D) :=
  ⟨fun p hp => ⟨fun h => ⟨(h2 p hp).1 h, .inr h⟩, fun h => (h2 p hp).2 h.1⟩, fun p hp h => (h2 p hp).1 h, fun p hp _ => (h3 p hp).2⟩

theorem left_cut {left : Lit → Bool} {p q : P4} (hp : p.ok) (hq : q.ok) : (left (keyL p) && !(keyL p).sameKey (keyL q)) = true ↔ (left (keyL p) = true ∧ p ≠ q) := by
  by_cases e : p = q
  · subst e
    simp [WideAt.sameKey_self (keyedP.key (keyOf_proof hp))]
  · have hne : keyL p ≠ keyL q := fun h => e (keyL_inj hp hq h)
    simp [sameKey_ne hne, e]

theorem struck_stays {S : P4 → Prop} {val : P4 → Int} {pd : P4 → Bool} {D : DataW Unit} {left : Lit → Bool} {q : P4} (h1 : ∀ p, S p → p.ok) (h : Struck S val pd D left) (hq : q.ok) (hpd : pd q = false) :
    Struck S val pd D (fun z => left z && !z.sameKey (keyL q)) := by
  obtain ⟨a1, a2, a3⟩ := h
  refine ⟨fun p hp => ?_, fun p hp hl => a2 p hp ((left_cut hp hq).1 hl).1, fun p hp hl => a3 p hp (hl.imp id fun h => ((left_cut (h1 p hp) hq).1 h).1)⟩
  rw [a1 p hp, left_cut hp hq]
  by_cases e : p = q
  · subst e; simp [hpd]
  · simp [e]

theorem struck_struck {S : P4 → Prop} {val : P4 → Int} {pd : P4 → Bool} {D : DataW Unit} {left : Lit → Bool} {q : P4} (h1 : ∀ p, S p → p.ok) (h : Struck S val pd D left) (hq : q.ok) (hpd : pd q = true) :
    Struck S val pd (D.del (keyL q)) (fun z => left z && !z.sameKey (keyL q)) := by
  obtain ⟨a1, a2, a3⟩ := h
  refine ⟨fun p hp => ?_, fun p hp hl => a2 p hp ((left_cut hp hq).1 hl).1, fun p hp hl => ?_⟩
  · rw [left_cut hp hq]
    by_cases e : p = q
    · subst e; simp [has_del_same, hpd]
    · have hne : keyL p ≠ keyL q := fun h => e (keyL_inj hp hq h)
      rw [has_del_other hne, a1 p hp]
      simp [e]
  · have hpo := h1 p hp
    by_cases e : p = q
    · subst e
      rcases hl with h | h
      · rw [hpd] at h; cases h
      · exact absurd rfl ((left_cut hpo hq).1 h).2
    · have hne : keyL p ≠ keyL q := fun h => e (keyL_inj hpo hq h)
      rw [atKey_del_other hne]
      exact a3 p hp (hl.imp id fun h => ((left_cut hpo hq).1 h).1)

theorem grown_of_below {w w' : World} (h : Below w.heap.size w w') : w.grownBy w' none := ⟨h.os, h.tape, h.output, h.size, fun k hk _ => h.block k hk⟩

theorem struck_end {w : World} {b N : Nat} {S : P4 → Prop} {val : P4 → Int} {pd : P4 → Bool} {D : DataW Unit} {left : Lit → Bool} (hown : w.ownsMap Tryz.prog 45 (plainElem Tryz.prog 2) b N D) (h1 : ∀ p, S p → p.ok) (hv : ∀ p, S p → In64 (val p))
    (h : Struck S val pd D left) (hl : ∀ kl, left kl = false) : Vals w b N (fun p => S p ∧ pd p = false) val := by
  obtain ⟨a1, a2, a3⟩ := h
  refine ⟨D, hown, fun p hp => h1 p hp.1, fun p hp => ?_, fun p hp => ⟨hv p hp.1, a3 p hp.1 (.inl hp.2)⟩⟩
  rw [a1 p hp]
  simp [hl]

set_option maxHeartbeats 4000000 in
set_option maxRecDepth 100000 in
theorem delFunc_c (pd : P4 → Bool) (g : Nat) (b N : Nat) (S : P4 → Prop) (val : P4 → Int) (w : World) (eg : ∀ args w, (callFunc g args).run Tryz.prog w = .ok (.enter g args) w) (hV : Vals w b N S val)
    (hdel : ∀ (W : World) (p : P4) (x : Int), Calls Tryz.prog g #[proofV p, .int .i64 x] W fun e w' => e = .returned (.bool (pd p)) ∧ Below W.heap.size W w') :
    Calls Tryz.prog 105 #[.map (some b), .func (.func g) #[] #[]] w fun e w' => e = .returned (.tuple #[]) ∧ Vals w' b N (fun p => S p ∧ pd p = false) val ∧ w.grownBy w' (some b) := by
  obtain ⟨D, hown, s1, s2, s3⟩ := hV
  have hst := struck_start pd s2 s3
  have HD := Lib.hid hdel
  have HST := Lib.hid hst
  have HS1 := Lib.hid s1
  have HS3 := Lib.hid s3
  clear hdel hst s1 s2 s3
  go_enter Tryz.func105, Tryz.ntmps105
  go_wp2_with (first
    | (at_range; refine wpList_range_own _ rfl _ 143 rfl 45 2 keyedP Tryz.underlying143 (plainElem Tryz.prog 2) b N _ rfl hown ?_; intro w0 hrg0 hg0 hs0)
    | fail)
  go_frame
  go_loopw [8] (fun _ wr => ∃ (left : Lit → Bool) (cnt : Nat) (D' : DataW Unit), wr.ranges Tryz.prog 45 (plainElem Tryz.prog 2) b w.heap.size N D' left cnt ∧ Struck S val pd D' left ∧ w.grownBy wr (some b))
    (fun _ wr => wr.rangeLeft b w.heap.size)
  case atStart => exact ⟨_, _, _, hrg0, HST.out, hg0.but _⟩
  case round =>
    obtain ⟨left, cnt, D', hrg, hS, hgw⟩ := hrel
    go_wp2_with (first
      | (at_next; refine wpList_next_ranges _ rfl _ rfl 45 keyedP (plainElem Tryz.prog 2) proofV (Value.int .i64) (fun key kl hk => by obtain ⟨p, hp, _⟩ := keyOf_inv hk; exact ⟨p, hp⟩) (fun v y hy => by obtain ⟨c, hc, _⟩ := plainElem_int_inv Tryz.underlying2 hy; exact ⟨c, hc⟩) b w.heap.size N _ _ _ rfl hrg ?_ ?_)
      | fail)
    · -- nothing is left
      intro _ hl0
      go_wp2
      go_end0
      exact ⟨rfl, struck_end hrg.owns HS1.out (fun p hp => (HS3.out p hp).1) hS hl0, hgw⟩
    · -- a proof has come
      intro x c kl yd yp w1 cnt1 hkey hlx hv hat hrg1 hlt hg1 hs1 hen
      obtain ⟨q, hq, hok, rfl⟩ := keyOf_inv hkey
      obtain rfl := P4.ext' hq
      have hgw1 : w.grownBy w1 (some b) := hgw.andThen hg1 (fun j hj => by cases hj; exact .inl (Nat.le_refl _))
      have hbl := hrg1.owns.lt
      obtain ⟨W2, hW2⟩ : ∃ W2, w1.alloc (.cells #[.int .i64 x.d, .int .i64 x.b, .int .i64 x.l, .int .i64 x.c] 45) = W2 := ⟨_, rfl⟩
      have hrg2 : W2.ranges Tryz.prog 45 (plainElem Tryz.prog 2) b w.heap.size N D' (fun z => left z && !z.sameKey (keyL x)) cnt1 := by rw [← hW2]; exact hrg1.alloc _
      have hgw2 : w.grownBy W2 (some b) := by rw [← hW2]; exact hgw1.andThen (World.grownBy_alloc w1 _ none) (fun j hj => by cases hj)
      have hrow : RowIs W2 w1.heap.size #[.int .i64 x.d, .int .i64 x.b, .int .i64 x.l, .int .i64 x.c] 45 := by rw [← hW2]; exact heap_new_at _ _ _ rfl
      have Hrow := Lib.hid hrow
      have Hgw2 := Lib.hid hgw2
      have Hrg2 := Lib.hid hrg2
      have HS := Lib.hid hS
      have Hlt := Lib.hid (show cnt1 < wr.rangeLeft b w.heap.size by rw [hrg.left_eq]; exact hlt)
      clear hq hgw1 hgw hg1 hat hrow hgw2 hS hrg2 hrg hlt hrg1 hkey hv hrg0 hg0 hown HST hs1
      obtain ⟨d0, d1, d2, d3, dz⟩ := prow Hrow.out
      go_wp2_with fail
      refine (HD.out W2 x c).mono ?_
      rintro e w3 ⟨rfl, hb3⟩
      clear d0 d1 d2 d3 dz
      obtain ⟨d0, d1, d2, d3, dz⟩ := prow (Hrow.out.below hb3)
      have hg3 := grown_of_below hb3
      cases hp : pd x with
      | false =>
        clear hW2
        go_wp2_with fail
        have hrg3 := Hrg2.out.kept hg3 (by simp) (by simp)
        go_roundw
        case rel => exact ⟨_, cnt1, D', hrg3, struck_stays HS1.out HS.out hok hp, Hgw2.out.andThen hg3 (fun j hj => by cases hj)⟩
        case measure => rw [hrg3.left_eq]; exact Hlt.out
      | true =>
        clear hW2
        have hrg3 := Hrg2.out.kept hg3 (by simp) (by simp)
        go_wp2_with (first
          | (at_delete; refine wpList_delete_ranges _ rfl _ _ 143 45 rfl 2 keyedP Tryz.underlying143 (plainElem Tryz.prog 2) b w.heap.size N _ _ _ rfl hrg3 _ _ rfl (keyOf_proof hok) ?_; intro w4 cnt4 hrg4 hle hturn; go_frame)
          | fail)
        rw [strike_twice] at hrg4
        go_roundw
        case rel => exact ⟨_, cnt4, _, hrg4, struck_struck HS1.out HS.out hok hp, (Hgw2.out.andThen hg3 (fun j hj => by cases hj)).andThen hturn.grown (fun j hj => by cases hj; exact .inr rfl)⟩
        case measure => rw [hrg4.left_eq]; exact Nat.lt_of_le_of_lt hle Hlt.out

end Go.Proofs.YtehafggcncbnkaaGreat

namespace Go.Proofs.YtehafggcncbnkaaGreat
open Go.RowKit

def acrossR (a b c : U4) : U4 := ⟨minorR a b c 0, -minorR a b c 1, minorR a b c 2, -minorR a b c 3⟩

/-- The factors, as far as they are known. -/
def acrossA (a b c : U4) (j : Nat) : Array Value :=
  #[.int .i64 (if 0 < j then (acrossR a b c).q else 0), .int .i64 (if 1 < j then (acrossR a b c).p else 0), .int .i64 (if 2 < j then (acrossR a b c).l else 0), .int .i64 (if 3 < j then (acrossR a b c).c else 0)]

theorem urow {w : World} {b : Nat} {u : U4} {T : TypeId} (h : RowIs w b #[.int .i64 u.q, .int .i64 u.p, .int .i64 u.l, .int .i64 u.c] T) :
    w.cell? ⟨b, 0, none⟩ = some (.int .i64 u.q) ∧ w.cell? ⟨b, 1, none⟩ = some (.int .i64 u.p) ∧ w.cell? ⟨b, 2, none⟩ = some (.int .i64 u.l) ∧ w.cell? ⟨b, 3, none⟩ = some (.int .i64 u.c) ∧ b < w.heap.size :=
  ⟨h.cell 0, h.cell 1, h.cell 2, h.cell 3, (Array.getElem?_eq_some_iff.1 h).1⟩

set_option maxRecDepth 100000 in
set_option maxHeartbeats 4000000 in
theorem across_c (a b c : U4) (w : World) (ha : Near a) (hb : Near b) (hc : Near c) :
    Calls Tryz.prog 113 #[rowV a, rowV b, rowV c] w fun e w' => e = .returned (rowV (acrossR a b c)) ∧ Below w.heap.size w w' := by
  obtain ⟨W, hW⟩ : ∃ W, ((((w.alloc (.cells #[.int .i64 a.q, .int .i64 a.p, .int .i64 a.l, .int .i64 a.c] 92)).alloc (.cells #[.int .i64 b.q, .int .i64 b.p, .int .i64 b.l, .int .i64 b.c] 92)).alloc (.cells #[.int .i64 c.q, .int .i64 c.p, .int .i64 c.l, .int .i64 c.c] 92)).alloc (.cells #[.int .i64 0, .int .i64 0, .int .i64 0, .int .i64 0] 92)).alloc (.cells #[.int .i64 0, .int .i64 0, .int .i64 0, .int .i64 0] 92) = W := ⟨_, rfl⟩
  have hB0 : Below w.heap.size w W := by rw [← hW]; exact Below.alloc1 (Below.alloc1 (Below.alloc1 (Below.alloc1 (Below.alloc1 (Below.refl _ _) _ (Nat.le_refl _)) _ (Nat.le_refl _)) _ (Nat.le_refl _)) _ (Nat.le_refl _)) _ (Nat.le_refl _)
  have hA : RowIs W w.heap.size #[.int .i64 a.q, .int .i64 a.p, .int .i64 a.l, .int .i64 a.c] 92 := by rw [← hW]; exact RowIs.alloc (RowIs.alloc (RowIs.alloc (RowIs.alloc (heap_new_at _ _ _ rfl) _) _) _) _
  have hB : RowIs W (w.heap.size + 1) #[.int .i64 b.q, .int .i64 b.p, .int .i64 b.l, .int .i64 b.c] 92 := by rw [← hW]; exact RowIs.alloc (RowIs.alloc (RowIs.alloc (heap_new_at _ _ _ (by simp)) _) _) _
  have hC : RowIs W (w.heap.size + 2) #[.int .i64 c.q, .int .i64 c.p, .int .i64 c.l, .int .i64 c.c] 92 := by rw [← hW]; exact RowIs.alloc (RowIs.alloc (heap_new_at _ _ _ (by simp)) _) _
  have hR : RowIs W (w.heap.size + 3) #[.int .i64 0, .int .i64 0, .int .i64 0, .int .i64 0] 92 := by rw [← hW]; exact RowIs.alloc (heap_new_at _ _ _ (by simp)) _
  have hF : RowIs W (w.heap.size + 4) #[.int .i64 0, .int .i64 0, .int .i64 0, .int .i64 0] 92 := by rw [← hW]; exact heap_new_at _ _ _ (by simp)
  have hz4 : w.heap.size + 4 < W.heap.size := (Array.getElem?_eq_some_iff.1 hF).1
  have hz3 : w.heap.size + 3 < W.heap.size := by omega
  have HA := Lib.hid hA
  have HB := Lib.hid hB
  have HC := Lib.hid hC
  have HR := Lib.hid hR
  have HF := Lib.hid hF
  have m0 := minor_bd ha hb hc 0
  have m1 := minor_bd ha hb hc 1
  have m2 := minor_bd ha hb hc 2
  have m3 := minor_bd ha hb hc 3
  have x0 : IntKind.i64.wrap (1 * minorR a b c 0) = minorR a b c 0 := by rw [Int.one_mul]; exact IntWalk.i64_in _ (by omega)
  have x1 : IntKind.i64.wrap (-1 * minorR a b c 1) = -minorR a b c 1 := by rw [Int.neg_mul, Int.one_mul]; exact IntWalk.i64_in _ (by omega)
  have x2 : IntKind.i64.wrap (1 * minorR a b c 2) = minorR a b c 2 := by rw [Int.one_mul]; exact IntWalk.i64_in _ (by omega)
  have x3 : IntKind.i64.wrap (-1 * minorR a b c 3) = -minorR a b c 3 := by rw [Int.neg_mul, Int.one_mul]; exact IntWalk.i64_in _ (by omega)
  clear hA hB hC hR hF
  go_enter Tryz.func113, Tryz.ntmps113
  go_wp2_with fail
  clear hW
  go_loopw [8, 10] (fun v i wr => ∃ j : Nat, j ≤ 4 ∧ i = .int .i64 j ∧ v = .int .i64 (if j % 2 = 0 then 1 else -1) ∧ RowIs wr (w.heap.size + 4) (acrossA a b c j) 92 ∧ Below (w.heap.size + 4) W wr) (fun _ i _ => 4 - (intOf i).toNat)
  case atStart => exact ⟨0, by omega, rfl, rfl, HF.out, Below.refl _ _⟩
  case round =>
    obtain ⟨j, hj, rfl, rfl, hE, hBr⟩ := hrel
    have hzr := hBr.size
    have hA : RowIs wr w.heap.size _ _ := (hBr.block _ (by omega)).trans HA.out
    have hB : RowIs wr (w.heap.size + 1) _ _ := (hBr.block _ (by omega)).trans HB.out
    have hC : RowIs wr (w.heap.size + 2) _ _ := (hBr.block _ (by omega)).trans HC.out
    obtain ⟨e0, e1, e2, e3, ez⟩ := urow hA
    obtain ⟨f0, f1, f2, f3, fz⟩ := urow hB
    obtain ⟨g0, g1, g2, g3, gz⟩ := urow hC
    have HE := Lib.hid hE
    have hFz : w.heap.size + 4 < wr.heap.size := by omega
    clear hA hB hC hE
    have hcase : j = 0 ∨ j = 1 ∨ j = 2 ∨ j = 3 ∨ j = 4 := by omega
    rcases hcase with rfl | rfl | rfl | rfl | rfl
    · go_wp2_with fail
      refine (minor_c a b c 0 (by omega) _ ha hb hc).mono ?_
      rintro e w2 ⟨rfl, hb2⟩
      have h2 := HE.out.below hb2
      have r0 : w2.cell? ⟨w.heap.size + 4, 0, none⟩ = some (.int .i64 0) := h2.cell 0
      have z0 := h2.frozen 0
      have rz : w.heap.size + 4 < w2.heap.size := Nat.lt_of_lt_of_le hFz hb2.size
      have H2 := Lib.hid h2
      clear h2 e0 e1 e2 e3 f0 f1 f2 f3 g0 g1 g2 g3 ez fz gz
      go_wp2_with fail
      go_roundw
      case rel => exact ⟨1, by omega, rfl, rfl, by simpa [acrossA, acrossR] using H2.out.set 0 (.int .i64 (minorR a b c 0)), (hBr.trans (hb2.mono (by omega))).setCell (p := ⟨w.heap.size + 4, 0, none⟩) (Nat.le_refl _) _⟩
      case measure => simp [intOf]
    · go_wp2_with fail
      refine (minor_c a b c 1 (by omega) _ ha hb hc).mono ?_
      rintro e w2 ⟨rfl, hb2⟩
      have h2 := HE.out.below hb2
      have r0 : w2.cell? ⟨w.heap.size + 4, 1, none⟩ = some (.int .i64 0) := h2.cell 1
      have z0 := h2.frozen 1
      have rz : w.heap.size + 4 < w2.heap.size := Nat.lt_of_lt_of_le hFz hb2.size
      have H2 := Lib.hid h2
      clear h2 e0 e1 e2 e3 f0 f1 f2 f3 g0 g1 g2 g3 ez fz gz
      go_wp2_with fail
      go_roundw
      case rel => exact ⟨2, by omega, rfl, rfl, by simpa [acrossA, acrossR] using H2.out.set 1 (.int .i64 (-minorR a b c 1)), (hBr.trans (hb2.mono (by omega))).setCell (p := ⟨w.heap.size + 4, 1, none⟩) (Nat.le_refl _) _⟩
      case measure => simp [intOf]
    · go_wp2_with fail
      refine (minor_c a b c 2 (by omega) _ ha hb hc).mono ?_
      rintro e w2 ⟨rfl, hb2⟩
      have h2 := HE.out.below hb2
      have r0 : w2.cell? ⟨w.heap.size + 4, 2, none⟩ = some (.int .i64 0) := h2.cell 2
      have z0 := h2.frozen 2
      have rz : w.heap.size + 4 < w2.heap.size := Nat.lt_of_lt_of_le hFz hb2.size
      have H2 := Lib.hid h2
      clear h2 e0 e1 e2 e3 f0 f1 f2 f3 g0 g1 g2 g3 ez fz gz
      go_wp2_with fail
      go_roundw
      case rel => exact ⟨3, by omega, rfl, rfl, by simpa [acrossA, acrossR] using H2.out.set 2 (.int .i64 (minorR a b c 2)), (hBr.trans (hb2.mono (by omega))).setCell (p := ⟨w.heap.size + 4, 2, none⟩) (Nat.le_refl _) _⟩
      case measure => simp [intOf]
    · go_wp2_with fail
      refine (minor_c a b c 3 (by omega) _ ha hb hc).mono ?_
      rintro e w2 ⟨rfl, hb2⟩
      have h2 := HE.out.below hb2
      have r0 : w2.cell? ⟨w.heap.size + 4, 3, none⟩ = some (.int .i64 0) := h2.cell 3
      have z0 := h2.frozen 3
      have rz : w.heap.size + 4 < w2.heap.size := Nat.lt_of_lt_of_le hFz hb2.size
      have H2 := Lib.hid h2
      clear h2 e0 e1 e2 e3 f0 f1 f2 f3 g0 g1 g2 g3 ez fz gz
      go_wp2_with fail
      go_roundw
      case rel => exact ⟨4, by omega, rfl, rfl, by simpa [acrossA, acrossR] using H2.out.set 3 (.int .i64 (-minorR a b c 3)), (hBr.trans (hb2.mono (by omega))).setCell (p := ⟨w.heap.size + 4, 3, none⟩) (Nat.le_refl _) _⟩
      case measure => simp [intOf]
    · have hE : RowIs wr (w.heap.size + 4) #[.int .i64 (acrossR a b c).q, .int .i64 (acrossR a b c).p, .int .i64 (acrossR a b c).l, .int .i64 (acrossR a b c).c] 92 := by simpa [acrossA] using HE.out
      have hRr : RowIs wr (w.heap.size + 3) _ _ := (hBr.block _ (by omega)).trans HR.out
      obtain ⟨r0, r1, r2, r3, rz⟩ := urow hE
      have q0 : wr.cell? ⟨w.heap.size + 3, 0, none⟩ = some (.int .i64 0) := hRr.cell 0
      have q1 : wr.cell? ⟨w.heap.size + 3, 1, none⟩ = some (.int .i64 0) := hRr.cell 1
      have q2 : wr.cell? ⟨w.heap.size + 3, 2, none⟩ = some (.int .i64 0) := hRr.cell 2
      have q3 : wr.cell? ⟨w.heap.size + 3, 3, none⟩ = some (.int .i64 0) := hRr.cell 3
      have z0 := hRr.frozen 0
      have z1 := hRr.frozen 1
      have z2 := hRr.frozen 2
      have z3 := hRr.frozen 3
      have H2 := Lib.hid hRr
      have qz : w.heap.size + 3 < wr.heap.size := by omega
      obtain ⟨U, hU⟩ : ∃ U, acrossR a b c = U := ⟨_, rfl⟩
      rw [hU] at r0 r1 r2 r3
      clear hE hRr e0 e1 e2 e3 f0 f1 f2 f3 g0 g1 g2 g3 ez fz gz
      go_wp2_with fail
      have f0 : RowIs _ (w.heap.size + 3) _ 92 := (((H2.out.set 0 (.int .i64 U.q)).set 1 (.int .i64 U.p)).set 2 (.int .i64 U.l)).set 3 (.int .i64 U.c)
      have g0 := f0.cell 0
      have g1 := f0.cell 1
      have g2 := f0.cell 2
      have g3 := f0.cell 3
      simp at g0 g1 g2 g3
      clear f0 q0 q1 q2 q3 z0 z1 z2 z3 r0 r1 r2 r3
      refine bodyPost_ret (v := rowV U) (by simp [results, Tryz.results113, go_sem, g0, g1, g2, g3]) rfl ⟨by rw [hU], ?_⟩
      exact (((((hB0.trans (hBr.mono (by omega))).setCell (p := ⟨w.heap.size + 3, 0, none⟩) (Nat.le_add_right _ _) _).setCell (p := ⟨w.heap.size + 3, 1, none⟩) (Nat.le_add_right _ _) _).setCell (p := ⟨w.heap.size + 3, 2, none⟩) (Nat.le_add_right _ _) _).setCell (p := ⟨w.heap.size + 3, 3, none⟩) (Nat.le_add_right _ _) _)

end Go.Proofs.YtehafggcncbnkaaGreat

namespace Go.Proofs.YtehafggcncbnkaaGreat
open Go.RowKit

def proofOfR (f : U4) (d : Int) : P4 := ⟨-(f.p.tdiv d), f.q.tdiv d, -(f.l.tdiv d), f.c.tdiv d⟩

set_option maxRecDepth 100000 in
set_option maxHeartbeats 4000000 in
theorem proofOf_c (f : U4) (d : Int) (w : World) (hd : d ≠ 0) (hq : -6000000000 ≤ f.q ∧ f.q ≤ 6000000000) (hp : -6000000000 ≤ f.p ∧ f.p ≤ 6000000000) (hl : -6000000000 ≤ f.l ∧ f.l ≤ 6000000000) (hc : -6000000000 ≤ f.c ∧ f.c ≤ 6000000000) :
    Calls Tryz.prog 114 #[rowV f, .int .i64 d] w fun e w' => e = .returned (proofV (proofOfR f d)) ∧ Below w.heap.size w w' := by
  obtain ⟨W, hW⟩ : ∃ W, (w.alloc (.cells #[.int .i64 f.q, .int .i64 f.p, .int .i64 f.l, .int .i64 f.c] 92)).alloc (.cells #[.int .i64 0, .int .i64 0, .int .i64 0, .int .i64 0] 45) = W := ⟨_, rfl⟩
  have hB0 : Below w.heap.size w W := by rw [← hW]; exact Below.alloc1 (Below.alloc1 (Below.refl _ _) _ (Nat.le_refl _)) _ (Nat.le_refl _)
  have hA : RowIs W w.heap.size #[.int .i64 f.q, .int .i64 f.p, .int .i64 f.l, .int .i64 f.c] 92 := by rw [← hW]; exact RowIs.alloc (heap_new_at _ _ _ rfl) _
  have hR : RowIs W (w.heap.size + 1) #[.int .i64 0, .int .i64 0, .int .i64 0, .int .i64 0] 45 := by rw [← hW]; exact heap_new_at _ _ _ (by simp)
  obtain ⟨e0, e1, e2, e3, ez⟩ := urow hA
  have q0 : W.cell? ⟨w.heap.size + 1, 0, none⟩ = some (.int .i64 0) := hR.cell 0
  have q1 : W.cell? ⟨w.heap.size + 1, 1, none⟩ = some (.int .i64 0) := hR.cell 1
  have q2 : W.cell? ⟨w.heap.size + 1, 2, none⟩ = some (.int .i64 0) := hR.cell 2
  have q3 : W.cell? ⟨w.heap.size + 1, 3, none⟩ = some (.int .i64 0) := hR.cell 3
  have z0 := hR.frozen 0
  have z1 := hR.frozen 1
  have z2 := hR.frozen 2
  have z3 := hR.frozen 3
  have qz : w.heap.size + 1 < W.heap.size := (Array.getElem?_eq_some_iff.1 hR).1
  have H2 := Lib.hid hR
  have dv (x : Int) (hx : -6000000000 ≤ x ∧ x ≤ 6000000000) : IntKind.i64.wrap (x.tdiv d) = x.tdiv d := by
    have := Int.natAbs_tdiv_le_natAbs x d
    exact IntWalk.i64_in _ (by omega)
  have y0 := dv f.q hq
  have y1 : wrap64 (-(f.p.tdiv d)) = -(f.p.tdiv d) := by
    have := Int.natAbs_tdiv_le_natAbs f.p d
    exact IntWalk.wrap64_in _ ⟨by omega, by omega⟩
  have y2 : wrap64 (-(f.l.tdiv d)) = -(f.l.tdiv d) := by
    have := Int.natAbs_tdiv_le_natAbs f.l d
    exact IntWalk.wrap64_in _ ⟨by omega, by omega⟩
  have y3 := dv f.c hc
  have n1 : IntKind.i64.wrap (-f.p) = -f.p := IntWalk.i64_in _ (by omega)
  have n2 : IntKind.i64.wrap (-f.l) = -f.l := IntWalk.i64_in _ (by omega)
  have hd' : (d == 0) = false := by simpa using hd
  clear hA hR dv
  go_enter Tryz.func114, Tryz.ntmps114
  go_wp2_with fail
  clear hW
  go_region
  rw [y1, y2]
  go_wp2_with fail
  have f0 : RowIs _ (w.heap.size + 1) _ 45 := (((H2.out.set 0 (.int .i64 (-(f.p.tdiv d)))).set 1 (.int .i64 (f.q.tdiv d))).set 2 (.int .i64 (-(f.l.tdiv d)))).set 3 (.int .i64 (f.c.tdiv d))
  have g0 := f0.cell 0
  have g1 := f0.cell 1
  have g2 := f0.cell 2
  have g3 := f0.cell 3
  simp at g0 g1 g2 g3
  clear f0 q0 q1 q2 q3 z0 z1 z2 z3
  refine bodyPost_ret (v := proofV (proofOfR f d)) (by simp [results, Tryz.results114, go_sem, g0, g1, g2, g3, proofOfR]) rfl ⟨rfl, ?_⟩
  exact ((((hB0.setCell (p := ⟨w.heap.size + 1, 0, none⟩) (Nat.le_succ _) _).setCell (p := ⟨w.heap.size + 1, 1, none⟩) (Nat.le_succ _) _).setCell (p := ⟨w.heap.size + 1, 2, none⟩) (Nat.le_succ _) _).setCell (p := ⟨w.heap.size + 1, 3, none⟩) (Nat.le_succ _) _).drew

end Go.Proofs.YtehafggcncbnkaaGreat

namespace Go.Proofs.YtehafggcncbnkaaGreat
open Go Go.RowKit Go.Maps

/-- The rows: those of the units, and behind them three that ask that Den, Lead and Copper are not below 0. -/
def rowsU (n : Nat) (u : Nat → U4) (i : Nat) : U4 := if i < n then u i else if i = n then ⟨0, 1, 0, 0⟩ else if i = n + 1 then ⟨0, 0, 1, 0⟩ else ⟨0, 0, 0, -1⟩
def zeroU (f : U4) : Bool := f.q == 0 && (f.p == 0 && (f.l == 0 && f.c == 0))
/-- The two proofs that factors tell. -/
def prfsOf (f : U4) : List P4 := if zeroU f then [] else [proofOfR f (divF f.at 4), proofOfR f (-(divF f.at 4))]
def acrossT (r : Nat → U4) (t : Tri) : U4 := acrossR (r t.1) (r t.2.1) (r t.2.2)
/-- Those of the first k triples. -/
def prfL (N : Nat) (r : Nat → U4) (k : Nat) : List P4 := ((triL N).take k).flatMap fun t => prfsOf (acrossT r t)
/-- All that hold. -/
def prfS (n : Nat) (u : Nat → U4) (p : P4) : Prop := p ∈ prfL (n + 3) (rowsU n u) (triL (n + 3)).length ∧ noneB (facU p) (rowsU n u) (n + 3) = true

def Six (x : Int) : Prop := -6000000000 ≤ x ∧ x ≤ 6000000000
/-- All four numbers are small. -/
def P4.six (p : P4) : Prop := Six p.d ∧ Six p.b ∧ Six p.l ∧ Six p.c
def U4.six (u : U4) : Prop := Six u.q ∧ Six u.p ∧ Six u.l ∧ Six u.c

theorem P4.six.ok {p : P4} (h : p.six) : p.ok := by
  obtain ⟨h0, h1, h2, h3⟩ := h
  unfold Six at *
  exact ⟨⟨by omega, by omega⟩, ⟨by omega, by omega⟩, ⟨by omega, by omega⟩, ⟨by omega, by omega⟩⟩

theorem rows_near {n : Nat} {u : Nat → U4} (hS : Small n u) (i : Nat) : Near (rowsU n u i) := by
  unfold rowsU
  split
  · rename_i h
    obtain ⟨h0, h1, h2, h3⟩ := hS.2 i h
    exact ⟨by omega, by omega, by omega, by omega⟩
  · split
    · exact ⟨by simp, by simp, by simp, by simp⟩
    · split
      · exact ⟨by simp, by simp, by simp, by simp⟩
      · exact ⟨by simp, by simp, by simp, by simp⟩

theorem across_six {a b c : U4} (ha : Near a) (hb : Near b) (hc : Near c) : (acrossR a b c).six := by
  obtain ⟨a0, a1, a2, a3⟩ := ha
  obtain ⟨b0, b1, b2, b3⟩ := hb
  obtain ⟨c0, c1, c2, c3⟩ := hc
  have h0 := det_bd a1 a2 a3 b1 b2 b3 c1 c2 c3
  have h1 := det_bd a2 a3 a0 b2 b3 b0 c2 c3 c0
  have h2 := det_bd a3 a0 a1 b3 b0 b1 c3 c0 c1
  have h3 := det_bd a0 a1 a2 b0 b1 b2 c0 c1 c2
  refine ⟨?_, ?_, ?_, ?_⟩ <;> (unfold Six acrossR minorR; simp only; omega)

theorem tdiv_six {x : Int} (d : Int) (h : Six x) : Six (x.tdiv d) := by
  have := Int.natAbs_tdiv_le_natAbs x d
  unfold Six at *
  omega

theorem neg_six {x : Int} (h : Six x) : Six (-x) := by unfold Six at *; omega

theorem proofOf_six {f : U4} (d : Int) (h : f.six) : (proofOfR f d).six :=
  ⟨neg_six (tdiv_six d h.2.1), tdiv_six d h.1, neg_six (tdiv_six d h.2.2.1), tdiv_six d h.2.2.2⟩

theorem prfs_six {f : U4} (h : f.six) : ∀ p ∈ prfsOf f, p.six := fun p hp => by
  unfold prfsOf at hp
  split at hp
  · simp at hp
  · simp at hp
    rcases hp with rfl | rfl
    · exact proofOf_six _ h
    · exact proofOf_six _ h

theorem prfL_six {N : Nat} {r : Nat → U4} (hr : ∀ i, Near (r i)) (k : Nat) : ∀ p ∈ prfL N r k, p.six := fun p hp => by
  unfold prfL at hp
  rw [List.mem_flatMap] at hp
  obtain ⟨t, _, hp⟩ := hp
  exact prfs_six (across_six (hr _) (hr _) (hr _)) p hp

theorem div_pos' (f : Nat → Int) (n : Nat) : 1 ≤ divF f n := by unfold divF; omega

theorem mild_six {p : P4} (hp : p.six) {u : U4} (hu : Near u) : Mild (facU p) u := by
  obtain ⟨h0, h1, h2, h3⟩ := hp
  obtain ⟨u0, u1, u2, u3⟩ := hu
  unfold Six at *
  intro k
  have key : ∀ {x y : Int}, -6000000000 ≤ x ∧ x ≤ 6000000000 → -1000 ≤ y ∧ y ≤ 1000 → -1152921504606846976 ≤ x * y ∧ x * y ≤ 1152921504606846976 := fun hx hy => by
    have := mul_both hx hy (by decide) (by decide)
    omega
  match k with
  | 0 => exact key h1 u0
  | 1 => exact key (x := -p.d) (by omega) u1
  | 2 => exact key (x := -p.l) (by omega) u2
  | _ + 3 => exact key h3 u3

theorem valueR_six {p : P4} (hp : p.six) {l c : Int} (ht : 0 ≤ l ∧ l ≤ 1000 ∧ 0 ≤ c ∧ c ≤ 1000) : -100000000000000 ≤ valueR l c p ∧ valueR l c p ≤ 100000000000000 := by
  obtain ⟨h0, h1, h2, h3⟩ := hp
  unfold Six at *
  have a := mul_both (x := p.l) (y := l) (A := 6000000000) (B := 1000) (by omega) (by omega) (by decide) (by decide)
  have b := mul_both (x := p.c) (y := c) (A := 6000000000) (B := 1000) (by omega) (by omega) (by decide) (by decide)
  unfold valueR
  omega

theorem prf_step {N : Nat} {r : Nat → U4} {k : Nat} (h : k < (triL N).length) : prfL N r (k + 1) = prfL N r k ++ prfsOf (acrossT r (triL N)[k]) := by
  unfold prfL
  rw [List.take_succ_eq_append_getElem h, List.flatMap_append]
  simp

set_option maxHeartbeats 1000000 in
theorem value6_c (g n : Nat) (l c : Int) (p : P4) (w : World) (hp : p.six) (ht : 0 ≤ l ∧ l ≤ 1000 ∧ 0 ≤ c ∧ c ≤ 1000) :
    Calls Tryz.prog 78 #[potV g n l c, proofV p] w fun e w' => e = .returned (.int .i64 (valueR l c p)) ∧ Below w.heap.size w w' := by
  obtain ⟨W, hW⟩ : ∃ W, (w.alloc (.cells #[.slice (some ⟨g, 0, none⟩) n n, .int .i64 1, .int .i64 0, .int .i64 l, .int .i64 c] 102)).alloc (.cells #[.int .i64 p.d, .int .i64 p.b, .int .i64 p.l, .int .i64 p.c] 45) = W := ⟨_, rfl⟩
  have hB0 : Below w.heap.size w W := by rw [← hW]; exact Below.alloc1 (Below.alloc1 (Below.refl _ _) _ (Nat.le_refl _)) _ (Nat.le_refl _)
  have hA : RowIs W w.heap.size #[.slice (some ⟨g, 0, none⟩) n n, .int .i64 1, .int .i64 0, .int .i64 l, .int .i64 c] 102 := by rw [← hW]; exact RowIs.alloc (heap_new_at _ _ _ rfl) _
  have hC : RowIs W (w.heap.size + 1) #[.int .i64 p.d, .int .i64 p.b, .int .i64 p.l, .int .i64 p.c] 45 := by rw [← hW]; exact heap_new_at _ _ _ (by simp)
  have a1 := hA.cell 1
  have a2 := hA.cell 2
  have a3 := hA.cell 3
  have a4 := hA.cell 4
  have b0 := hC.cell 0
  have b1 := hC.cell 1
  have b2 := hC.cell 2
  have b3 := hC.cell 3
  simp at a1 a2 a3 a4 b0 b1 b2 b3
  have hz1 : w.heap.size + 1 < W.heap.size := (Array.getElem?_eq_some_iff.1 hC).1
  have hz0 : w.heap.size < W.heap.size := by omega
  have HM := mild_six (u := ⟨1, 0, l, c⟩) hp ⟨by simp, by simp, by simp only; omega, by simp only; omega⟩
  obtain ⟨s0, s1, s2, s3⟩ := hp
  unfold Six at s0 s1 s2 s3
  clear hA hC
  go_enter Tryz.func78, Tryz.ntmps78
  go_wp2_with fail
  clear hW
  have hlc := fun (x : Later W) => later_cell x
  refine wp_region_later (by kernel_rfl) (by kernel_rfl) ?_
  repeat (go_big_quiet_step ((first | (refine calls_later (factors_c p _ (by omega) (by omega))) | (refine calls_later (dot_c (facU p) ⟨1, 0, l, c⟩ _ HM)))))
  refine wpQuiet_nil ?_
  clear hlc
  rintro ⟨w2, hb2⟩
  go_wp2_with fail
  go_ret
  exact ⟨ret_i (dot_value l c p), bup hB0 hb2⟩

theorem none6_c (g n cap : Nat) (r : Nat → U4) (p : P4) (w : World) (hu : Units w (some ⟨g, 0, none⟩) n r) (hn : n ≤ 1048576) (hr : ∀ i, Near (r i)) (hp : p.six) :
    Calls Tryz.prog 101 #[.slice (some ⟨g, 0, none⟩) n cap, proofV p] w fun e w' => e = .returned (.bool (noneB (facU p) r n)) ∧ Below w.heap.size w w' := by
  refine noneAbove_c _ n cap r p w hu hn (fun i _ => mild_six hp (hr i)) ?_ ?_
  · have := hp.1; unfold Six at this; omega
  · have := hp.2.2.1; unfold Six at this; omega

/-- An append beyond the capacity, inside a fence. -/
theorem wpListIn_append_grows {F : Fence} {nF : Nat} {P : Program} (w : World) {ops : Array Oper} {rest : List Oper} {o : Oper} {a : Act} {Q : Exit → Act → World → Prop}
    (hg : o.guard = none) (s x : Operand) (t : TypeId) (hop : o.op = Op.call { callee := Callee.builtin Builtin.append, args := #[s, x], argTypes := #[t, t] })
    (e : TypeId) (i : TypeInfo) (z : Value) (size bytes : Nat) (h1 : P.underlying t = some (.slice e)) (h2 : P.info? e = some i) (h3 : i.zero = some z) (h4 : i.size = size) (h5 : i.bytes = bytes) (h6 : z.cells.size = size) (h7 : 0 < size)
    (b : Addr) (n cap : Nat) (olds : List Value) (hs : a.eval s = .slice (some b) n cap) (hlo : olds.length = n * size) (holds : ∀ j u, olds[j]? = some u → w.cell? (b.add j) = some u)
    (ad : Addr) (m c : Nat) (news : List Value) (hx : a.eval x = .slice (some ad) m c) (hn : news.length = m * size) (hc : ∀ j u, news[j]? = some u → w.cell? (ad.add j) = some u)
    (hfull : cap < n + m) (b1 : n + m ≤ maxLen) (b2 : (n + m) * bytes ≤ 140737488355328)
    (hK : ∀ v' w', w'.ownsRow w.heap.size e size v' (n + m) (olds ++ news) → w.grownBy w' none → wpListIn F nF P ops Q rest (a.put o.dst v') w') :
    wpListIn F nF P ops Q (o :: rest) a w := by
  refine wpListIn_plain hg fun K hK' => ?_
  obtain ⟨v', w', hrun, r1, r2⟩ := run_append_arg_grows (P := P) w t o.type e i z size bytes h1 h2 h3 h4 h5 h6 h7 b n cap olds hlo holds ad m c news hn hc hfull b1 b2
  unfold Oper.wpIn
  refine ⟨by simp [Oper.about, hop, resolve, Target.leads, Sem.run_pure], ?_⟩
  rw [Oper.semAt_plain F _ _ (by rw [hop]; intro c hc'; cases hc')]
  simp [execOp, hop, resolve, invoke, builtin, hs, hx, hrun, Result.andThen]
  exact hK' _ _ (hK v' w' r1 r2)

end Go.Proofs.YtehafggcncbnkaaGreat
