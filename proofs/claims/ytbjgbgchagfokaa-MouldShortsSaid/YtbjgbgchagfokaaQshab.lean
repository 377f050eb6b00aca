/- For whatever arguments, the law MouldShorts returns true, and each argument reads behind the call as it read before. No condition. -/
import Derived.Test.YtbjgbgchagfokaaProg
import Derived.Test.YtbjgbgchagfokaaBasaa
import Derived.Test.YtbjgbgchagfokaaBasay
import Derived.Shelf.Abstract
import Derived.Shelf.RegionOpen
import Derived.Test.YtbjgbgchagfokaaBasab
import Derived.Test.YtbjgbgchagfokaaBasam
import Derived.Test.YtbjgbgchagfokaaQshaa
import Derived.Deep.RegionHeld3
import Derived.Deep.CutRange
import Derived.Deep.DeepCutAuto
import Derived.Test.YtbjgbgchagfokaaBasap
import Derived.Test.YtbjgbgchagfokaaBasaf
import Derived.Test.YtbjgbgchagfokaaBasak
import Derived.Test.YtbjgbgchagfokaaBasba
import Derived.Test.YtbjgbgchagfokaaBasaz
import Derived.Test.YtbjgbgchagfokaaBasbc
import Derived.Test.YtbjgbgchagfokaaRows
import Derived.Test.YtbjgbgchagfokaaBasbd
import Derived.ProofKit
namespace Go.Proofs.Ytbjgbgchagfokaa
open Go Go.RowKit

/-- The best one of those that go on a list, of r indexes that are left. -/
def refL (F : List Nat → Nat → Bool) (n : Nat) : Nat → List Nat → List Nat → List Nat
  | 0, _, best => best
  | r + 1, b, best => refL F n r b (if F b (n - (r + 1)) then pick best (refL F n r (b ++ [n - (r + 1)]) (b ++ [n - (r + 1)])) else best)
theorem refL_best (F : List Nat → Nat → Bool) (n : Nat) : ∀ r b best, refL F n r b best = bestL best (tailsL F n r b)
  | 0, _, _ => rfl
  | r + 1, b, best => by
    rw [refL, tailsL, refL_best F n r b, refL_best F n r, bestL_app]
    congr 1
    by_cases h : F b (n - (r + 1)) = true
    · rw [if_pos h, if_pos h, bestL_step]
    · rw [if_neg h, if_neg h]
      rfl
theorem tails_congr {F G : List Nat → Nat → Bool} {n : Nat} {P : List Nat → Prop} (hs : ∀ b j, P b → j < n → (∀ k, k ∈ b → k < j) → F b j = true → P (b ++ [j])) (hFG : ∀ b j, P b → j < n → (∀ k, k ∈ b → k < j) → F b j = G b j) :
    ∀ r b, r ≤ n → P b → (∀ k, k ∈ b → k < n - r) → tailsL F n r b = tailsL G n r b
  | 0, _, _, _, _ => rfl
  | r + 1, b, hr, hb, hlt => by
    have e := hFG b (n - (r + 1)) hb (by omega) hlt
    rw [tailsL, tailsL, ← e, tails_congr hs hFG r b (by omega) hb fun k hk => by have := hlt k hk; omega]
    congr 1
    by_cases h : F b (n - (r + 1)) = true
    · rw [if_pos h, if_pos h, tails_congr hs hFG r (b ++ [n - (r + 1)]) (by omega) (hs b _ hb (by omega) hlt h) fun k hk => by
        rcases List.mem_append.1 hk with hk | hk
        · have := hlt k hk; omega
        · rw [List.mem_singleton] at hk; omega]
    · rw [if_neg h, if_neg h]
/-- Is a list with one more a day's list, as the document asks. -/
def dayF (f : Nat → W2) (b : List Nat) (j : Nat) : Bool := dayB f (natG (b ++ [j])) (b ++ [j]).length
theorem listB_more {n : Nat} {b : List Nat} {j : Nat} (h : listB (natG b) n b.length = true) (hj : j < n) (hlt : ∀ k, k ∈ b → k < j) : listB (natG (b ++ [j])) n (b ++ [j]).length = true := by
  have hlen : (b ++ [j]).length = b.length + 1 := by simp
  rw [hlen, listB_iff]
  intro i hi
  by_cases e : i = b.length
  · subst e
    rw [natG_hi]
    refine ⟨by omega, fun h0 => ?_⟩
    rw [natG_lo b j (by omega)]
    have := hlt _ (natG_mem (b := b) (i := b.length - 1) (by omega))
    unfold natG
    omega
  · have h1 := (listB_iff _ _ _).1 h i (by omega)
    rw [natG_lo b j (by omega)]
    refine ⟨h1.1, fun h0 => ?_⟩
    rw [natG_lo b j (by omega)]
    exact h1.2 h0
theorem dayF_apart {f : Nat → W2} {n : Nat} {b : List Nat} {j : Nat} (h : GoodL f n b) (hj : j < n) (hlt : ∀ k, k ∈ b → k < j) : apartL f n b j = dayF f b j := by
  have hl := listB_more h.1 hj hlt
  have hlen : (b ++ [j]).length = b.length + 1 := by simp
  rw [dayF, ← apart_day hl, hlen, apartAll, natG_hi, Int.toNat_natCast]
  have h1 : apartAll f n (natG (b ++ [j])) b.length = true := by
    rw [apartAll_iff]
    intro k hk
    rw [natG_lo b j hk]
    exact apartB_same (fun i hi => (natG_lo b j (by omega)).symm) ((apartAll_iff _ _ _ _).1 h.2 k hk)
  rw [h1, Bool.true_and]
  apply Bool.eq_iff_iff.2
  exact ⟨fun h => apartB_same (fun i hi => (natG_lo b j hi).symm) h, fun h => apartB_same (fun i hi => natG_lo b j hi) h⟩
theorem refL_is (f : Nat → W2) (n : Nat) : refL (dayF f) n n [] [] = bestOf f n := by
  rw [refL_best, bestOf_best]
  congr 1
  exact (tails_congr (F := apartL f n) (G := dayF f) (P := GoodL f n) (fun b j hb hj hlt ha => goodL_more hb hj hlt ha) (fun b j hb hj hlt => dayF_apart hb hj hlt) n [] (Nat.le_refl _) (goodL_nil f n) fun k hk => absurd hk List.not_mem_nil).symm

end Go.Proofs.Ytbjgbgchagfokaa

namespace Go.Proofs.Ytbjgbgchagfokaa
open Go Go.RowKit Go.Shelf

/-- A list of one's own with one more, out of any list. -/
theorem copy_one {w : World} {b : List Nat} {p : Option Addr} {c k : Nat} (hL : Lst w b p c) (hlen : b.length ≤ 1048576) :
    ∃ g1 c1 w2, (Builtin.append_ #[25, 25] 25 #[.slice (some ⟨w.heap.size, 0, none⟩) 0 0, .slice p b.length c]).run Try.prog (w.alloc (.cells #[] 3)) = .ok (.slice (some ⟨g1, 0, none⟩) b.length c1) w2 ∧
      ∃ g2 c2 w4, (Builtin.append_ #[25, 25] 25 #[.slice (some ⟨g1, 0, none⟩) b.length c1, .slice (some ⟨w2.heap.size, 0, none⟩) 1 1]).run Try.prog (w2.alloc (.cells #[.int .i64 (k : Int)] 3)) = .ok (.slice (some ⟨g2, 0, none⟩) (b.length + 1) c2) w4 ∧
        Lst w4 (b ++ [k]) (some ⟨g2, 0, none⟩) c2 ∧ Below w.heap.size w w4 := by
  obtain ⟨i0, hi, hi0, hi1, hi2⟩ := info_parts1 infoInt
  have hB1 : Below w.heap.size w (w.alloc (.cells #[] 3)) := (Below.refl _ w).alloc (Nat.le_refl _) _
  have hsrc : (b.length = 0 ∧ natL b = []) ∨ ∃ ad, p = some ad ∧ (natL b).length = b.length * 1 ∧ ∀ j u, (natL b)[j]? = some u → (w.alloc (.cells #[] 3)).cell? (ad.add j) = some u := by
    rcases (Cells.below hL.cells hB1) with h | ⟨bb, off, rfl, hlt, hc⟩
    · exact .inl ⟨h, by rw [natL, List.length_eq_zero_iff.1 h]; rfl⟩
    · refine .inr ⟨_, rfl, by simp [natL], fun j u hj => ?_⟩
      have hjl : j < b.length := by have := (List.getElem?_eq_some_iff.1 hj).1; simpa [natL] using this
      have e : (natL b)[j]? = some (.int .i64 ((b.getD j 0 : Nat) : Int)) := by simp [natL, List.getD_eq_getElem?_getD, List.getElem?_eq_getElem hjl]
      rw [e] at hj
      rw [← Option.some.inj hj]
      unfold Addr.add
      split
      · rename_i h0; subst h0; exact hc 0 hjl
      · exact hc j hjl
  have hone : ∀ u ∈ natL b, u.oneCell' = true := fun u hu => by
    simp only [natL, List.mem_map] at hu
    obtain ⟨x, -, rfl⟩ := hu
    rfl
  obtain ⟨g1, c1, w2, hr1, ho1, hb1, -, -⟩ := app_list (P := Try.prog) Try.underlying25 hi hi0 hi1 hi2 rfl (by decide) (ty := 25) (cap := c) hB1 rfl (lit_owns (e := 3) (size := 1) (Nat.le_refl _)) hsrc hone (by unfold maxLen; omega) (by omega)
  simp only [Nat.zero_add, List.nil_append] at hr1 ho1
  have hb3 : Below w.heap.size w (w2.alloc (.cells #[.int .i64 (k : Int)] 3)) := hb1.alloc hb1.size _
  have ho3 : OwnR 3 1 w.heap.size (w2.alloc (.cells #[.int .i64 (k : Int)] 3)) b.length (natL b) g1 c1 := ho1.below ((Below.refl _ w2).alloc (Nat.le_refl _) _)
  obtain ⟨g2, c2, w4, hr2, ho4, hb4, -, -⟩ := app_list (P := Try.prog) Try.underlying25 hi hi0 hi1 hi2 rfl (by decide) (ty := 25) (n := 1) (cap := 1) (a := some ⟨w2.heap.size, 0, none⟩) (news := [.int .i64 (k : Int)]) hb3 rfl ho3 (.inr ⟨_, rfl, rfl, World.news_of_block (cs := #[.int .i64 (k : Int)]) (World.alloc_heap_new w2 _)⟩) (by simp [Value.oneCell']) (by unfold maxLen; omega) (by omega)
  have hown : Own w4 w.heap.size (b ++ [k]) (.slice (some ⟨g2, 0, none⟩) (b.length + 1) c2) := by
    unfold Own
    rw [show natL (b ++ [k]) = natL b ++ [.int .i64 (k : Int)] by simp [natL], show (b ++ [k]).length = b.length + 1 by simp]
    exact ho4
  obtain ⟨p', c', e, hL', -⟩ := hown.lst
  rw [show (b ++ [k]).length = b.length + 1 by simp] at e
  injection e with e1 _ e3
  subst e1 e3
  exact ⟨g1, c1, w2, hr1, g2, c2, w4, hr2, hL', hb4⟩

set_option maxRecDepth 100000 in
set_option maxHeartbeats 16000000 in
theorem ListOf_c (S M : Int) (a : Option Addr) (n cap : Nat) (f : Nat → W2) (hn : n ≤ 1000) : ∀ (r : Nat) (b : List Nat) (p : Option Addr) (c : Nat) (w : World), r ≤ n → b.length + r ≤ n → (∀ k, k ∈ b → k < n) → Wants w a n f → Lst w b p c →
    Calls Try.prog 60 #[bookV S M a n cap, .slice p b.length c, .int .i64 ((n - r : Nat) : Int)] w fun e w' => ∃ p' c', e = .returned (.slice p' (refL (dayF f) n r b b).length c') ∧ Lst w' (refL (dayF f) n r b b) p' c' ∧ Below w.heap.size w w' := by
  intro r
  induction r using Nat.strongRecOn with
  | ind r ih =>
  intro b p c w hr hbr hbn hf hL
  obtain ⟨W, hW⟩ : ∃ W, w.alloc (.cells #[.int .i64 S, .int .i64 M, .slice a n cap] 24) = W := ⟨_, rfl⟩
  have hB : Below w.heap.size w W := by rw [← hW]; exact Below.alloc1 (Below.refl _ _) _ (Nat.le_refl _)
  have hR : RowIs W w.heap.size #[.int .i64 S, .int .i64 M, .slice a n cap] 24 := by rw [← hW]; exact heap_new_at _ _ _ rfl
  have HR := Lib.hid hR
  have HF := Lib.hid (hf.below hB)
  have HL := Lib.hid (hL.below hB)
  have HB := Lib.hid hB
  have IH := Lib.hid ih
  have Hbn := Lib.hid hbn
  clear hR hf hL hB ih hbn
  go_enter Try.func60, Try.ntmps60
  go_wp2_with fail
  clear hW
  go_loopw [7, 8, 9, 10] (fun best i _ _ wr => ∃ (q : Nat) (L : List Nat) (p' : Option Addr) (c' : Nat), q ≤ r ∧ i = .int .i64 ((n - q : Nat) : Int) ∧ best = .slice p' L.length c' ∧ Lst wr L p' c' ∧ refL (dayF f) n q b L = refL (dayF f) n r b b ∧ Below W.heap.size W wr) (fun _ i _ _ _ => n - (intOf i).toNat)
  case atStart => exact ⟨r, b, p, c, Nat.le_refl _, rfl, rfl, HL.out, rfl, Below.refl _ _⟩
  case round =>
    obtain ⟨q, L, p', c', hq, rfl, rfl, hLL, hE, hbw⟩ := hrel
    have hr := RowIs.below HR.out hbw
    have r0 : wr.cell? ⟨w.heap.size, 0, none⟩ = some (.int .i64 S) := hr.cell 0
    have r1 : wr.cell? ⟨w.heap.size, 1, none⟩ = some (.int .i64 M) := hr.cell 1
    have r2 : wr.cell? ⟨w.heap.size, 2, none⟩ = some (.slice a n cap) := hr.cell 2
    have rz := hr.lt
    have LL := Lib.hid hLL
    have HE := Lib.hid hE
    have Hbw := Lib.hid hbw
    clear hr hLL hE hbw
    cases q with
    | zero =>
      rw [Nat.sub_zero]
      have HE' : Hid (refL (dayF f) n r b b = L) := Lib.hid HE.out.symm
      go_wp2_with fail
      go_ret
      rw [HE'.out]
      exact ⟨_, _, rfl, LL.out, bup HB.out Hbw.out⟩
    | succ q =>
      obtain ⟨k, hk⟩ : ∃ k, n - (q + 1) = k := ⟨_, rfl⟩
      have hkn : k < n := by omega
      have hk1 : ((n - q : Nat) : Int) = (k : Int) + 1 := by omega
      have hw1 : IntKind.i64.wrap ((k : Int) + 1) = (k : Int) + 1 := IntWalk.i64_in _ (by omega)
      have HK := Lib.hid hk
      have HK1 := Lib.hid hk1
      rw [hk]
      clear hk hk1
      obtain ⟨g1, c1, w2, hrun1, g2, c2, w4, hrun2, hL4, hb4⟩ := copy_one (k := k) (HL.out.below Hbw.out) (by omega)
      have L4 := Lib.hid hL4
      have q0 := (hb4.cell (p := ⟨w.heap.size, 0, none⟩) rz).trans r0
      have q1 := (hb4.cell (p := ⟨w.heap.size, 1, none⟩) rz).trans r1
      have q2 := (hb4.cell (p := ⟨w.heap.size, 2, none⟩) rz).trans r2
      have qz := Nat.lt_of_lt_of_le rz hb4.size
      have Hb4 := Lib.hid (bup Hbw.out hb4)
      have LL4 := Lib.hid (LL.out.below hb4)
      clear hL4 hb4
      go_wp2_with (at_builtin; first | (refine wpList_append_run rfl _ _ 25 rfl rfl rfl hrun1 ?_) | (refine wpList_append_run rfl _ _ 25 rfl rfl rfl hrun2 ?_))
      clear r0 r1 r2 rz hrun1 hrun2
      have hlen : (b ++ [k]).length = b.length + 1 := by simp
      have hcells : Ints w4 (some ⟨g2, 0, none⟩) (b.length + 1) (natG (b ++ [k])) := by rw [← hlen]; exact L4.out.cells
      have hlt : ∀ j, j ∈ b ++ [k] → j < n := fun j hj => by
        rcases List.mem_append.1 hj with h | h
        · exact Hbn.out j h
        · rw [List.mem_singleton] at h; omega
      have hrange : ∀ i, i < b.length + 1 → 0 ≤ natG (b ++ [k]) i ∧ natG (b ++ [k]) i < n := fun i hi => by
        have := hlt _ (natG_mem (b := b ++ [k]) (i := i) (by omega))
        unfold natG
        omega
      have hday : dayB f (natG (b ++ [k])) (b.length + 1) = dayF f b k := by rw [dayF, hlen]
      have HD := Lib.hid (fun (x : World) (h : Below w4.heap.size w4 x) => IsDay_c S M a n cap f (some ⟨g2, 0, none⟩) (b.length + 1) c2 (natG (b ++ [k])) x ((HF.out.below Hb4.out).below h) (Cells.below hcells h) (by omega) hrange)
      rw [hday] at HD
      have Hlt := Lib.hid hlt
      have hq1 : q < r := by omega
      have hrec : ∀ x, Below w4.heap.size w4 x → Calls Try.prog 60 #[bookV S M a n cap, .slice (some ⟨g2, 0, none⟩) (b.length + 1) c2, .int .i64 ((k : Int) + 1)] x fun e w' => ∃ p' c', e = .returned (.slice p' (refL (dayF f) n q (b ++ [k]) (b ++ [k])).length c') ∧ Lst w' (refL (dayF f) n q (b ++ [k]) (b ++ [k])) p' c' ∧ Below x.heap.size x w' := fun x h => by
        have h1 := IH.out q hq1 (b ++ [k]) (some ⟨g2, 0, none⟩) c2 x (by omega) (by omega) hlt ((HF.out.below Hb4.out).below h) (L4.out.below h)
        rw [hlen, HK1.out] at h1
        exact h1
      obtain ⟨X, hX⟩ : ∃ X, refL (dayF f) n q (b ++ [k]) (b ++ [k]) = X := ⟨_, rfl⟩
      rw [hX] at hrec
      have HREC := Lib.hid hrec
      have HX := Lib.hid hX
      have hE' := HE.out
      rw [refL, HK.out, hX] at hE'
      have HE' := Lib.hid hE'
      clear hcells hlt hrange hday hrec hX hE'
      cases hd : dayF f b k with
      | false =>
        have HDF := Lib.hid hd
        rw [hd] at HD
        clear hd
        refine (HD.out _ (Below.refl _ _)).mono ?_
        rintro e w5 ⟨rfl, hb5⟩
        have Hb5 := Lib.hid (bup Hb4.out hb5)
        have LL5 := Lib.hid (LL4.out.below hb5)
        clear hb5
        go_wp2_with fail
        go_roundw
        case rel => exact ⟨q, L, p', c', by omega, by rw [HK1.out], rfl, LL5.out, by have := HE'.out; rw [HDF.out] at this; exact this, Hb5.out⟩
        case measure => simp [intOf]; omega
      | true =>
        have HDF := Lib.hid hd
        rw [hd] at HD
        clear hd
        refine (HD.out _ (Below.refl _ _)).mono ?_
        rintro e w5 ⟨rfl, hb5⟩
        have r0 := (hb5.cell (p := ⟨w.heap.size, 0, none⟩) qz).trans q0
        have r1 := (hb5.cell (p := ⟨w.heap.size, 1, none⟩) qz).trans q1
        have r2 := (hb5.cell (p := ⟨w.heap.size, 2, none⟩) qz).trans q2
        have HREC5 := Lib.hid (HREC.out w5 hb5)
        have Hb5 := Lib.hid (bup Hb4.out hb5)
        have LL5 := Lib.hid (LL4.out.below hb5)
        clear hb5 q0 q1 q2 qz
        go_wp2_with fail
        refine (HREC5.out).mono ?_
        rintro e w6 ⟨px, cx, rfl, hLx, hb6⟩
        have LX := Lib.hid hLx
        have Hb6 := Lib.hid (bup Hb5.out hb6)
        have LL6 := Lib.hid (LL5.out.below hb6)
        clear hLx hb6 r0 r1 r2
        by_cases hlo : L.length < X.length
        · have hpk : pick L X = X := pick_lt hlo
          have t0 : decide ((L.length : Int) < (X.length : Int)) = true := by simp; omega
          have Hpk := Lib.hid hpk
          clear hpk
          go_wp2_with fail
          go_roundw
          case rel => exact ⟨q, X, px, cx, by omega, by rw [HK1.out], rfl, LX.out, by have := HE'.out; rw [HDF.out, if_pos rfl, Hpk.out] at this; exact this, Hb6.out⟩
          case measure => simp [intOf]; omega
        · have hpk : pick L X = L := pick_le (by omega)
          have t0 : decide ((L.length : Int) < (X.length : Int)) = false := by simp; omega
          have Hpk := Lib.hid hpk
          clear hpk
          go_wp2_with fail
          go_roundw
          case rel => exact ⟨q, L, p', c', by omega, by rw [HK1.out], rfl, LL6.out, by have := HE'.out; rw [HDF.out, if_pos rfl, Hpk.out] at this; exact this, Hb6.out⟩
          case measure => simp [intOf]; omega

end Go.Proofs.Ytbjgbgchagfokaa

namespace Go.Proofs.Ytbjgbgchagfokaa
open Go Go.RowKit Go.Shelf

theorem ListOf_all_c (S M : Int) (a : Option Addr) (n cap : Nat) (f : Nat → W2) (w : World) (hn : n ≤ 1000) (hf : Wants w a n f) :
    Calls Try.prog 60 #[bookV S M a n cap, .slice none 0 0, .int .i64 0] w fun e w' => ∃ p c, e = .returned (.slice p (bestOf f n).length c) ∧ Lst w' (bestOf f n) p c ∧ Below w.heap.size w w' := by
  have h := ListOf_c S M a n cap f hn n [] none 0 w (Nat.le_refl _) (by simp) (fun k hk => absurd hk List.not_mem_nil) hf lst_nil
  rw [Nat.sub_self, refL_is] at h
  exact h

theorem rList_no_c (S M : Int) (a : Option Addr) (n cap : Nat) (f : Nat → W2) (w : World) (hf : Wants w a n f) (hn : n ≤ 1048576) (hE : bookE S M n f ≠ 0) :
    Calls Try.prog 26 #[bookV S M a n cap] w fun e w' => e = .returned (.tuple #[.slice none 0 0, .int .i64 (bookE S M n f)]) ∧ Below w.heap.size w w' := by
  obtain ⟨W, hW⟩ : ∃ W, w.alloc (.cells #[.int .i64 S, .int .i64 M, .slice a n cap] 24) = W := ⟨_, rfl⟩
  have hB : Below w.heap.size w W := by rw [← hW]; exact Below.alloc1 (Below.refl _ _) _ (Nat.le_refl _)
  have hR : RowIs W w.heap.size #[.int .i64 S, .int .i64 M, .slice a n cap] 24 := by rw [← hW]; exact heap_new_at _ _ _ rfl
  have r0 : W.cell? ⟨w.heap.size, 0, none⟩ = some (.int .i64 S) := RowIs.cell hR 0
  have r1 : W.cell? ⟨w.heap.size, 1, none⟩ = some (.int .i64 M) := RowIs.cell hR 1
  have r2 : W.cell? ⟨w.heap.size, 2, none⟩ = some (.slice a n cap) := RowIs.cell hR 2
  have rz : w.heap.size < W.heap.size := hR.lt
  have HF := Lib.hid (hf.below hB)
  obtain ⟨E, hEe⟩ : ∃ E, bookE S M n f = E := ⟨_, rfl⟩
  rw [hEe] at hE ⊢
  have HC := Lib.hid (fun (x : World) (h : Wants x a n f) => rcheckBook_c S M a n cap f x h hn)
  rw [hEe] at HC
  have t0 : (E != 0) = true := by simpa using hE
  clear hR hf hE hEe
  go_enter Try.func26, Try.ntmps26
  go_wp2_with fail
  refine (HC.out _ HF.out).mono ?_
  rintro e w1 ⟨rfl, hb1⟩
  have q0 := (hb1.cell (p := ⟨w.heap.size, 0, none⟩) rz).trans r0
  have q1 := (hb1.cell (p := ⟨w.heap.size, 1, none⟩) rz).trans r1
  have q2 := (hb1.cell (p := ⟨w.heap.size, 2, none⟩) rz).trans r2
  replace HF := Lib.hid (HF.out.below hb1)
  go_wp2_with fail
  refine (HC.out _ HF.out).mono ?_
  rintro e w2 ⟨rfl, hb2⟩
  go_wp2_with fail
  refine bodyPost_ret (v := .tuple #[.slice none 0 0, .int .i64 E]) (by simp [results, Try.results26, go_sem]) rfl ⟨rfl, bup hB (bup hb1 hb2)⟩

theorem rList_yes_c (S M : Int) (a : Option Addr) (n cap : Nat) (f : Nat → W2) (w : World) (hf : Wants w a n f) (hE : bookE S M n f = 0) :
    Calls Try.prog 26 #[bookV S M a n cap] w fun e w' => ∃ p c, e = .returned (.tuple #[.slice p (bestOf f n).length c, .int .i64 0]) ∧ Lst w' (bestOf f n) p c ∧ Below w.heap.size w w' := by
  have hn14 : n ≤ 14 := (book_good hE).2.2.1
  obtain ⟨W, hW⟩ : ∃ W, w.alloc (.cells #[.int .i64 S, .int .i64 M, .slice a n cap] 24) = W := ⟨_, rfl⟩
  have hB : Below w.heap.size w W := by rw [← hW]; exact Below.alloc1 (Below.refl _ _) _ (Nat.le_refl _)
  have hR : RowIs W w.heap.size #[.int .i64 S, .int .i64 M, .slice a n cap] 24 := by rw [← hW]; exact heap_new_at _ _ _ rfl
  have r0 : W.cell? ⟨w.heap.size, 0, none⟩ = some (.int .i64 S) := RowIs.cell hR 0
  have r1 : W.cell? ⟨w.heap.size, 1, none⟩ = some (.int .i64 M) := RowIs.cell hR 1
  have r2 : W.cell? ⟨w.heap.size, 2, none⟩ = some (.slice a n cap) := RowIs.cell hR 2
  have rz : w.heap.size < W.heap.size := hR.lt
  have HF := Lib.hid (hf.below hB)
  have HC := Lib.hid (fun (x : World) (h : Wants x a n f) => rcheckBook_c S M a n cap f x h (by omega))
  rw [hE] at HC
  have HL := Lib.hid (fun (x : World) (h : Wants x a n f) => ListOf_all_c S M a n cap f x (by omega) h)
  obtain ⟨L, hL⟩ : ∃ L, bestOf f n = L := ⟨_, rfl⟩
  rw [hL] at HL ⊢
  clear hR hf hE hL
  go_enter Try.func26, Try.ntmps26
  go_wp2_with fail
  refine (HC.out _ HF.out).mono ?_
  rintro e w1 ⟨rfl, hb1⟩
  have q0 := (hb1.cell (p := ⟨w.heap.size, 0, none⟩) rz).trans r0
  have q1 := (hb1.cell (p := ⟨w.heap.size, 1, none⟩) rz).trans r1
  have q2 := (hb1.cell (p := ⟨w.heap.size, 2, none⟩) rz).trans r2
  replace HF := Lib.hid (HF.out.below hb1)
  go_wp2_with fail
  refine (HL.out _ HF.out).mono ?_
  rintro e w2 ⟨p, c, rfl, hLL, hb2⟩
  have LL := Lib.hid hLL
  clear hLL
  go_wp2_with fail
  refine bodyPost_ret (v := .tuple #[.slice p L.length c, .int .i64 0]) (by simp [results, Try.results26, go_sem]) rfl ⟨p, c, rfl, LL.out, bup hB (bup hb1 hb2)⟩

/-- The error of Short, as the document says. -/
def shortErr (s n : Nat) (f : Nat → W2) : Int := if (bestOf f n).length = wantingN s n f then 5 else 0

theorem ShortError_no_c (S M : Int) (a : Option Addr) (n cap : Nat) (f : Nat → W2) (w : World) (hf : Wants w a n f) (hn : n ≤ 1048576) (hE : bookE S M n f ≠ 0) :
    Calls Try.prog 35 #[bookV S M a n cap] w fun e w' => e = .returned (.int .i64 (bookE S M n f)) ∧ Below w.heap.size w w' := by
  obtain ⟨W, hW⟩ : ∃ W, w.alloc (.cells #[.int .i64 S, .int .i64 M, .slice a n cap] 24) = W := ⟨_, rfl⟩
  have hB : Below w.heap.size w W := by rw [← hW]; exact Below.alloc1 (Below.refl _ _) _ (Nat.le_refl _)
  have hR : RowIs W w.heap.size #[.int .i64 S, .int .i64 M, .slice a n cap] 24 := by rw [← hW]; exact heap_new_at _ _ _ rfl
  have r0 : W.cell? ⟨w.heap.size, 0, none⟩ = some (.int .i64 S) := RowIs.cell hR 0
  have r1 : W.cell? ⟨w.heap.size, 1, none⟩ = some (.int .i64 M) := RowIs.cell hR 1
  have r2 : W.cell? ⟨w.heap.size, 2, none⟩ = some (.slice a n cap) := RowIs.cell hR 2
  have rz : w.heap.size < W.heap.size := hR.lt
  have HF := Lib.hid (hf.below hB)
  obtain ⟨E, hEe⟩ : ∃ E, bookE S M n f = E := ⟨_, rfl⟩
  rw [hEe] at hE ⊢
  have HC := Lib.hid (fun (x : World) (h : Wants x a n f) => rcheckBook_c S M a n cap f x h hn)
  rw [hEe] at HC
  have t0 : (E != 0) = true := by simpa using hE
  clear hR hf hE hEe
  go_enter Try.func35, Try.ntmps35
  go_wp2_with fail
  refine (HC.out _ HF.out).mono ?_
  rintro e w1 ⟨rfl, hb1⟩
  have q0 := (hb1.cell (p := ⟨w.heap.size, 0, none⟩) rz).trans r0
  have q1 := (hb1.cell (p := ⟨w.heap.size, 1, none⟩) rz).trans r1
  have q2 := (hb1.cell (p := ⟨w.heap.size, 2, none⟩) rz).trans r2
  replace HF := Lib.hid (HF.out.below hb1)
  go_wp2_with fail
  refine (HC.out _ HF.out).mono ?_
  rintro e w2 ⟨rfl, hb2⟩
  go_wp2_with fail
  go_ret
  exact ⟨rfl, bup hB (bup hb1 hb2)⟩

set_option maxRecDepth 100000 in
set_option maxHeartbeats 4000000 in
theorem ShortError_yes_c (s m : Nat) (a : Option Addr) (n cap : Nat) (f : Nat → W2) (w : World) (hf : Wants w a n f) (hE : bookE s m n f = 0) :
    Calls Try.prog 35 #[bookV s m a n cap] w fun e w' => e = .returned (.int .i64 (shortErr s n f)) ∧ Below w.heap.size w w' := by
  have hn14 : n ≤ 14 := (book_good hE).2.2.1
  obtain ⟨W, hW⟩ : ∃ W, w.alloc (.cells #[.int .i64 s, .int .i64 m, .slice a n cap] 24) = W := ⟨_, rfl⟩
  have hB : Below w.heap.size w W := by rw [← hW]; exact Below.alloc1 (Below.refl _ _) _ (Nat.le_refl _)
  have hR : RowIs W w.heap.size #[.int .i64 s, .int .i64 m, .slice a n cap] 24 := by rw [← hW]; exact heap_new_at _ _ _ rfl
  have r0 : W.cell? ⟨w.heap.size, 0, none⟩ = some (.int .i64 s) := RowIs.cell hR 0
  have r1 : W.cell? ⟨w.heap.size, 1, none⟩ = some (.int .i64 m) := RowIs.cell hR 1
  have r2 : W.cell? ⟨w.heap.size, 2, none⟩ = some (.slice a n cap) := RowIs.cell hR 2
  have rz : w.heap.size < W.heap.size := hR.lt
  have HF := Lib.hid (hf.below hB)
  have HC := Lib.hid (fun (x : World) (h : Wants x a n f) => rcheckBook_c s m a n cap f x h (by omega))
  rw [hE] at HC
  have HL := Lib.hid (fun (x : World) (h : Wants x a n f) => ListOf_all_c s m a n cap f x (by omega) h)
  have HWt := Lib.hid (fun (x : World) (h : Wants x a n f) => Wanting_c s m a n cap f x h (book_good hE))
  have hse : shortErr s n f = if (bestOf f n).length = wantingN s n f then 5 else 0 := rfl
  obtain ⟨L, hL⟩ : ∃ L, bestOf f n = L := ⟨_, rfl⟩
  obtain ⟨wn, hwn⟩ : ∃ wn, wantingN s n f = wn := ⟨_, rfl⟩
  obtain ⟨E, hEe⟩ : ∃ E, shortErr s n f = E := ⟨_, rfl⟩
  rw [hEe]
  rw [hL, hwn, hEe] at hse
  rw [hL] at HL
  rw [hwn] at HWt
  have HSE := Lib.hid hse
  clear hR hf hE hL hwn hEe hse
  go_enter Try.func35, Try.ntmps35
  go_wp2_with fail
  refine (HC.out _ HF.out).mono ?_
  rintro e w1 ⟨rfl, hb1⟩
  have q0 := (hb1.cell (p := ⟨w.heap.size, 0, none⟩) rz).trans r0
  have q1 := (hb1.cell (p := ⟨w.heap.size, 1, none⟩) rz).trans r1
  have q2 := (hb1.cell (p := ⟨w.heap.size, 2, none⟩) rz).trans r2
  have qz := Nat.lt_of_lt_of_le rz hb1.size
  replace HF := Lib.hid (HF.out.below hb1)
  replace hB := bup hB hb1
  clear r0 r1 r2 rz hb1 HC
  have HL1 := Lib.hid (fun (x : World) (h : Below w1.heap.size w1 x) => HL.out x (HF.out.below h))
  have HW1 := Lib.hid (fun (x : World) (h : Below w1.heap.size w1 x) => HWt.out x (HF.out.below h))
  clear HL HWt
  go_wp2_with fail
  go_cut [13] from 8 to 12 (fun e wx => e = .bool (((L.length : Nat) : Int) == ((wn : Nat) : Int)) ∧ Below w1.heap.size w1 wx)
  case first =>
    go_region_held3 (fun w' => w'.cell? ⟨w.heap.size, 0, none⟩ = some (.int .i64 s) ∧ w'.cell? ⟨w.heap.size, 1, none⟩ = some (.int .i64 m) ∧ w'.cell? ⟨w.heap.size, 2, none⟩ = some (.slice a n cap))
      (first | (go_split_ands; refine ⟨?_, ?_, ?_⟩ <;> first | assumption | (go_keep; done)) | go_keep)
      ((first
        | (go_at_call 60; with_reducible refine Calls.mono (HL1.out _ ?_) ?_; (with_reducible repeat (first | exact Below.refl _ _ | assumption | refine bup ?_ (by assumption) | refine Below.drew ?_)); rintro e wg ⟨pg, cg, rfl, hLg, hbg⟩; have t0 : wg.cell? ⟨w.heap.size, 0, none⟩ = some (.int .i64 s) := (by (try go_split_ands); rw [hbg.cell (by first | assumption | (simp; omega))]; assumption); have t1 : wg.cell? ⟨w.heap.size, 1, none⟩ = some (.int .i64 m) := (by (try go_split_ands); rw [hbg.cell (by first | assumption | (simp; omega))]; assumption); have t2 : wg.cell? ⟨w.heap.size, 2, none⟩ = some (.slice a n cap) := (by (try go_split_ands); rw [hbg.cell (by first | assumption | (simp; omega))]; assumption); have tg : w.heap.size < wg.heap.size := Nat.lt_of_lt_of_le (by first | assumption | (simp; omega)) hbg.size)
        | (go_at_call 43; with_reducible refine Calls.mono (HW1.out _ ?_) ?_; (with_reducible repeat (first | exact Below.refl _ _ | assumption | refine bup ?_ (by assumption) | refine Below.drew ?_)); rintro e wh ⟨rfl, hbh⟩; have t0 : wh.cell? ⟨w.heap.size, 0, none⟩ = some (.int .i64 s) := (by (try go_split_ands); rw [hbh.cell (by first | assumption | (simp; omega))]; assumption); have t1 : wh.cell? ⟨w.heap.size, 1, none⟩ = some (.int .i64 m) := (by (try go_split_ands); rw [hbh.cell (by first | assumption | (simp; omega))]; assumption); have t2 : wh.cell? ⟨w.heap.size, 2, none⟩ = some (.slice a n cap) := (by (try go_split_ands); rw [hbh.cell (by first | assumption | (simp; omega))]; assumption); have th : w.heap.size < wh.heap.size := Nat.lt_of_lt_of_le (by first | assumption | (simp; omega)) hbh.size)
        | fail))
    all_goals (go_wp2_with fail; go_meet; refine ⟨rfl, ?_⟩; (with_reducible repeat (first | exact Below.refl _ _ | assumption | refine bup ?_ (by assumption) | refine Below.drew ?_)))
  case rest =>
  obtain ⟨rfl, hcb⟩ := hcut
  obtain ⟨w2, hww⟩ : ∃ x, x = wc := ⟨_, rfl⟩
  subst hww
  by_cases he : L.length = wn
  · have t0 : (((L.length : Nat) : Int) == ((wn : Nat) : Int)) = true := by simp [he]
    have hE5 : E = 5 := by rw [HSE.out, if_pos he]
    subst hE5
    clear he
    go_wp2_with fail
    go_ret
    exact ⟨rfl, bup hB hcb⟩
  · have t0 : (((L.length : Nat) : Int) == ((wn : Nat) : Int)) = false := by simp; omega
    have hE5 : E = 0 := by rw [HSE.out, if_neg he]
    subst hE5
    clear he
    go_wp2_with fail
    go_ret
    exact ⟨rfl, bup hB hcb⟩

end Go.Proofs.Ytbjgbgchagfokaa

namespace Go.Proofs.Ytbjgbgchagfokaa
open Go Go.RowKit Go.Shelf


theorem rcheckShort_no_c (S M : Int) (a : Option Addr) (n cap : Nat) (f : Nat → W2) (v : Value) (w : World) (hf : Wants w a n f) (hn : n ≤ 1048576) (hE : bookE S M n f ≠ 0) :
    Calls Try.prog 33 #[bookV S M a n cap, v] w fun e w' => e = .returned (.tuple #[.int .i64 0, .int .i64 (bookE S M n f)]) ∧ Below w.heap.size w w' := by
  obtain ⟨W, hW⟩ : ∃ W, w.alloc (.cells #[.int .i64 S, .int .i64 M, .slice a n cap] 24) = W := ⟨_, rfl⟩
  have hB : Below w.heap.size w W := by rw [← hW]; exact Below.alloc1 (Below.refl _ _) _ (Nat.le_refl _)
  have hR : RowIs W w.heap.size #[.int .i64 S, .int .i64 M, .slice a n cap] 24 := by rw [← hW]; exact heap_new_at _ _ _ rfl
  have r0 : W.cell? ⟨w.heap.size, 0, none⟩ = some (.int .i64 S) := RowIs.cell hR 0
  have r1 : W.cell? ⟨w.heap.size, 1, none⟩ = some (.int .i64 M) := RowIs.cell hR 1
  have r2 : W.cell? ⟨w.heap.size, 2, none⟩ = some (.slice a n cap) := RowIs.cell hR 2
  have rz : w.heap.size < W.heap.size := hR.lt
  have HF := Lib.hid (hf.below hB)
  obtain ⟨E, hEe⟩ : ∃ E, bookE S M n f = E := ⟨_, rfl⟩
  rw [hEe] at hE ⊢
  have HC := Lib.hid (fun (x : World) (h : Wants x a n f) => rcheckBook_c S M a n cap f x h hn)
  rw [hEe] at HC
  have t0 : (E != 0) = true := by simpa using hE
  clear hR hf hE hEe
  go_enter Try.func33, Try.ntmps33
  go_wp2_with fail
  refine (HC.out _ HF.out).mono ?_
  rintro e w1 ⟨rfl, hb1⟩
  have q0 := (hb1.cell (p := ⟨w.heap.size, 0, none⟩) rz).trans r0
  have q1 := (hb1.cell (p := ⟨w.heap.size, 1, none⟩) rz).trans r1
  have q2 := (hb1.cell (p := ⟨w.heap.size, 2, none⟩) rz).trans r2
  replace HF := Lib.hid (HF.out.below hb1)
  go_wp2_with fail
  refine (HC.out _ HF.out).mono ?_
  rintro e w2 ⟨rfl, hb2⟩
  go_wp2_with fail
  refine bodyPost_ret (v := .tuple #[.int .i64 0, .int .i64 E]) (by simp [results, Try.results33, go_sem]) rfl ⟨rfl, bup hB (bup hb1 hb2)⟩

theorem book_nat {S M : Int} {n : Nat} {f : Nat → W2} (hE : bookE S M n f = 0) : ∃ s m : Nat, S = s ∧ M = m := by
  have hG := book_good hE
  exact ⟨S.toNat, M.toNat, by have := hG.1; omega, by have := hG.2.1; omega⟩
theorem shorts_named (S M : Int) (a : Option Addr) (n cap : Nat) (f : Nat → W2) (la : Option Addr) (len lcap : Nat) (g : Nat → Int) (hn : n ≤ 20) (hl : len ≤ 24) (hc2 : len ≤ lcap) (hc3 : lcap ≤ 9223372036854775807) :
    ∃ N E : Int, (∀ x, Wants x a n f → Ints x la len g → Calls Try.prog 32 #[bookV S M a n cap, .slice la len lcap] x fun e w' => e = .returned (.tuple #[.int .i64 N, .int .i64 E]) ∧ Below x.heap.size x w') ∧
      ∀ x, Wants x a n f → Ints x la len g → Calls Try.prog 33 #[bookV S M a n cap, .slice la len lcap] x fun e w' => e = .returned (.tuple #[.int .i64 N, .int .i64 E]) ∧ Below x.heap.size x w' := by
  by_cases hE : bookE S M n f = 0
  · obtain ⟨s, m, rfl, rfl⟩ := book_nat hE
    exact ⟨_, _, fun x h h2 => CheckShort_yes_c s m a n cap f la len lcap g x h (by omega) h2 (by omega) hc2 hc3 hE, fun x h h2 => rcheckShort_yes_c s m a n cap f la len lcap g x h h2 (by omega) hE⟩
  · exact ⟨_, _, fun x h _ => CheckShort_no_c S M a n cap f _ x h (by omega) hE, fun x h _ => rcheckShort_no_c S M a n cap f _ x h (by omega) hE⟩
theorem short_named (S M : Int) (a : Option Addr) (n cap : Nat) (f : Nat → W2) (hn : n ≤ 20) :
    ∃ (E : Int) (X : List Nat), X.length ≤ 6 ∧ (E ≠ 0 → X = []) ∧ (∀ x, Wants x a n f → Calls Try.prog 34 #[bookV S M a n cap] x fun e w' => ∃ p c, e = .returned (.tuple #[.slice p X.length c, .int .i64 E]) ∧ Lst w' X p c ∧ Below x.heap.size x w') ∧
      (∀ x, Wants x a n f → Calls Try.prog 35 #[bookV S M a n cap] x fun e w' => e = .returned (.int .i64 E) ∧ Below x.heap.size x w') ∧
      (E = 0 → ∃ N : Int, ∀ x p c, Wants x a n f → Lst x X p c → Calls Try.prog 33 #[bookV S M a n cap, .slice p X.length c] x fun e w' => e = .returned (.tuple #[.int .i64 N, .int .i64 0]) ∧ Below x.heap.size x w') := by
  by_cases hE : bookE S M n f = 0
  · obtain ⟨s, m, rfl, rfl⟩ := book_nat hE
    have hG := book_good hE
    obtain ⟨k1, k2, k3, k4⟩ := short_best hG
    have hs6 : s ≤ 6 := by have := hG.1; omega
    have hse : ∀ x, Wants x a n f → Calls Try.prog 35 #[bookV s m a n cap] x fun e w' => e = .returned (.int .i64 (shortErr s n f)) ∧ Below x.heap.size x w' := fun x h => ShortError_yes_c s m a n cap f x h hE
    have hsh := fun (x : World) (h : Wants x a n f) => Short_yes_c s m a n cap f x h (by omega) hE
    obtain ⟨X, hX⟩ : ∃ X, shortOf f n s (bookL f n) = X := ⟨_, rfl⟩
    rw [hX] at k1 k2 k3 k4
    simp only [hX] at hsh
    by_cases h0 : fewL f n X = 0
    · have he : shortErr s n f = 5 := if_pos (by omega)
      rw [he] at hse
      refine ⟨5, [], by simp, fun _ => rfl, fun x h => ?_, hse, fun h => by omega⟩
      refine (hsh x h).mono ?_
      rintro e w' ⟨hB, ⟨-, rfl⟩ | ⟨hne, -⟩⟩
      · exact ⟨none, 0, rfl, lst_nil, hB⟩
      · exact absurd h0 hne
    · have he : shortErr s n f = 0 := if_neg (by omega)
      rw [he] at hse
      refine ⟨0, X, by omega, fun h => absurd rfl h, fun x h => ?_, hse, fun _ => ⟨shortN s n f X.length (natG X), fun x p c h hl => ?_⟩⟩
      · refine (hsh x h).mono ?_
        rintro e w' ⟨hB, ⟨he, -⟩ | ⟨-, p, c, rfl, hL⟩⟩
        · exact absurd he h0
        · exact ⟨p, c, rfl, hL, hB⟩
      · have h3 := rcheckShort_yes_c s m a n cap f p X.length c (natG X) x h hl.cells (by omega) hE
        rw [k3 h0] at h3
        exact h3
  · refine ⟨bookE S M n f, [], by simp, fun _ => rfl, fun x h => ?_, fun x h => ShortError_no_c S M a n cap f x h (by omega) hE, fun h => absurd h hE⟩
    refine (Short_no_c S M a n cap f x h (by omega) hE).mono ?_
    rintro e w' ⟨rfl, hB⟩
    exact ⟨none, 0, rfl, lst_nil, hB⟩

set_option maxRecDepth 100000 in
set_option maxHeartbeats 16000000 in
theorem law_shorts_c (S M : Int) (a : Option Addr) (n cap : Nat) (f : Nat → W2) (la : Option Addr) (len lcap : Nat) (g : Nat → Int) (w : World) (hf : Wants w a n f) (hg : Ints w la len g) (hc2 : len ≤ lcap) (hc3 : lcap ≤ 9223372036854775807) :
    Calls Try.prog 5 #[bookV S M a n cap, .slice la len lcap] w fun e w' => e = .returned (.bool true) ∧ Below w.heap.size w w' := by
  obtain ⟨W, hW⟩ : ∃ W, w.alloc (.cells #[.int .i64 S, .int .i64 M, .slice a n cap] 24) = W := ⟨_, rfl⟩
  have hB : Below w.heap.size w W := by rw [← hW]; exact Below.alloc1 (Below.refl _ _) _ (Nat.le_refl _)
  have hR : RowIs W w.heap.size #[.int .i64 S, .int .i64 M, .slice a n cap] 24 := by rw [← hW]; exact heap_new_at _ _ _ rfl
  have r0 : W.cell? ⟨w.heap.size, 0, none⟩ = some (.int .i64 S) := RowIs.cell hR 0
  have r1 : W.cell? ⟨w.heap.size, 1, none⟩ = some (.int .i64 M) := RowIs.cell hR 1
  have r2 : W.cell? ⟨w.heap.size, 2, none⟩ = some (.slice a n cap) := RowIs.cell hR 2
  have rz : w.heap.size < W.heap.size := hR.lt
  have HF := Lib.hid (hf.below hB)
  have HG := Lib.hid (Cells.below hg hB)
  have HR := Lib.hid hR
  clear hR hf hg
  by_cases h20 : 20 < n
  · skip
    have HC := Lib.hid (fun (x : World) => great_c S M a n cap x)
    rw [decide_eq_true h20] at HC
    go_enter Try.func5, Try.ntmps5
    go_wp2_with fail
    refine (HC.out _).mono ?_
    rintro e w1 ⟨rfl, hb1⟩
    replace HR := Lib.hid (RowIs.below HR.out hb1)
    replace HF := Lib.hid (HF.out.below hb1)
    replace HG := Lib.hid (Cells.below HG.out hb1)
    replace hB := bup hB hb1
    clear r0 r1 r2 rz hb1
    have r0 : w1.cell? ⟨w.heap.size, 0, none⟩ = some (.int .i64 S) := RowIs.cell HR.out 0
    have r1 : w1.cell? ⟨w.heap.size, 1, none⟩ = some (.int .i64 M) := RowIs.cell HR.out 1
    have r2 : w1.cell? ⟨w.heap.size, 2, none⟩ = some (.slice a n cap) := RowIs.cell HR.out 2
    have rz : w.heap.size < w1.heap.size := HR.out.lt
    go_wp2_with fail
    refine (works_c _).mono ?_
    rintro e wz ⟨rfl, hbz⟩
    go_wp2_with fail
    go_ret
    exact ⟨rfl, bup hB hbz⟩
  have HC := Lib.hid (fun (x : World) => great_c S M a n cap x)
  rw [decide_eq_false h20] at HC
  by_cases h24 : 24 < len
  · skip
    have HL := Lib.hid (fun (x : World) => long_c la len lcap x)
    rw [decide_eq_true h24] at HL
    go_enter Try.func5, Try.ntmps5
    go_wp2_with fail
    refine (HC.out _).mono ?_
    rintro e w1 ⟨rfl, hb1⟩
    replace HR := Lib.hid (RowIs.below HR.out hb1)
    replace HF := Lib.hid (HF.out.below hb1)
    replace HG := Lib.hid (Cells.below HG.out hb1)
    replace hB := bup hB hb1
    clear r0 r1 r2 rz hb1
    have r0 : w1.cell? ⟨w.heap.size, 0, none⟩ = some (.int .i64 S) := RowIs.cell HR.out 0
    have r1 : w1.cell? ⟨w.heap.size, 1, none⟩ = some (.int .i64 M) := RowIs.cell HR.out 1
    have r2 : w1.cell? ⟨w.heap.size, 2, none⟩ = some (.slice a n cap) := RowIs.cell HR.out 2
    have rz : w.heap.size < w1.heap.size := HR.out.lt
    go_wp2_with fail
    refine (HL.out _).mono ?_
    rintro e _ ⟨rfl, rfl⟩
    go_wp2_with fail
    refine (works_c _).mono ?_
    rintro e wz ⟨rfl, hbz⟩
    go_wp2_with fail
    go_ret
    exact ⟨rfl, bup hB hbz⟩
  have HL := Lib.hid (fun (x : World) => long_c la len lcap x)
  rw [decide_eq_false h24] at HL
  obtain ⟨N, E, hc, hd⟩ := shorts_named S M a n cap f la len lcap g (by omega) (by omega) hc2 hc3
  obtain ⟨E3, X, hX, hX0, he, hf3, hg3⟩ := short_named S M a n cap f (by omega)
  have HC1 := Lib.hid hc
  have HC2 := Lib.hid hd
  have HC3 := Lib.hid he
  have HC4 := Lib.hid hf3
  have HC5 := Lib.hid hg3
  have HX0 := Lib.hid hX0
  have t1 : (N != N) = false := by simp
  have t2 : (E != E) = false := by simp
  have t3 : (E3 != E3) = false := by simp
  clear hc hd he hf3 hg3 hX0
  go_enter Try.func5, Try.ntmps5
  go_wp2_with fail
  refine (HC.out _).mono ?_
  rintro e w1 ⟨rfl, hb1⟩
  replace HR := Lib.hid (RowIs.below HR.out hb1)
  replace HF := Lib.hid (HF.out.below hb1)
  replace HG := Lib.hid (Cells.below HG.out hb1)
  replace hB := bup hB hb1
  clear r0 r1 r2 rz hb1
  have r0 : w1.cell? ⟨w.heap.size, 0, none⟩ = some (.int .i64 S) := RowIs.cell HR.out 0
  have r1 : w1.cell? ⟨w.heap.size, 1, none⟩ = some (.int .i64 M) := RowIs.cell HR.out 1
  have r2 : w1.cell? ⟨w.heap.size, 2, none⟩ = some (.slice a n cap) := RowIs.cell HR.out 2
  have rz : w.heap.size < w1.heap.size := HR.out.lt
  go_wp2_with fail
  refine (HL.out _).mono ?_
  rintro e _ ⟨rfl, rfl⟩
  go_wp2_with fail
  refine (HC1.out _ HF.out HG.out).mono ?_
  rintro e w2 ⟨rfl, hb2⟩
  replace HR := Lib.hid (RowIs.below HR.out hb2)
  replace HF := Lib.hid (HF.out.below hb2)
  replace HG := Lib.hid (Cells.below HG.out hb2)
  replace hB := bup hB hb2
  clear r0 r1 r2 rz hb2
  have r0 : w2.cell? ⟨w.heap.size, 0, none⟩ = some (.int .i64 S) := RowIs.cell HR.out 0
  have r1 : w2.cell? ⟨w.heap.size, 1, none⟩ = some (.int .i64 M) := RowIs.cell HR.out 1
  have r2 : w2.cell? ⟨w.heap.size, 2, none⟩ = some (.slice a n cap) := RowIs.cell HR.out 2
  have rz : w.heap.size < w2.heap.size := HR.out.lt
  go_wp2_with fail
  refine (HC2.out _ HF.out HG.out).mono ?_
  rintro e w3 ⟨rfl, hb3⟩
  replace HR := Lib.hid (RowIs.below HR.out hb3)
  replace HF := Lib.hid (HF.out.below hb3)
  replace HG := Lib.hid (Cells.below HG.out hb3)
  replace hB := bup hB hb3
  clear r0 r1 r2 rz hb3
  have r0 : w3.cell? ⟨w.heap.size, 0, none⟩ = some (.int .i64 S) := RowIs.cell HR.out 0
  have r1 : w3.cell? ⟨w.heap.size, 1, none⟩ = some (.int .i64 M) := RowIs.cell HR.out 1
  have r2 : w3.cell? ⟨w.heap.size, 2, none⟩ = some (.slice a n cap) := RowIs.cell HR.out 2
  have rz : w.heap.size < w3.heap.size := HR.out.lt
  go_wp2_with fail
  refine (HC3.out _ HF.out).mono ?_
  rintro e w4 ⟨p4, c4, rfl, hL4, hb4⟩
  have L4 := Lib.hid hL4
  clear hL4
  replace HR := Lib.hid (RowIs.below HR.out hb4)
  replace HF := Lib.hid (HF.out.below hb4)
  replace HG := Lib.hid (Cells.below HG.out hb4)
  replace hB := bup hB hb4
  clear r0 r1 r2 rz hb4
  have r0 : w4.cell? ⟨w.heap.size, 0, none⟩ = some (.int .i64 S) := RowIs.cell HR.out 0
  have r1 : w4.cell? ⟨w.heap.size, 1, none⟩ = some (.int .i64 M) := RowIs.cell HR.out 1
  have r2 : w4.cell? ⟨w.heap.size, 2, none⟩ = some (.slice a n cap) := RowIs.cell HR.out 2
  have rz : w.heap.size < w4.heap.size := HR.out.lt
  go_wp2_with fail
  refine (HC4.out _ HF.out).mono ?_
  rintro e w5 ⟨rfl, hb5⟩
  replace HR := Lib.hid (RowIs.below HR.out hb5)
  replace HF := Lib.hid (HF.out.below hb5)
  replace HG := Lib.hid (Cells.below HG.out hb5)
  replace L4 := Lib.hid (L4.out.below hb5)
  replace hB := bup hB hb5
  clear r0 r1 r2 rz hb5
  have r0 : w5.cell? ⟨w.heap.size, 0, none⟩ = some (.int .i64 S) := RowIs.cell HR.out 0
  have r1 : w5.cell? ⟨w.heap.size, 1, none⟩ = some (.int .i64 M) := RowIs.cell HR.out 1
  have r2 : w5.cell? ⟨w.heap.size, 2, none⟩ = some (.slice a n cap) := RowIs.cell HR.out 2
  have rz : w.heap.size < w5.heap.size := HR.out.lt
  have HLX := Lib.hid (fun (x : World) => long_c p4 X.length c4 x)
  rw [decide_eq_false (show ¬ 24 < X.length by omega)] at HLX
  go_wp2_with fail
  refine (HLX.out _).mono ?_
  rintro e _ ⟨rfl, rfl⟩
  by_cases hE3 : E3 = 0
  · obtain ⟨N2, hN⟩ := HC5.out hE3
    subst hE3
    have HN := Lib.hid hN
    clear hN
    go_wp2_with fail
    refine (HN.out _ _ _ HF.out L4.out).mono ?_
    rintro e w6 ⟨rfl, hb6⟩
    replace HR := Lib.hid (RowIs.below HR.out hb6)
    replace HF := Lib.hid (HF.out.below hb6)
    replace HG := Lib.hid (Cells.below HG.out hb6)
    replace L4 := Lib.hid (L4.out.below hb6)
    replace hB := bup hB hb6
    clear r0 r1 r2 rz hb6
    have r0 : w6.cell? ⟨w.heap.size, 0, none⟩ = some (.int .i64 S) := RowIs.cell HR.out 0
    have r1 : w6.cell? ⟨w.heap.size, 1, none⟩ = some (.int .i64 M) := RowIs.cell HR.out 1
    have r2 : w6.cell? ⟨w.heap.size, 2, none⟩ = some (.slice a n cap) := RowIs.cell HR.out 2
    have rz : w.heap.size < w6.heap.size := HR.out.lt
    go_wp2_with fail
    refine (works_c _).mono ?_
    rintro e wz ⟨rfl, hbz⟩
    go_wp2_with fail
    go_ret
    exact ⟨rfl, bup hB hbz⟩
  · have hx := HX0.out hE3
    subst hx
    have t4 : (E3 != 0) = true := by simpa using hE3
    go_wp2_with fail
    refine (works_c _).mono ?_
    rintro e wz ⟨rfl, hbz⟩
    go_wp2_with fail
    go_ret
    exact ⟨rfl, bup hB hbz⟩

end Go.Proofs.Ytbjgbgchagfokaa

namespace Go.Proofs.Ytbjgbgchagfokaa
open Go Go.RowKit Go.ChangeShapes Go.WideShapes Go.ChangeAt

theorem own_shorts : ownKnob Try.prog.godebug = .none := by kernel_rfl
theorem laidOut_shorts : laidOutB Try.prog = true := by kernel_rfl

set_option maxRecDepth 100000 in
theorem shorts_lifted (os : Os) (started : os.Started) (H : Type) (enc : TypeId × Value → H) :
    ReturnsInHanded {} Try.checked os 5 .any (Rows.mouldShortsSpec.pre6 enc Try.prog Try.f5 Rows.mouldShortsRow.domain false) (Rows.mouldShortsSpec.post enc Try.prog Try.f5 false true false false) := by
  refine returnsInHanded_of_change (C := Try.checked) own_shorts started (by kernel_rfl) Try.func5
    (ChangeSpec.witness6 (enc := enc) (C := Try.checked) false ⟨#[], #[.agg #[.int .i64 0, .int .i64 0, .slice .none 0 0], .slice .none 0 0], []⟩ 8 (by kernel_rfl) (by kernel_rfl) (by kernel_rfl) (by kernel_rfl)) ?_
  intro W base args ds gs before hval0 hW hcnd _
  have hval : ∀ (j : Nat) t v, Try.f5.params[j]? = some t → args[j]? = some v → Value.okWide Try.prog W .any base t v := hval0
  have hW' := hW
  obtain ⟨p, q, hA0, hV, rfl, hfz, hnd⟩ := hW
  have hA : DataW.TrodAll enc Try.prog W 0 (fun _ => true) true Try.f5.params.toList args.toList ds p := hA0
  rw [Try.params5] at hA hval
  obtain ⟨v0, vs0, d0, ds0, p0, q0, hargs, rfl, rfl, h0, r0⟩ := trodAll_cons hA
  obtain ⟨v1, vs1, d1, ds1, p1, q1, rfl, rfl, rfl, h1, r1⟩ := trodAll_cons r0
  obtain ⟨rfl, rfl, rfl⟩ := trodAll_nil r1
  obtain rfl : args = #[v0, v1] := by cases args; simp_all
  obtain ⟨rfl, rfl⟩ := trodVars_none hV
  obtain ⟨S0, M0, a0, n0, cap0, f0, rfl, hF0⟩ := open_book (hval 0 24 v0 rfl rfl) h0
  obtain ⟨a1, n1, cap1, f1, rfl, hF1, hc1, hm1⟩ := open_days (hval 1 25 v1 rfl rfl) h1
  refine (law_shorts_c S0 M0 a0 n0 cap0 f0 a1 n1 cap1 f1 W hF0 hF1 hc1 hm1).mono fun e W' ⟨he, hb⟩ => ?_
  subst he
  have hlt := hW'.lt
  simp only [List.append_nil, List.mem_append] at hlt
  refine ⟨_, rfl, _, _, _, [], p0 ++ (p1 ++ []), [], hW', trodAll_mk1 (shut_bool Try.underlying4 true), ?_, rfl, hb.frame _, fun h => Bool.noConfusion h⟩
  exact trodAll_cons_mk (Below.trod laidOut_shorts (by kernel_rfl) (of_decide_eq_true (by kernel_rfl)) h0 hb fun x hx => hlt x (by simp [hx])) (trodAll_cons_mk (Below.trod laidOut_shorts (by kernel_rfl) (of_decide_eq_true (by kernel_rfl)) h1 hb fun x hx => hlt x (by simp [hx])) trodAll_mk0)

theorem shorts_holds : Rows.MouldShortsSaid :=
  OpenClaim.holds_of_wide 5 Try.f5 rfl rfl rfl rfl rfl rfl rfl ⟨rfl, rfl, rfl, rfl, rfl⟩ rfl rfl rfl rfl rfl (by kernel_rfl) Try.func5 (by kernel_rfl)
    (of_decide_eq_true (by kernel_rfl)) (by unfold Func.isWrapper; first | (rw [if_pos (by decide +kernel)]; kernel_rfl) | (rw [if_neg (by decide +kernel)]; exact ⟨rfl, rfl⟩))
    (fun os started H enc _ => shorts_lifted os started H enc)
end Go.Proofs.Ytbjgbgchagfokaa
