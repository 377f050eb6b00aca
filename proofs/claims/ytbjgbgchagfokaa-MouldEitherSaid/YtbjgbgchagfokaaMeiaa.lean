/- For whatever arguments, the law MouldEither returns true, and each argument reads behind the call as it read before. No condition. -/
import Derived.Test.YtbjgbgchagfokaaProg
import Derived.Test.YtbjgbgchagfokaaBasaa
import Derived.Test.YtbjgbgchagfokaaBasbd
import Derived.Test.YtbjgbgchagfokaaBasay
import Derived.Test.YtbjgbgchagfokaaBasap
import Derived.Test.YtbjgbgchagfokaaBasba
import Derived.Shelf.Abstract
import Derived.Shelf.RegionOpen
import Derived.Deep.RegionHeld3
import Derived.Deep.CutRange
import Derived.Deep.DeepCutAuto
import Derived.Test.YtbjgbgchagfokaaBasbb
import Derived.Test.YtbjgbgchagfokaaBasaz
import Derived.Test.YtbjgbgchagfokaaBasbc
import Derived.Test.YtbjgbgchagfokaaRows
import Derived.ProofKit
namespace Go.Proofs.Ytbjgbgchagfokaa
open Go Go.RowKit Go.ChangeShapes Go.WideShapes Go.Deep Go.Joins

theorem cellsU8 : Try.prog.cellsOf 5 = 1 := by kernel_rfl
theorem wfu16 {n : Int} (h : (Lit.int .u16 n).wf = true) : 0 ≤ n ∧ n ≤ 65535 := by
  simp [Lit.wf] at h
  have h1 : IntKind.u16.min = 0 := by decide
  have h2 : IntKind.u16.max = 65535 := by decide
  omega
theorem wfu8 {n : Int} (h : (Lit.int .u8 n).wf = true) : 0 ≤ n ∧ n ≤ 255 := by
  simp [Lit.wf] at h
  have h1 : IntKind.u8.min = 0 := by decide
  have h2 : IntKind.u8.max = 255 := by decide
  omega

section
variable {H : Type} {enc : TypeId × Value → H} {W : World} {sp : Nat → Bool}

set_option maxRecDepth 100000 in
theorem open_bytes {base : Nat} {v : Value} {d : DataW H} {p : List MemPlace} (hok : Value.okWide Try.prog W .any base 42 v) (h : DataW.Trod enc Try.prog W 0 sp true 42 v d p) :
    ∃ (a : Option Addr) (n cap : Nat) (f : Nat → Int), v = .slice a n cap ∧ (Cells W a n fun i => .int .u8 (f i)) ∧ ∀ i, i < n → 0 ≤ f i ∧ f i ≤ 255 := by
  obtain ⟨a, n, cap, rfl⟩ := okWide_slice Try.underlying42 hok
  obtain ⟨fuel, hf⟩ := h
  rcases open_ints Try.underlying42 Try.underlying5 cellsU8 hf with ⟨hcs, _⟩ | ⟨a', len, cap', zs, hcs, _, hl, _, hk, _, hi, hw⟩
  · simp [Value.cells] at hcs
    obtain ⟨rfl, rfl, rfl⟩ := hcs
    exact ⟨none, 0, 0, fun _ => 0, rfl, .inl rfl, fun i hi => absurd hi (Nat.not_lt_zero i)⟩
  · simp [Value.cells] at hcs
    obtain ⟨rfl, rfl, rfl⟩ := hcs
    have hlk : n ≤ zs.length := by rw [hk]; split <;> omega
    have hb : ∀ i, i < n → 0 ≤ zs.getD i 0 ∧ zs.getD i 0 ≤ 255 := fun i hin => by
      have hz : i < zs.length := by omega
      have e : zs.getD i 0 = zs[i] := by simp [List.getD, hz]
      rw [e]
      exact wfu8 (hw _ (List.getElem_mem hz))
    refine ⟨some a', n, cap, fun i => zs.getD i 0, rfl, ?_, hb⟩
    by_cases h0 : n = 0
    · exact .inl h0
    obtain ⟨b, off, rfl, hc⟩ := ints_at hi (by omega)
    exact .inr ⟨b, off, rfl, World.block_lt_of_cell? W _ (hc 0 (by omega)), fun i hin => hc i (by omega)⟩
end

end Go.Proofs.Ytbjgbgchagfokaa

namespace Go.Proofs.Ytbjgbgchagfokaa
open Go Go.RowKit

theorem ldF_pos (f : Nat → W2) (p : Nat → Bool) (x : Nat) : ∀ n, 0 < ldF f p x n ↔ ∃ i, i < n ∧ p i = true ∧ ((f i).s = x ∨ 6 + (f i).m = x)
  | 0 => by simp [ldF]
  | n + 1 => by
    have ih := ldF_pos f p x n
    have h0 := (ldF_bd f p x n).1
    rw [ldF]
    by_cases h : p n = true ∧ ((f n).s = x ∨ 6 + (f n).m = x)
    · rw [if_pos h]
      exact ⟨fun _ => ⟨n, by omega, h⟩, fun _ => by omega⟩
    · rw [if_neg h, Int.add_zero, ih]
      exact ⟨fun ⟨i, hi, hp⟩ => ⟨i, by omega, hp⟩, fun ⟨i, hi, hp⟩ => ⟨i, by
        by_cases e : i = n
        · rw [e] at hp; exact absurd hp h
        · omega, hp⟩⟩

/-- Some of the first numbers, in their order, are a list. -/
theorem listB_filt (p : Nat → Bool) (k : Nat) {T : Int} (hT : ∀ y, y ∈ (List.range k).filter p → (y : Int) < T) : listB (natG ((List.range k).filter p)) T ((List.range k).filter p).length = true := by
  have hs : List.Pairwise (· < ·) ((List.range k).filter p) := List.Pairwise.filter _ List.pairwise_lt_range
  rw [List.pairwise_iff_getElem] at hs
  rw [listB_iff]
  intro i hi
  have e : ∀ j (hj : j < ((List.range k).filter p).length), natG ((List.range k).filter p) j = ((((List.range k).filter p)[j] : Nat) : Int) := fun j hj => by
    unfold natG
    rw [List.getD_eq_getElem?_getD, List.getElem?_eq_getElem hj, Option.getD_some]
  refine ⟨⟨by unfold natG; omega, by rw [e i hi]; exact hT _ (List.getElem_mem hi)⟩, fun h0 => ?_⟩
  rw [e i hi, e (i - 1) (by omega)]
  have := hs (i - 1) i (by omega) hi (by omega)
  omega
theorem natG_has (x : List Nat) (v : Nat) : (∃ i, i < x.length ∧ natG x i = (v : Int)) ↔ v ∈ x :=
  ⟨fun ⟨i, hi, e⟩ => by
    have := natG_mem hi
    unfold natG at e
    rwa [show x.getD i 0 = v by omega] at this, fun h => by
    obtain ⟨i, hi, e⟩ := mem_natG h
    exact ⟨i, hi, by unfold natG; rw [e]⟩⟩
theorem cnt_list {x : List Nat} {T : Nat} (h : listB (natG x) T x.length = true) : cnt (fun v => v ∈ x) T = x.length := by
  rw [← listB_cnt h]
  exact (cnt_congr fun v _ => natG_has x v).symm

section
variable {s M n : Nat} {f : Nat → W2} (hG : GoodBook s M n f)
include hG

theorem shop_wants {x : Nat} (hx : x < 6) : 0 < bookL f n x ↔ WantS f n x := by
  rw [show bookL f n x = ldF f (fun _ => true) x n from rfl, ldF_pos]
  exact ⟨fun ⟨i, hi, _, h⟩ => ⟨i, hi, by have := (hG.2.2.2 i hi).2; omega⟩, fun ⟨i, hi, e⟩ => ⟨i, hi, rfl, .inl e⟩⟩
theorem mould_wants (x : List Nat) (y : Nat) : 0 < shopL f (natG x) x.length n (6 + y) ↔ WantM f n (InL x) y := by
  rw [show shopL f (natG x) x.length n (6 + y) = ldF f (fun i => hasB (natG x) (f i).s x.length) (6 + y) n from rfl, ldF_pos]
  constructor
  · intro ⟨i, hi, hp, h⟩
    obtain ⟨j, hj, e⟩ := (hasB_iff _ _ _).1 hp
    have b := hG.2.2.2 i hi
    have b2 := hG.1
    refine ⟨i, hi, ⟨x.getD j 0, natG_mem hj, ?_⟩, by omega⟩
    rw [← e]
    rfl
  · intro ⟨i, hi, ⟨v, hv, e⟩, h⟩
    obtain ⟨j, hj, e2⟩ := (natG_has x v).2 hv
    exact ⟨i, hi, (hasB_iff _ _ _).2 ⟨j, hj, by rw [e2, e]⟩, .inr (by omega)⟩
theorem few_key : (fun x => fewL f n x) = tooFewK f n 6 := by
  funext x
  show (x.length : Int) - ((wbL (shopL f (natG x) x.length n) 6).length : Int) = _
  unfold tooFewK
  have h : listB (natG (wbL (shopL f (natG x) x.length n) 6)) (6 : Nat) (wbL (shopL f (natG x) x.length n) 6).length = true := listB_filt _ 6 fun y hy => by
    have := List.mem_range.1 (List.mem_filter.1 hy).1
    omega
  rw [← cnt_list h, cnt_congr (q := WantM f n (InL x))]
  intro y hy
  rw [wbL, List.mem_filter, List.mem_range, decide_eq_true_eq, mould_wants hG]
  exact ⟨fun h => h.2, fun h => ⟨hy, h⟩⟩

/-- The cover that is returned. -/
theorem cover_ok (hE : bookE s M n f = 0) : coverE s M n f (covS f n s (bookL f n)).length (natG (covS f n s (bookL f n))) (covM f n s (bookL f n)).length (natG (covM f n s (bookL f n))) = 0 ∧
    (covS f n s (bookL f n)).length + (covM f n s (bookL f n)).length = (bestOf f n).length ∧ (covS f n s (bookL f n)).length ≤ s ∧ (covM f n s (bookL f n)).length ≤ M := by
  obtain ⟨g1, g2, g3, g4⟩ := id hG
  have hS : ∀ i, i < n → 0 ≤ (f i).s ∧ (f i).s < s := fun i hi => (g4 i hi).1
  have hT : ∀ i, i < n → 0 ≤ (f i).m ∧ (f i).m < (6 : Nat) := fun i hi => ⟨(g4 i hi).2.1, by have := (g4 i hi).2.2; omega⟩
  obtain ⟨X, hX⟩ : ∃ X, shortOf f n s (bookL f n) = X := ⟨_, rfl⟩
  have hb := best_most f n
  have hk : shortOf f n s (bookL f n) = bestK (tooFewK f n 6) [] (tailsL (fun _ i => decide (0 < bookL f n i)) s s []) := by
    rw [shortOf_best, ← few_key hG]
  obtain ⟨k1, k2, k3⟩ := short_most hS hT (fun _ i => decide (0 < bookL f n i)) (fun b j hj => by
    show decide (0 < bookL f n j) = true ↔ _
    rw [decide_eq_true_eq]
    exact shop_wants hG (by omega)) hb.1 (fun M' h => by rw [hb.2.1]; exact hb.2.2.2 M' h)
  rw [← hk, hX] at k1 k2 k3
  rw [hb.2.1] at k3
  -- the shops
  have m1 : ∀ v, v ∈ covS f n s (bookL f n) ↔ v < s ∧ WantS f n v ∧ v ∉ X := fun v => by
    unfold covS othL
    rw [hX, List.mem_filter, List.mem_range, Bool.and_eq_true, decide_eq_true_eq, Bool.not_eq_true']
    constructor
    · intro ⟨h1, h2, h3⟩
      exact ⟨h1, (shop_wants hG (by omega)).1 h2, fun h => by
        have := (hasB_iff (natG X) (v : Int) X.length).2 ((natG_has X v).2 h)
        rw [show hasB (natG X) (v : Int) X.length = false from h3] at this
        cases this⟩
    · intro ⟨h1, h2, h3⟩
      refine ⟨h1, (shop_wants hG (by omega)).2 h2, ?_⟩
      cases h : hasB (fun j => ((X.getD j 0 : Nat) : Int)) (v : Int) X.length with
      | false => rfl
      | true => exact absurd ((natG_has X v).1 ((hasB_iff (natG X) (v : Int) X.length).1 h)) h3
  have m2 : ∀ y, y ∈ covM f n s (bookL f n) ↔ y < 6 ∧ WantM f n (InL X) y := fun y => by
    unfold covM
    rw [hX, wbL, List.mem_filter, List.mem_range, decide_eq_true_eq]
    exact and_congr_right fun _ => mould_wants hG X y
  have l1 : listB (natG (covS f n s (bookL f n))) s (covS f n s (bookL f n)).length = true := listB_filt _ s fun y hy => by
    have := List.mem_range.1 (List.mem_filter.1 hy).1
    omega
  obtain ⟨pm, hpm⟩ : ∃ pm, covM f n s (bookL f n) = (List.range 6).filter pm := by unfold covM wbL; exact ⟨_, rfl⟩
  have l2 : listB (natG (covM f n s (bookL f n))) M (covM f n s (bookL f n)).length = true := by
    rw [hpm]
    refine listB_filt pm 6 fun y hy => ?_
    rw [← hpm] at hy
    obtain ⟨_, i, hi, _, e⟩ := (m2 y).1 hy
    have := (g4 i hi).2.2
    omega
  have l3 : listB (natG (covM f n s (bookL f n))) (6 : Nat) (covM f n s (bookL f n)).length = true := by
    rw [hpm]
    refine listB_filt pm 6 fun y hy => ?_
    have := List.mem_range.1 (List.mem_filter.1 hy).1
    omega
  obtain ⟨r1, r2⟩ := rest_cover (f := f) (n := n) (S := s) (InL X) fun x hx h => ((k1 x ((inL_nat X x).1 h)).2)
  have c1 : cnt (fun x : Nat => (∃ i, i < n ∧ (f i).s = (x : Int)) ∧ ¬ InL X (x : Int)) s = (covS f n s (bookL f n)).length := by
    rw [← cnt_list l1]
    exact cnt_congr fun v hv => by rw [m1, inL_nat]; exact ⟨fun h => ⟨hv, h.1, h.2⟩, fun h => ⟨h.2.1, h.2.2⟩⟩
  have c2 : cnt (fun x : Nat => InL X (x : Int)) s = X.length := by
    rw [← k2]
    exact cnt_congr fun v _ => inL_nat X v
  have c3 : cnt (WantM f n (InL X)) 6 = (covM f n s (bookL f n)).length := by
    rw [← cnt_list l3]
    exact cnt_congr fun v hv => by rw [m2]; exact ⟨fun h => ⟨hv, h⟩, fun h => h.2⟩
  have hc : coverB f (covS f n s (bookL f n)).length (natG (covS f n s (bookL f n))) (covM f n s (bookL f n)).length (natG (covM f n s (bookL f n))) n = true := by
    rw [coverB_iff]
    intro i hi
    rcases r1 i hi with ⟨_, h⟩ | h
    · refine .inl ?_
      obtain ⟨v, hv⟩ := Int.eq_ofNat_of_zero_le (hS i hi).1
      have := hS i hi
      rw [hv] at h ⊢
      exact (natG_has _ v).2 ((m1 v).2 ⟨by omega, ⟨i, hi, hv⟩, fun hm => h ((inL_nat X v).2 hm)⟩)
    · refine .inr ?_
      obtain ⟨v, hv⟩ := Int.eq_ofNat_of_zero_le (hT i hi).1
      have := hT i hi
      rw [hv] at h ⊢
      obtain ⟨j, hj, a, e⟩ := h
      exact (natG_has _ v).2 ((m2 v).2 ⟨by omega, j, hj, a, e⟩)
  refine ⟨by rw [coverE, if_pos hE, if_pos ⟨l1, l2⟩, if_pos hc], ?_, ?_, ?_⟩
  · unfold tooFewK at k3
    rw [c1, c2] at r2
    rw [c3] at k3
    omega
  · rw [← cnt_list l1]; exact cnt_atmost _ _
  · rw [← cnt_list l2]; exact cnt_atmost _ _
/-- No list of a day has more wants than a cover has numbers. -/
theorem list_cover (hE : bookE s M n f = 0) {ns nm : Nat} {sh mo : Nat → Int} (h1 : coverE s M n f ns sh nm mo = 0) : (bestOf f n).length ≤ ns + nm := by
  obtain ⟨g1, g2, g3, g4⟩ := id hG
  have hS : ∀ i, i < n → 0 ≤ (f i).s ∧ (f i).s < s := fun i hi => (g4 i hi).1
  have hT : ∀ i, i < n → 0 ≤ (f i).m ∧ (f i).m < M := fun i hi => (g4 i hi).2
  rw [coverE, if_pos hE] at h1
  by_cases hl : listB sh s ns = true ∧ listB mo M nm = true
  · rw [if_pos hl] at h1
    by_cases hc : coverB f ns sh nm mo n = true
    · have hb := best_most f n
      have := cover_most hS hT hb.1 ((coverB_iff f ns sh nm mo n).1 hc)
      rw [hb.2.1, listB_cnt hl.1, listB_cnt hl.2] at this
      exact this
    · rw [if_neg hc] at h1; omega
  · rw [if_neg hl] at h1; omega
end
end Go.Proofs.Ytbjgbgchagfokaa

namespace Go.Proofs.Ytbjgbgchagfokaa
open Go Go.RowKit Go.Shelf

theorem bits_list (n : Nat) (x : Int) : listB (natG (bitsL n x)) n (bitsL n x).length = true := listB_filt _ n fun y hy => by
  have := List.mem_range.1 (List.mem_filter.1 hy).1
  omega

set_option maxRecDepth 100000 in
set_option maxHeartbeats 16000000 in
theorem law_either_c (S M : Int) (a : Option Addr) (n cap : Nat) (f : Nat → W2) (xl xs xm : Int) (w : World) (hf : Wants w a n f) :
    Calls Try.prog 8 #[bookV S M a n cap, .int .u16 xl, .int .u16 xs, .int .u16 xm] w fun e w' => e = .returned (.bool true) ∧ Below w.heap.size w w' := by
  obtain ⟨W, hW⟩ : ∃ W, w.alloc (.cells #[.int .i64 S, .int .i64 M, .slice a n cap] 24) = W := ⟨_, rfl⟩
  have hB : Below w.heap.size w W := by rw [← hW]; exact Below.alloc1 (Below.refl _ _) _ (Nat.le_refl _)
  have hR : RowIs W w.heap.size #[.int .i64 S, .int .i64 M, .slice a n cap] 24 := by rw [← hW]; exact heap_new_at _ _ _ rfl
  have r0 : W.cell? ⟨w.heap.size, 0, none⟩ = some (.int .i64 S) := RowIs.cell hR 0
  have r1 : W.cell? ⟨w.heap.size, 1, none⟩ = some (.int .i64 M) := RowIs.cell hR 1
  have r2 : W.cell? ⟨w.heap.size, 2, none⟩ = some (.slice a n cap) := RowIs.cell hR 2
  have rz : w.heap.size < W.heap.size := hR.lt
  have HF := Lib.hid (hf.below hB)
  have HR := Lib.hid hR
  clear hR hf
  cases hE : decide (bookE S M n f = 0) with
  | false =>
    have HC := Lib.hid (fun (x : World) (h : Wants x a n f) => fine_c S M a n cap f x h)
    rw [hE] at HC
    clear hE
    go_enter Try.func8, Try.ntmps8
    go_wp2_with fail
    refine (HC.out _ HF.out).mono ?_
    rintro e w1 ⟨rfl, hb1⟩
    go_wp2_with fail
    refine (works_c _).mono ?_
    rintro e w2 ⟨rfl, hb2⟩
    go_wp2_with fail
    go_ret
    exact ⟨rfl, bup hB (bup hb1 hb2)⟩
  | true =>
    have HC := Lib.hid (fun (x : World) (h : Wants x a n f) => fine_c S M a n cap f x h)
    rw [hE] at HC
    have hE0 := of_decide_eq_true hE
    clear hE
    have hGB := book_good hE0
    obtain ⟨s, rfl⟩ : ∃ s : Nat, S = s := ⟨S.toNat, by have := hGB.1; omega⟩
    obtain ⟨m, rfl⟩ : ∃ m : Nat, M = m := ⟨M.toNat, by have := hGB.2.1; omega⟩
    have hn14 := hGB.2.2.1
    have hs6 : s ≤ 6 := by have := hGB.1; omega
    have hm6 : m ≤ 6 := by have := hGB.2.1; omega
    obtain ⟨k0, k1, k2, k3⟩ := cover_ok hGB hE0
    have hlc : ∀ (ns nm : Nat) (sh mo : Nat → Int), coverE s m n f ns sh nm mo = 0 → (bestOf f n).length ≤ ns + nm := fun ns nm sh mo h => list_cover hGB hE0 h
    have hlb : ∀ (len : Nat) (g : Nat → Int), listB g n len = true → dayB f g len = true → len ≤ (bestOf f n).length := fun len g h1 h2 => list_best h1 h2
    have hbl : (bestOf f n).length ≤ n := by rw [← (best_most f n).2.1]; exact cnt_atmost _ _
    obtain ⟨L, hL⟩ : ∃ L, (bestOf f n).length = L := ⟨_, rfl⟩
    obtain ⟨CS, hCS⟩ : ∃ CS, covS f n s (bookL f n) = CS := ⟨_, rfl⟩
    obtain ⟨CM, hCM⟩ : ∃ CM, covM f n s (bookL f n) = CM := ⟨_, rfl⟩
    have HBC := Lib.hid (fun (x : World) (h : Wants x a n f) => best_c s m a n cap f x h hE0)
    have HCV := Lib.hid (fun (x : World) (h : Wants x a n f) => Cover_yes_c s m a n cap f x h (by omega) hE0)
    rw [hCS, hCM] at HCV k0 k1
    rw [hCS] at k2
    rw [hCM] at k3
    simp only [hL] at HBC k1 hlc hlb hbl
    have hN : coverN 0 CS.length CM.length = (L : Int) := by rw [coverN, if_pos rfl]; omega
    have HK0 := Lib.hid k0
    have HN := Lib.hid hN
    have HLC := Lib.hid hlc
    have HLB := Lib.hid hlb
    have HE := Lib.hid hE0
    have tS : decide ((s : Int) < (CS.length : Int)) = false := by simp; omega
    have tM : decide ((m : Int) < (CM.length : Int)) = false := by simp; omega
    have tL : ((L : Int) != (L : Int)) = false := by simp
    have hcs : CS.length ≤ 6 := by omega
    have hcm : CM.length ≤ 6 := by omega
    clear hE0 hGB k0 k1 hlc hlb hL hCS hCM hN
    go_enter Try.func8, Try.ntmps8
    go_wp2_with fail
    refine (HC.out _ HF.out).mono ?_
    rintro e w1 ⟨rfl, hb1⟩
    replace HF := Lib.hid (HF.out.below hb1)
    replace HR := Lib.hid (RowIs.below HR.out hb1)
    replace hB := bup hB hb1
    clear r0 r1 r2 rz hb1
    have r0 : w1.cell? ⟨w.heap.size, 0, none⟩ = some (.int .i64 s) := RowIs.cell HR.out 0
    have r1 : w1.cell? ⟨w.heap.size, 1, none⟩ = some (.int .i64 m) := RowIs.cell HR.out 1
    have r2 : w1.cell? ⟨w.heap.size, 2, none⟩ = some (.slice a n cap) := RowIs.cell HR.out 2
    have rz : w.heap.size < w1.heap.size := HR.out.lt
    go_wp2_with fail
    refine (HBC.out _ HF.out).mono ?_
    rintro e w2 ⟨pb, cb, rfl, -, hb2⟩
    replace HF := Lib.hid (HF.out.below hb2)
    replace HR := Lib.hid (RowIs.below HR.out hb2)
    replace hB := bup hB hb2
    clear r0 r1 r2 rz hb2
    have r0 : w2.cell? ⟨w.heap.size, 0, none⟩ = some (.int .i64 s) := RowIs.cell HR.out 0
    have r1 : w2.cell? ⟨w.heap.size, 1, none⟩ = some (.int .i64 m) := RowIs.cell HR.out 1
    have r2 : w2.cell? ⟨w.heap.size, 2, none⟩ = some (.slice a n cap) := RowIs.cell HR.out 2
    have rz : w.heap.size < w2.heap.size := HR.out.lt
    go_wp2_with fail
    refine (HCV.out _ HF.out).mono ?_
    rintro e w3 ⟨p3, c3, q3, d3, rfl, hL3, hL4, hb3⟩
    have L3 := Lib.hid hL3
    have L4 := Lib.hid hL4
    replace HF := Lib.hid (HF.out.below hb3)
    replace HR := Lib.hid (RowIs.below HR.out hb3)
    replace hB := bup hB hb3
    clear r0 r1 r2 rz hb3
    have r0 : w3.cell? ⟨w.heap.size, 0, none⟩ = some (.int .i64 s) := RowIs.cell HR.out 0
    have r1 : w3.cell? ⟨w.heap.size, 1, none⟩ = some (.int .i64 m) := RowIs.cell HR.out 1
    have r2 : w3.cell? ⟨w.heap.size, 2, none⟩ = some (.slice a n cap) := RowIs.cell HR.out 2
    have rz : w.heap.size < w3.heap.size := HR.out.lt
    clear hL3 hL4
    go_wp2_with fail
    refine (CheckCover_yes_c s m a n cap f p3 CS.length c3 (natG CS) q3 CM.length d3 (natG CM) _ HF.out (by omega) L3.out.cells (by omega) L4.out.cells (by omega) HE.out).mono ?_
    rintro e w4 ⟨rfl, hb4⟩
    rw [HK0.out, HN.out]
    replace HF := Lib.hid (HF.out.below hb4)
    replace HR := Lib.hid (RowIs.below HR.out hb4)
    replace L3 := Lib.hid (L3.out.below hb4)
    replace L4 := Lib.hid (L4.out.below hb4)
    replace hB := bup hB hb4
    clear r0 r1 r2 rz hb4
    have r0 : w4.cell? ⟨w.heap.size, 0, none⟩ = some (.int .i64 s) := RowIs.cell HR.out 0
    have r1 : w4.cell? ⟨w.heap.size, 1, none⟩ = some (.int .i64 m) := RowIs.cell HR.out 1
    have r2 : w4.cell? ⟨w.heap.size, 2, none⟩ = some (.slice a n cap) := RowIs.cell HR.out 2
    have rz : w.heap.size < w4.heap.size := HR.out.lt
    go_wp2_with fail
    refine (rcheckCover_c s m a n cap f p3 CS.length c3 (natG CS) q3 CM.length d3 (natG CM) _ HF.out (by omega) L3.out.cells (by omega) L4.out.cells (by omega)).mono ?_
    rintro e w5 ⟨rfl, hb5⟩
    rw [HK0.out, HN.out]
    clear L3 L4 HBC HCV
    replace HF := Lib.hid (HF.out.below hb5)
    replace HR := Lib.hid (RowIs.below HR.out hb5)
    replace hB := bup hB hb5
    clear r0 r1 r2 rz hb5
    have r0 : w5.cell? ⟨w.heap.size, 0, none⟩ = some (.int .i64 s) := RowIs.cell HR.out 0
    have r1 : w5.cell? ⟨w.heap.size, 1, none⟩ = some (.int .i64 m) := RowIs.cell HR.out 1
    have r2 : w5.cell? ⟨w.heap.size, 2, none⟩ = some (.slice a n cap) := RowIs.cell HR.out 2
    have rz : w.heap.size < w5.heap.size := HR.out.lt
    go_wp2_with fail
    refine (bits_c n xl _ hn14).mono ?_
    rintro e w6 ⟨p6, c6, rfl, hL6, hb6⟩
    have L6 := Lib.hid hL6
    replace HF := Lib.hid (HF.out.below hb6)
    replace HR := Lib.hid (RowIs.below HR.out hb6)
    replace hB := bup hB hb6
    clear r0 r1 r2 rz hb6
    have r0 : w6.cell? ⟨w.heap.size, 0, none⟩ = some (.int .i64 s) := RowIs.cell HR.out 0
    have r1 : w6.cell? ⟨w.heap.size, 1, none⟩ = some (.int .i64 m) := RowIs.cell HR.out 1
    have r2 : w6.cell? ⟨w.heap.size, 2, none⟩ = some (.slice a n cap) := RowIs.cell HR.out 2
    have rz : w.heap.size < w6.heap.size := HR.out.lt
    clear hL6
    have ho := bits_len xl n
    obtain ⟨E1, hE1⟩ : ∃ E1 : Int, (if listB (natG (bitsL n xl)) n (bitsL n xl).length = true then (if apartAll f n (natG (bitsL n xl)) (bitsL n xl).length = true then 0 else 18) else 3) = E1 := ⟨_, rfl⟩
    have HE1 := Lib.hid hE1
    have h1 : (E1 = 0 ∧ (bitsL n xl).length ≤ L) ∨ E1 = 18 := by
      rw [if_pos (bits_list n xl)] at hE1
      by_cases h : apartAll f n (natG (bitsL n xl)) (bitsL n xl).length = true
      · rw [if_pos h] at hE1
        exact .inl ⟨hE1.symm, HLB.out _ _ (bits_list n xl) (by rw [← apart_day (bits_list n xl)]; exact h)⟩
      · rw [if_neg h] at hE1
        exact .inr hE1.symm
    have H1 := Lib.hid h1
    clear hE1 h1
    go_wp2_with fail
    refine (CheckList_yes_c s m a n cap f p6 (bitsL n xl).length c6 (natG (bitsL n xl)) _ HF.out (by omega) L6.out.cells (by omega) L6.out.room L6.out.fit HE.out).mono ?_
    rintro e w7 ⟨rfl, hb7⟩
    rw [HE1.out]
    replace HF := Lib.hid (HF.out.below hb7)
    replace HR := Lib.hid (RowIs.below HR.out hb7)
    replace hB := bup hB hb7
    clear r0 r1 r2 rz hb7
    have r0 : w7.cell? ⟨w.heap.size, 0, none⟩ = some (.int .i64 s) := RowIs.cell HR.out 0
    have r1 : w7.cell? ⟨w.heap.size, 1, none⟩ = some (.int .i64 m) := RowIs.cell HR.out 1
    have r2 : w7.cell? ⟨w.heap.size, 2, none⟩ = some (.slice a n cap) := RowIs.cell HR.out 2
    have rz : w.heap.size < w7.heap.size := HR.out.lt
    clear L6 HE1
    obtain ⟨E2, hE2⟩ : ∃ E2, coverE s m n f (bitsL s xs).length (natG (bitsL s xs)) (bitsL m xm).length (natG (bitsL m xm)) = E2 := ⟨_, rfl⟩
    obtain ⟨N2, hN2⟩ : ∃ N2, coverN E2 (bitsL s xs).length (bitsL m xm).length = N2 := ⟨_, rfl⟩
    have h2 : (E2 = 0 ∧ (L : Int) ≤ N2) ∨ E2 = 14 := by
      have h3 := hE2
      rw [coverE, if_pos HE.out, if_pos ⟨bits_list s xs, bits_list m xm⟩] at h3
      by_cases h : coverB f (bitsL s xs).length (natG (bitsL s xs)) (bitsL m xm).length (natG (bitsL m xm)) n = true
      · rw [if_pos h] at h3
        refine .inl ⟨h3.symm, ?_⟩
        have := HLC.out _ _ _ _ (hE2.trans h3.symm)
        rw [← hN2, ← h3, coverN, if_pos rfl]
        omega
      · rw [if_neg h] at h3
        exact .inr h3.symm
    have H2 := Lib.hid h2
    have hbs := bits_len xs s
    have hbm := bits_len xm m
    have HB1 := Lib.hid (fun (x : World) => bits_c s xs x (by omega))
    have HB2 := Lib.hid (fun (x : World) => bits_c m xm x (by omega))
    have HCC := Lib.hid (fun (x : World) (h : Below w7.heap.size w7 x) (p q : Option Addr) (c d : Nat) (hp : Lst x (bitsL s xs) p c) (hq : Lst x (bitsL m xm) q d) => by
      have h1 := CheckCover_yes_c s m a n cap f p (bitsL s xs).length c (natG (bitsL s xs)) q (bitsL m xm).length d (natG (bitsL m xm)) x (HF.out.below h) (by omega) hp.cells (by omega) hq.cells (by omega) HE.out
      rw [hE2, hN2] at h1
      exact h1)
    clear hE2 hN2 h2
    go_wp2_with fail
    go_cut [17, 19] from 94 to 106 (fun e1 e2 wx => e1 = .int .i64 E2 ∧ e2 = .int .i64 N2 ∧ Below w7.heap.size w7 wx)
    case first =>
      go_region_held3 (fun w' => w'.cell? ⟨w.heap.size, 0, none⟩ = some (.int .i64 s) ∧ w'.cell? ⟨w.heap.size, 1, none⟩ = some (.int .i64 m) ∧ w'.cell? ⟨w.heap.size, 2, none⟩ = some (.slice a n cap))
        (first | (go_split_ands; refine ⟨?_, ?_, ?_⟩ <;> first | assumption | (go_keep; done)) | go_keep)
        ((first
          | (go_at_call 42; with_reducible refine Calls.mono (HB1.out _) ?_; rintro e wg ⟨pg, cg, rfl, hLg, hbg⟩; have t0 : wg.cell? ⟨w.heap.size, 0, none⟩ = some (.int .i64 s) := (by (try go_split_ands); rw [hbg.cell (by first | assumption | (simp; omega))]; assumption); have t1 : wg.cell? ⟨w.heap.size, 1, none⟩ = some (.int .i64 m) := (by (try go_split_ands); rw [hbg.cell (by first | assumption | (simp; omega))]; assumption); have t2 : wg.cell? ⟨w.heap.size, 2, none⟩ = some (.slice a n cap) := (by (try go_split_ands); rw [hbg.cell (by first | assumption | (simp; omega))]; assumption); have tg : w.heap.size < wg.heap.size := Nat.lt_of_lt_of_le (by first | assumption | (simp; omega)) hbg.size)
          | (go_at_call 42; with_reducible refine Calls.mono (HB2.out _) ?_; rintro e wh ⟨ph, ch, rfl, hLh, hbh⟩; have t0 : wh.cell? ⟨w.heap.size, 0, none⟩ = some (.int .i64 s) := (by (try go_split_ands); rw [hbh.cell (by first | assumption | (simp; omega))]; assumption); have t1 : wh.cell? ⟨w.heap.size, 1, none⟩ = some (.int .i64 m) := (by (try go_split_ands); rw [hbh.cell (by first | assumption | (simp; omega))]; assumption); have t2 : wh.cell? ⟨w.heap.size, 2, none⟩ = some (.slice a n cap) := (by (try go_split_ands); rw [hbh.cell (by first | assumption | (simp; omega))]; assumption); have th : w.heap.size < wh.heap.size := Nat.lt_of_lt_of_le (by first | assumption | (simp; omega)) hbh.size)
          | (go_at_call 27; refine Calls.mono (HCC.out _ ?_ pg ph cg ch (hLg.below ?_) (hLh.below ?_)) ?_; (with_reducible repeat (first | exact Below.refl _ _ | assumption | refine bup ?_ (by assumption) | refine Below.drew ?_)); (with_reducible repeat (first | exact Below.refl _ _ | assumption | refine bup ?_ (by assumption) | refine Below.drew ?_)); (with_reducible repeat (first | exact Below.refl _ _ | assumption | refine bup ?_ (by assumption) | refine Below.drew ?_)); rintro e wq ⟨rfl, hbq⟩; have t0 : wq.cell? ⟨w.heap.size, 0, none⟩ = some (.int .i64 s) := (by (try go_split_ands); rw [hbq.cell (by first | assumption | (simp; omega))]; assumption); have t1 : wq.cell? ⟨w.heap.size, 1, none⟩ = some (.int .i64 m) := (by (try go_split_ands); rw [hbq.cell (by first | assumption | (simp; omega))]; assumption); have t2 : wq.cell? ⟨w.heap.size, 2, none⟩ = some (.slice a n cap) := (by (try go_split_ands); rw [hbq.cell (by first | assumption | (simp; omega))]; assumption))
          | fail))
      all_goals (go_wp2_with fail; go_meet; refine ⟨rfl, rfl, ?_⟩; (with_reducible repeat (first | exact Below.refl _ _ | assumption | refine bup ?_ (by assumption) | refine Below.drew ?_)))
    case rest =>
    obtain ⟨rfl, rfl, hcb⟩ := hcut
    obtain ⟨w8, hww⟩ : ∃ x, x = wc := ⟨_, rfl⟩
    subst hww
    replace hB := bup hB hcb
    clear HB1 HB2 HCC r0 r1 r2 rz hcb HF HR
    rcases H1.out with ⟨rfl, h1⟩ | rfl <;> rcases H2.out with ⟨rfl, h2⟩ | rfl
    · have u1 : decide (((bitsL n xl).length : Int) ≤ (L : Int)) = true := by simp; omega
      have u2 : decide ((L : Int) ≤ N2) = true := decide_eq_true h2
      clear H1 H2
      go_wp2_with fail
      refine (works_c _).mono ?_
      rintro e w9 ⟨rfl, hb9⟩
      go_wp2_with fail
      go_ret
      exact ⟨rfl, bup hB hb9⟩
    · have u1 : decide (((bitsL n xl).length : Int) ≤ (L : Int)) = true := by simp; omega
      clear H1 H2
      go_wp2_with fail
      refine (works_c _).mono ?_
      rintro e w9 ⟨rfl, hb9⟩
      go_wp2_with fail
      go_ret
      exact ⟨rfl, bup hB hb9⟩
    · have u2 : decide ((L : Int) ≤ N2) = true := decide_eq_true h2
      clear H1 H2
      go_wp2_with fail
      refine (works_c _).mono ?_
      rintro e w9 ⟨rfl, hb9⟩
      go_wp2_with fail
      go_ret
      exact ⟨rfl, bup hB hb9⟩
    · clear H1 H2
      go_wp2_with fail
      refine (works_c _).mono ?_
      rintro e w9 ⟨rfl, hb9⟩
      go_wp2_with fail
      go_ret
      exact ⟨rfl, bup hB hb9⟩

end Go.Proofs.Ytbjgbgchagfokaa

namespace Go.Proofs.Ytbjgbgchagfokaa
open Go Go.RowKit Go.ChangeShapes Go.WideShapes Go.ChangeAt

theorem own_either : ownKnob Try.prog.godebug = .none := by kernel_rfl
theorem laidOut_either : laidOutB Try.prog = true := by kernel_rfl

set_option maxRecDepth 100000 in
theorem either_lifted (os : Os) (started : os.Started) (H : Type) (enc : TypeId × Value → H) :
    ReturnsInHanded {} Try.checked os 8 .any (Rows.mouldEitherSpec.pre6 enc Try.prog Try.f8 Rows.mouldEitherRow.domain false) (Rows.mouldEitherSpec.post enc Try.prog Try.f8 false true false false) := by
  refine returnsInHanded_of_change (C := Try.checked) own_either started (by kernel_rfl) Try.func8
    (ChangeSpec.witness6 (enc := enc) (C := Try.checked) false ⟨#[], #[.agg #[.int .i64 0, .int .i64 0, .slice .none 0 0], .int .u16 0, .int .u16 0, .int .u16 0], []⟩ 8 (by kernel_rfl) (by kernel_rfl) (by kernel_rfl) (by kernel_rfl)) ?_
  intro W base args ds gs before hval0 hW hcnd _
  have hval : ∀ (j : Nat) t v, Try.f8.params[j]? = some t → args[j]? = some v → Value.okWide Try.prog W .any base t v := hval0
  have hW' := hW
  obtain ⟨p, q, hA0, hV, rfl, hfz, hnd⟩ := hW
  have hA : DataW.TrodAll enc Try.prog W 0 (fun _ => true) true Try.f8.params.toList args.toList ds p := hA0
  rw [Try.params8] at hA hval
  obtain ⟨v0, vs0, d0, ds0, p0, q0, hargs, rfl, rfl, h0, r0⟩ := trodAll_cons hA
  obtain ⟨v1, vs1, d1, ds1, p1, q1, rfl, rfl, rfl, h1, r1⟩ := trodAll_cons r0
  obtain ⟨v2, vs2, d2, ds2, p2, q2, rfl, rfl, rfl, h2, r2⟩ := trodAll_cons r1
  obtain ⟨v3, vs3, d3, ds3, p3, q3, rfl, rfl, rfl, h3, r3⟩ := trodAll_cons r2
  obtain ⟨rfl, rfl, rfl⟩ := trodAll_nil r3
  obtain rfl : args = #[v0, v1, v2, v3] := by cases args; simp_all
  obtain ⟨rfl, rfl⟩ := trodVars_none hV
  obtain ⟨S0, M0, a0, n0, cap0, f0, rfl, hF0⟩ := open_book (hval 0 24 v0 rfl rfl) h0
  obtain ⟨z1, hz1, _, _, hw1⟩ := open_int Try.underlying49 (hval 1 49 v1 rfl rfl) h1
  obtain ⟨z2, hz2, _, _, hw2⟩ := open_int Try.underlying49 (hval 2 49 v2 rfl rfl) h2
  obtain ⟨z3, hz3, _, _, hw3⟩ := open_int Try.underlying49 (hval 3 49 v3 rfl rfl) h3
  subst hz1 hz2 hz3
  refine (law_either_c S0 M0 a0 n0 cap0 f0 z1 z2 z3 W hF0).mono fun e W' ⟨he, hb⟩ => ?_
  subst he
  have hlt := hW'.lt
  simp only [List.append_nil, List.mem_append] at hlt
  refine ⟨_, rfl, _, _, _, [], p0 ++ (p1 ++ (p2 ++ (p3 ++ []))), [], hW', trodAll_mk1 (shut_bool Try.underlying4 true), ?_, rfl, hb.frame _, fun h => Bool.noConfusion h⟩
  exact trodAll_cons_mk (Below.trod laidOut_either (by kernel_rfl) (of_decide_eq_true (by kernel_rfl)) h0 hb fun x hx => hlt x (by simp [hx])) (trodAll_cons_mk (Below.trod laidOut_either (by kernel_rfl) (of_decide_eq_true (by kernel_rfl)) h1 hb fun x hx => hlt x (by simp [hx])) (trodAll_cons_mk (Below.trod laidOut_either (by kernel_rfl) (of_decide_eq_true (by kernel_rfl)) h2 hb fun x hx => hlt x (by simp [hx])) (trodAll_cons_mk (Below.trod laidOut_either (by kernel_rfl) (of_decide_eq_true (by kernel_rfl)) h3 hb fun x hx => hlt x (by simp [hx])) trodAll_mk0)))

theorem either_holds : Rows.MouldEitherSaid :=
  OpenClaim.holds_of_wide 8 Try.f8 rfl rfl rfl rfl rfl rfl rfl ⟨rfl, rfl, rfl, rfl, rfl⟩ rfl rfl rfl rfl rfl (by kernel_rfl) Try.func8 (by kernel_rfl)
    (of_decide_eq_true (by kernel_rfl)) (by unfold Func.isWrapper; first | (rw [if_pos (by decide +kernel)]; kernel_rfl) | (rw [if_neg (by decide +kernel)]; exact ⟨rfl, rfl⟩))
    (fun os started H enc _ => either_lifted os started H enc)
end Go.Proofs.Ytbjgbgchagfokaa
