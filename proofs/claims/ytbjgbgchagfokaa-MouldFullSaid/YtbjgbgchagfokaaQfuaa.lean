/- For whatever arguments, the law MouldFull returns true, and each argument reads behind the call as it read before. No condition. -/
import Derived.Test.YtbjgbgchagfokaaProg
import Derived.Test.YtbjgbgchagfokaaBasaa
import Derived.Test.YtbjgbgchagfokaaBasbd
import Derived.Test.YtbjgbgchagfokaaBasay
import Derived.Test.YtbjgbgchagfokaaBasap
import Derived.Test.YtbjgbgchagfokaaBasba
import Derived.Test.YtbjgbgchagfokaaBasah
import Derived.Shelf.Abstract
import Derived.Shelf.RegionOpen
import Derived.Test.YtbjgbgchagfokaaBasbb
import Derived.Test.YtbjgbgchagfokaaBasaz
import Derived.Test.YtbjgbgchagfokaaBasak
import Derived.Test.YtbjgbgchagfokaaBasao
import Derived.Test.YtbjgbgchagfokaaBasbc
import Derived.Test.YtbjgbgchagfokaaRows
import Derived.ProofKit
namespace Go.Proofs.Ytbjgbgchagfokaa
open Go Go.RowKit Go.ChangeShapes Go.WideShapes Go.Deep Go.Joins

theorem cellsU8 : Try.prog.cellsOf 5 = 1 := by kernel_rfl
theorem wfu16 {n : Int} (h : (Lit.int .u16 n).wf = true) : 0 ≤ n ∧ n ≤ 65535 := by
  simp [Lit.wf] at h
  have h1 : IntKind.u16.min = 0 := by decide
  have h2 : IntKind.u16.max = 65535 := by decide
  omega
theorem wfu8 {n : Int} (h : (Lit.int .u8 n).wf = true) : 0 ≤ n ∧ n ≤ 255 := by
  simp [Lit.wf] at h
  have h1 : IntKind.u8.min = 0 := by decide
  have h2 : IntKind.u8.max = 255 := by decide
  omega

section
variable {H : Type} {enc : TypeId × Value → H} {W : World} {sp : Nat → Bool}

set_option maxRecDepth 100000 in
theorem open_bytes {base : Nat} {v : Value} {d : DataW H} {p : List MemPlace} (hok : Value.okWide Try.prog W .any base 42 v) (h : DataW.Trod enc Try.prog W 0 sp true 42 v d p) :
    ∃ (a : Option Addr) (n cap : Nat) (f : Nat → Int), v = .slice a n cap ∧ (Cells W a n fun i => .int .u8 (f i)) ∧ ∀ i, i < n → 0 ≤ f i ∧ f i ≤ 255 := by
  obtain ⟨a, n, cap, rfl⟩ := okWide_slice Try.underlying42 hok
  obtain ⟨fuel, hf⟩ := h
  rcases open_ints Try.underlying42 Try.underlying5 cellsU8 hf with ⟨hcs, _⟩ | ⟨a', len, cap', zs, hcs, _, hl, _, hk, _, hi, hw⟩
  · simp [Value.cells] at hcs
    obtain ⟨rfl, rfl, rfl⟩ := hcs
    exact ⟨none, 0, 0, fun _ => 0, rfl, .inl rfl, fun i hi => absurd hi (Nat.not_lt_zero i)⟩
  · simp [Value.cells] at hcs
    obtain ⟨rfl, rfl, rfl⟩ := hcs
    have hlk : n ≤ zs.length := by rw [hk]; split <;> omega
    have hb : ∀ i, i < n → 0 ≤ zs.getD i 0 ∧ zs.getD i 0 ≤ 255 := fun i hin => by
      have hz : i < zs.length := by omega
      have e : zs.getD i 0 = zs[i] := by simp [List.getD, hz]
      rw [e]
      exact wfu8 (hw _ (List.getElem_mem hz))
    refine ⟨some a', n, cap, fun i => zs.getD i 0, rfl, ?_, hb⟩
    by_cases h0 : n = 0
    · exact .inl h0
    obtain ⟨b, off, rfl, hc⟩ := ints_at hi (by omega)
    exact .inr ⟨b, off, rfl, World.block_lt_of_cell? W _ (hc 0 (by omega)), fun i hin => hc i (by omega)⟩
end

end Go.Proofs.Ytbjgbgchagfokaa

namespace Go.Proofs.Ytbjgbgchagfokaa
open Go Go.RowKit

theorem ldF_pos (f : Nat → W2) (p : Nat → Bool) (x : Nat) : ∀ n, 0 < ldF f p x n ↔ ∃ i, i < n ∧ p i = true ∧ ((f i).s = x ∨ 6 + (f i).m = x)
  | 0 => by simp [ldF]
  | n + 1 => by
    have ih := ldF_pos f p x n
    have h0 := (ldF_bd f p x n).1
    rw [ldF]
    by_cases h : p n = true ∧ ((f n).s = x ∨ 6 + (f n).m = x)
    · rw [if_pos h]
      exact ⟨fun _ => ⟨n, by omega, h⟩, fun _ => by omega⟩
    · rw [if_neg h, Int.add_zero, ih]
      exact ⟨fun ⟨i, hi, hp⟩ => ⟨i, by omega, hp⟩, fun ⟨i, hi, hp⟩ => ⟨i, by
        by_cases e : i = n
        · rw [e] at hp; exact absurd hp h
        · omega, hp⟩⟩

/-- Some of the first numbers, in their order, are a list. -/
theorem listB_filt (p : Nat → Bool) (k : Nat) {T : Int} (hT : ∀ y, y ∈ (List.range k).filter p → (y : Int) < T) : listB (natG ((List.range k).filter p)) T ((List.range k).filter p).length = true := by
  have hs : List.Pairwise (· < ·) ((List.range k).filter p) := List.Pairwise.filter _ List.pairwise_lt_range
  rw [List.pairwise_iff_getElem] at hs
  rw [listB_iff]
  intro i hi
  have e : ∀ j (hj : j < ((List.range k).filter p).length), natG ((List.range k).filter p) j = ((((List.range k).filter p)[j] : Nat) : Int) := fun j hj => by
    unfold natG
    rw [List.getD_eq_getElem?_getD, List.getElem?_eq_getElem hj, Option.getD_some]
  refine ⟨⟨by unfold natG; omega, by rw [e i hi]; exact hT _ (List.getElem_mem hi)⟩, fun h0 => ?_⟩
  rw [e i hi, e (i - 1) (by omega)]
  have := hs (i - 1) i (by omega) hi (by omega)
  omega
theorem natG_has (x : List Nat) (v : Nat) : (∃ i, i < x.length ∧ natG x i = (v : Int)) ↔ v ∈ x :=
  ⟨fun ⟨i, hi, e⟩ => by
    have := natG_mem hi
    unfold natG at e
    rwa [show x.getD i 0 = v by omega] at this, fun h => by
    obtain ⟨i, hi, e⟩ := mem_natG h
    exact ⟨i, hi, by unfold natG; rw [e]⟩⟩
theorem cnt_list {x : List Nat} {T : Nat} (h : listB (natG x) T x.length = true) : cnt (fun v => v ∈ x) T = x.length := by
  rw [← listB_cnt h]
  exact (cnt_congr fun v _ => natG_has x v).symm

section
variable {s M n : Nat} {f : Nat → W2} (hG : GoodBook s M n f)
include hG

theorem shop_wants {x : Nat} (hx : x < 6) : 0 < bookL f n x ↔ WantS f n x := by
  rw [show bookL f n x = ldF f (fun _ => true) x n from rfl, ldF_pos]
  exact ⟨fun ⟨i, hi, _, h⟩ => ⟨i, hi, by have := (hG.2.2.2 i hi).2; omega⟩, fun ⟨i, hi, e⟩ => ⟨i, hi, rfl, .inl e⟩⟩
theorem mould_wants (x : List Nat) (y : Nat) : 0 < shopL f (natG x) x.length n (6 + y) ↔ WantM f n (InL x) y := by
  rw [show shopL f (natG x) x.length n (6 + y) = ldF f (fun i => hasB (natG x) (f i).s x.length) (6 + y) n from rfl, ldF_pos]
  constructor
  · intro ⟨i, hi, hp, h⟩
    obtain ⟨j, hj, e⟩ := (hasB_iff _ _ _).1 hp
    have b := hG.2.2.2 i hi
    have b2 := hG.1
    refine ⟨i, hi, ⟨x.getD j 0, natG_mem hj, ?_⟩, by omega⟩
    rw [← e]
    rfl
  · intro ⟨i, hi, ⟨v, hv, e⟩, h⟩
    obtain ⟨j, hj, e2⟩ := (natG_has x v).2 hv
    exact ⟨i, hi, (hasB_iff _ _ _).2 ⟨j, hj, by rw [e2, e]⟩, .inr (by omega)⟩
theorem few_key : (fun x => fewL f n x) = tooFewK f n 6 := by
  funext x
  show (x.length : Int) - ((wbL (shopL f (natG x) x.length n) 6).length : Int) = _
  unfold tooFewK
  have h : listB (natG (wbL (shopL f (natG x) x.length n) 6)) (6 : Nat) (wbL (shopL f (natG x) x.length n) 6).length = true := listB_filt _ 6 fun y hy => by
    have := List.mem_range.1 (List.mem_filter.1 hy).1
    omega
  rw [← cnt_list h, cnt_congr (q := WantM f n (InL x))]
  intro y hy
  rw [wbL, List.mem_filter, List.mem_range, decide_eq_true_eq, mould_wants hG]
  exact ⟨fun h => h.2, fun h => ⟨hy, h⟩⟩

/-- The cover that is returned. -/
theorem cover_ok (hE : bookE s M n f = 0) : coverE s M n f (covS f n s (bookL f n)).length (natG (covS f n s (bookL f n))) (covM f n s (bookL f n)).length (natG (covM f n s (bookL f n))) = 0 ∧
    (covS f n s (bookL f n)).length + (covM f n s (bookL f n)).length = (bestOf f n).length ∧ (covS f n s (bookL f n)).length ≤ s ∧ (covM f n s (bookL f n)).length ≤ M := by
  obtain ⟨g1, g2, g3, g4⟩ := id hG
  have hS : ∀ i, i < n → 0 ≤ (f i).s ∧ (f i).s < s := fun i hi => (g4 i hi).1
  have hT : ∀ i, i < n → 0 ≤ (f i).m ∧ (f i).m < (6 : Nat) := fun i hi => ⟨(g4 i hi).2.1, by have := (g4 i hi).2.2; omega⟩
  obtain ⟨X, hX⟩ : ∃ X, shortOf f n s (bookL f n) = X := ⟨_, rfl⟩
  have hb := best_most f n
  have hk : shortOf f n s (bookL f n) = bestK (tooFewK f n 6) [] (tailsL (fun _ i => decide (0 < bookL f n i)) s s []) := by
    rw [shortOf_best, ← few_key hG]
  obtain ⟨k1, k2, k3⟩ := short_most hS hT (fun _ i => decide (0 < bookL f n i)) (fun b j hj => by
    show decide (0 < bookL f n j) = true ↔ _
    rw [decide_eq_true_eq]
    exact shop_wants hG (by omega)) hb.1 (fun M' h => by rw [hb.2.1]; exact hb.2.2.2 M' h)
  rw [← hk, hX] at k1 k2 k3
  rw [hb.2.1] at k3
  -- the shops
  have m1 : ∀ v, v ∈ covS f n s (bookL f n) ↔ v < s ∧ WantS f n v ∧ v ∉ X := fun v => by
    unfold covS othL
    rw [hX, List.mem_filter, List.mem_range, Bool.and_eq_true, decide_eq_true_eq, Bool.not_eq_true']
    constructor
    · intro ⟨h1, h2, h3⟩
      exact ⟨h1, (shop_wants hG (by omega)).1 h2, fun h => by
        have := (hasB_iff (natG X) (v : Int) X.length).2 ((natG_has X v).2 h)
        rw [show hasB (natG X) (v : Int) X.length = false from h3] at this
        cases this⟩
    · intro ⟨h1, h2, h3⟩
      refine ⟨h1, (shop_wants hG (by omega)).2 h2, ?_⟩
      cases h : hasB (fun j => ((X.getD j 0 : Nat) : Int)) (v : Int) X.length with
      | false => rfl
      | true => exact absurd ((natG_has X v).1 ((hasB_iff (natG X) (v : Int) X.length).1 h)) h3
  have m2 : ∀ y, y ∈ covM f n s (bookL f n) ↔ y < 6 ∧ WantM f n (InL X) y := fun y => by
    unfold covM
    rw [hX, wbL, List.mem_filter, List.mem_range, decide_eq_true_eq]
    exact and_congr_right fun _ => mould_wants hG X y
  have l1 : listB (natG (covS f n s (bookL f n))) s (covS f n s (bookL f n)).length = true := listB_filt _ s fun y hy => by
    have := List.mem_range.1 (List.mem_filter.1 hy).1
    omega
  obtain ⟨pm, hpm⟩ : ∃ pm, covM f n s (bookL f n) = (List.range 6).filter pm := by unfold covM wbL; exact ⟨_, rfl⟩
  have l2 : listB (natG (covM f n s (bookL f n))) M (covM f n s (bookL f n)).length = true := by
    rw [hpm]
    refine listB_filt pm 6 fun y hy => ?_
    rw [← hpm] at hy
    obtain ⟨_, i, hi, _, e⟩ := (m2 y).1 hy
    have := (g4 i hi).2.2
    omega
  have l3 : listB (natG (covM f n s (bookL f n))) (6 : Nat) (covM f n s (bookL f n)).length = true := by
    rw [hpm]
    refine listB_filt pm 6 fun y hy => ?_
    have := List.mem_range.1 (List.mem_filter.1 hy).1
    omega
  obtain ⟨r1, r2⟩ := rest_cover (f := f) (n := n) (S := s) (InL X) fun x hx h => ((k1 x ((inL_nat X x).1 h)).2)
  have c1 : cnt (fun x : Nat => (∃ i, i < n ∧ (f i).s = (x : Int)) ∧ ¬ InL X (x : Int)) s = (covS f n s (bookL f n)).length := by
    rw [← cnt_list l1]
    exact cnt_congr fun v hv => by rw [m1, inL_nat]; exact ⟨fun h => ⟨hv, h.1, h.2⟩, fun h => ⟨h.2.1, h.2.2⟩⟩
  have c2 : cnt (fun x : Nat => InL X (x : Int)) s = X.length := by
    rw [← k2]
    exact cnt_congr fun v _ => inL_nat X v
  have c3 : cnt (WantM f n (InL X)) 6 = (covM f n s (bookL f n)).length := by
    rw [← cnt_list l3]
    exact cnt_congr fun v hv => by rw [m2]; exact ⟨fun h => ⟨hv, h⟩, fun h => h.2⟩
  have hc : coverB f (covS f n s (bookL f n)).length (natG (covS f n s (bookL f n))) (covM f n s (bookL f n)).length (natG (covM f n s (bookL f n))) n = true := by
    rw [coverB_iff]
    intro i hi
    rcases r1 i hi with ⟨_, h⟩ | h
    · refine .inl ?_
      obtain ⟨v, hv⟩ := Int.eq_ofNat_of_zero_le (hS i hi).1
      have := hS i hi
      rw [hv] at h ⊢
      exact (natG_has _ v).2 ((m1 v).2 ⟨by omega, ⟨i, hi, hv⟩, fun hm => h ((inL_nat X v).2 hm)⟩)
    · refine .inr ?_
      obtain ⟨v, hv⟩ := Int.eq_ofNat_of_zero_le (hT i hi).1
      have := hT i hi
      rw [hv] at h ⊢
      obtain ⟨j, hj, a, e⟩ := h
      exact (natG_has _ v).2 ((m2 v).2 ⟨by omega, j, hj, a, e⟩)
  refine ⟨by rw [coverE, if_pos hE, if_pos ⟨l1, l2⟩, if_pos hc], ?_, ?_, ?_⟩
  · unfold tooFewK at k3
    rw [c1, c2] at r2
    rw [c3] at k3
    omega
  · rw [← cnt_list l1]; exact cnt_atmost _ _
  · rw [← cnt_list l2]; exact cnt_atmost _ _
/-- No list of a day has more wants than a cover has numbers. -/
theorem list_cover (hE : bookE s M n f = 0) {ns nm : Nat} {sh mo : Nat → Int} (h1 : coverE s M n f ns sh nm mo = 0) : (bestOf f n).length ≤ ns + nm := by
  obtain ⟨g1, g2, g3, g4⟩ := id hG
  have hS : ∀ i, i < n → 0 ≤ (f i).s ∧ (f i).s < s := fun i hi => (g4 i hi).1
  have hT : ∀ i, i < n → 0 ≤ (f i).m ∧ (f i).m < M := fun i hi => (g4 i hi).2
  rw [coverE, if_pos hE] at h1
  by_cases hl : listB sh s ns = true ∧ listB mo M nm = true
  · rw [if_pos hl] at h1
    by_cases hc : coverB f ns sh nm mo n = true
    · have hb := best_most f n
      have := cover_most hS hT hb.1 ((coverB_iff f ns sh nm mo n).1 hc)
      rw [hb.2.1, listB_cnt hl.1, listB_cnt hl.2] at this
      exact this
    · rw [if_neg hc] at h1; omega
  · rw [if_neg hl] at h1; omega
end
end Go.Proofs.Ytbjgbgchagfokaa

namespace Go.Proofs.Ytbjgbgchagfokaa
open Classical

section
variable {f : Nat → W2} {n S D G : Nat} {d : Nat → Nat}
/-- If each shop has as many wants as there are different days, each of these has a want of each shop, and no more. -/
theorem even_day (hS : ∀ i, i < n → 0 ≤ (f i).s ∧ (f i).s < S) (hR : Right f n D d) (he : ∀ x : Nat, x < S → cnt (Used n d) D ≤ many (fun i => (f i).s) x n) (a : Nat) (ha : Used n d a) : cnt (fun i => d i = a) n = S := by
  rw [← list_shops hS (day_list hR a)]
  exact cnt_all fun x hx => by
    obtain ⟨i, hi, e1, e2⟩ := full_day hR x (he x hx) a ha
    exact ⟨i, hi, e2, e1⟩
/-- On some day there are as many wants as all, divided by the days, rounded up. -/
theorem most_day (hR : Right f n D d) {m : Nat} (hm : ∀ a, cnt (fun i => d i = a) n ≤ m) : n ≤ m * cnt (Used n d) D := by
  have h1 := days_full d D n hR.1
  have h2 := days_least n d m hm D
  omega
/-- No day has more wants than a greatest list. -/
theorem day_most (hR : Right f n D d) {M : Nat → Prop} (hmax : ∀ M', Day f n M' → cnt M' n ≤ cnt M n) (a : Nat) : cnt (fun i => d i = a) n ≤ cnt M n := hmax _ (day_list hR a)
/-- The fewest days, with numbers below the greatest load, are first among all days with so few different numbers. -/
theorem fewest_least (hG : IsGreatest f n G) (hR : Right f n D d) : G ≤ cnt (Used n d) D := greatest_right hG hR
/-- The document's own search needs its first number of days only. -/
theorem search_found (hG : IsGreatest f n G) {l : Option (Nat → Nat)} (h : ∀ p, l = none → Nones f n G 0 p) : ∃ d, l = some d := by
  cases l with
  | some d => exact ⟨d, rfl⟩
  | none =>
    obtain ⟨e, he⟩ := greatest_days hG
    exact absurd (fun j hj => by omega) (h e rfl e he)
/-- The greatest load is no more than there are wants. -/
theorem greatest_le (hG : IsGreatest f n G) : G ≤ n := (hG n).1 ⟨fun x => by rw [many_cnt]; exact cnt_atmost _ _, fun x => by rw [many_cnt]; exact cnt_atmost _ _⟩
/-- With wants there is a day. -/
theorem greatest_pos (hG : IsGreatest f n G) (hn : 0 < n) : 0 < G := by
  have h1 := ((hG G).2 (Nat.le_refl _)).1 (f 0).s
  rw [many_cnt] at h1
  have h2 := cnt_less (p := fun _ => False) (q := fun i => (f i).s = (f 0).s) (v := 0) hn (fun h => h) rfl fun i _ h => h.elim
  omega
end

end Go.Proofs.Ytbjgbgchagfokaa

namespace Go.Proofs.Ytbjgbgchagfokaa
open Go Go.RowKit

/-- The wants of a day. -/
def sameL (d : Nat → Nat) (v k : Nat) : List Nat := (List.range k).filter fun i => decide (d i = v)
theorem sameL_succ (d : Nat → Nat) (v k : Nat) : sameL d v (k + 1) = sameL d v k ++ if d k = v then [k] else [] := by
  unfold sameL
  rw [List.range_succ, List.filter_append]
  congr 1
  by_cases h : d k = v <;> simp [h]
theorem sameL_len (d : Nat → Nat) (v k : Nat) : (sameL d v k).length ≤ k := by
  have := List.length_filter_le (fun i => decide (d i = v)) (List.range k)
  rw [List.length_range] at this
  exact this
theorem sameL_list (d : Nat → Nat) (v n : Nat) : listB (natG (sameL d v n)) n (sameL d v n).length = true := listB_filt _ n fun y hy => by
  have := List.mem_range.1 (List.mem_filter.1 hy).1
  omega
theorem sameL_mem (d : Nat → Nat) (v n i : Nat) : i ∈ sameL d v n ↔ i < n ∧ d i = v := by
  rw [sameL, List.mem_filter, List.mem_range, decide_eq_true_eq]
theorem sameL_day {f : Nat → W2} {n D : Nat} {d : Nat → Nat} (hR : Right f n D d) (v : Nat) : dayB f (natG (sameL d v n)) (sameL d v n).length = true := by
  rw [dayB_day (sameL_list d v n)]
  intro i k hi hk a b hne
  have a' := (sameL_mem d v n i).1 ((natG_has _ i).1 a)
  have b' := (sameL_mem d v n k).1 ((natG_has _ k).1 b)
  exact hR.2 i k hi hk hne (by rw [a'.2, b'.2])
theorem sameL_cnt (d : Nat → Nat) (v n : Nat) : (sameL d v n).length = cnt (fun i => d i = v) n := by
  rw [← cnt_list (sameL_list d v n)]
  exact cnt_congr fun i hi => by rw [sameL_mem]; exact ⟨fun h => h.2, fun h => ⟨hi, h⟩⟩

/-- Are the first so many all this number. -/
def evenF (h : Nat → Int) (D : Int) (b : Bool) : Nat → Bool
  | 0 => b
  | k + 1 => evenF h D b k && decide (h k = D)
theorem evenF_iff (h : Nat → Int) (D : Int) (b : Bool) : ∀ k, evenF h D b k = true ↔ b = true ∧ ∀ i, i < k → h i = D
  | 0 => ⟨fun h => ⟨h, fun i hi => absurd hi (Nat.not_lt_zero _)⟩, fun h => h.1⟩
  | k + 1 => by
    rw [evenF, Bool.and_eq_true, evenF_iff h D b k, decide_eq_true_eq]
    exact ⟨fun h => ⟨h.1.1, fun i hi => by
      by_cases e : i = k
      · rw [e]; exact h.2
      · exact h.1.2 i (by omega)⟩, fun h => ⟨⟨h.1, fun i hi => h.2 i (by omega)⟩, h.2 k (by omega)⟩⟩
/-- The most wants of the days of the first so many. -/
def mostD (d : Nat → Nat) (n : Nat) : Nat → Nat
  | 0 => 0
  | k + 1 => max (mostD d n k) (sameL d (d k) n).length
theorem mostD_ge (d : Nat → Nat) (n : Nat) {i : Nat} : ∀ {k}, i < k → (sameL d (d i) n).length ≤ mostD d n k
  | 0, hi => absurd hi (Nat.not_lt_zero _)
  | k + 1, hi => by
    unfold mostD
    by_cases e : i = k
    · rw [e]; exact Nat.le_max_right _ _
    · exact Nat.le_trans (mostD_ge d n (by omega)) (Nat.le_max_left _ _)
theorem mostD_le {d : Nat → Nat} {n m : Nat} (h : ∀ v, (sameL d v n).length ≤ m) : ∀ k, mostD d n k ≤ m
  | 0 => Nat.zero_le _
  | k + 1 => Nat.max_le.2 ⟨mostD_le h k, h _⟩
theorem most_enough {f : Nat → W2} {n D : Nat} {d : Nat → Nat} (hG : IsGreatest f n D) (hR : Right f n D d) : n ≤ mostD d n n * D := by
  have h := most_day hR (m := mostD d n n) fun a => by
    by_cases h : ∃ i, i < n ∧ d i = a
    · obtain ⟨i, hi, e⟩ := h
      rw [← sameL_cnt, ← e]
      exact mostD_ge d n hi
    · rw [cnt_none fun i hi e => h ⟨i, hi, e⟩]
      exact Nat.zero_le _
  rwa [greatest_used hG hR] at h
theorem most_best {f : Nat → W2} {n D : Nat} {d : Nat → Nat} (hR : Right f n D d) : mostD d n n ≤ (bestOf f n).length :=
  mostD_le (fun v => list_best (sameL_list d v n) (sameL_day hR v)) n
theorem even_all {s M n D : Nat} {f : Nat → W2} {d : Nat → Nat} (hGB : GoodBook s M n f) (hG : IsGreatest f n D) (hR : Right f n D d) (he : ∀ x, x < s → bookL f n x = (D : Int)) {i : Nat} (hi : i < n) : (sameL d (d i) n).length = s := by
  obtain ⟨g1, g2, g3, g4⟩ := id hGB
  rw [sameL_cnt]
  refine even_day (S := s) (fun i hi => (g4 i hi).1) hR (fun x hx => ?_) (d i) ⟨i, hi, rfl⟩
  have h1 := he x hx
  have h2 : bookL f n x = (many (fun i => (f i).s) x n : Int) := ldF_shop (by omega) fun i hi => (g4 i hi).2.1
  rw [greatest_used hG hR]
  omega
end Go.Proofs.Ytbjgbgchagfokaa

namespace Go.Proofs.Ytbjgbgchagfokaa
open Go Go.RowKit Go.Shelf

theorem bits_listT (n : Nat) (x : Int) : listB (natG (bitsL n x)) n (bitsL n x).length = true := listB_filt _ n fun y hy => by
  have := List.mem_range.1 (List.mem_filter.1 hy).1
  omega
theorem cover_named {s m : Nat} {a : Option Addr} {n cap : Nat} {f : Nat → W2} {X Y : List Nat} {p q : Option Addr} {c d : Nat} {E N : Int} {w : World} (hE : coverE s m n f X.length (natG X) Y.length (natG Y) = E) (hN : coverN E X.length Y.length = N) (hb : bookE s m n f = 0) (hx : X.length ≤ 1048576) (hy : Y.length ≤ 1048576)
    (hf : Wants w a n f) (hp : Lst w X p c) (hq : Lst w Y q d) :
    Calls Try.prog 27 #[bookV s m a n cap, .slice p X.length c, .slice q Y.length d] w fun e w' => e = .returned (.tuple #[.int .i64 N, .int .i64 E]) ∧ Below w.heap.size w w' := by
  have hn := (book_good hb).2.2.1
  have h3 := CheckCover_yes_c s m a n cap f p X.length c (natG X) q Y.length d (natG Y) w hf (by omega) hp.cells hx hq.cells hy hb
  rw [hE, hN] at h3
  exact h3
theorem list_named {s m : Nat} {a : Option Addr} {n cap : Nat} {f : Nat → W2} {X : List Nat} {p : Option Addr} {c : Nat} {E : Int} {w : World} (hE : (if listB (natG X) n X.length = true then (if apartAll f n (natG X) X.length = true then (0 : Int) else 18) else 3) = E) (hb : bookE s m n f = 0) (hx : X.length ≤ 1048576)
    (hf : Wants w a n f) (hp : Lst w X p c) :
    Calls Try.prog 30 #[bookV s m a n cap, .slice p X.length c] w fun e w' => e = .returned (.int .i64 E) ∧ Below w.heap.size w w' := by
  have hn := (book_good hb).2.2.1
  have h3 := CheckList_yes_c s m a n cap f p X.length c (natG X) w hf (by omega) hp.cells hx hp.room hp.fit hb
  rw [hE] at h3
  exact h3
theorem ints_same {a b : Option Addr} {n c d : Nat} {g : Nat → Int} {w : World} (h1 : Ints w a n g) (h2 : Ints w b n g) (hn : n ≤ 1048576) :
    Calls Try.prog 24 #[.slice a n c, .slice b n d] w fun e w' => e = .returned (.bool true) ∧ Below w.heap.size w w' := by
  have h3 := Ints_c a n c g b n d g w h1 h2 hn
  rw [intsB_yes fun i _ => rfl] at h3
  exact h3

end Go.Proofs.Ytbjgbgchagfokaa

namespace Go.Proofs.Ytbjgbgchagfokaa
open Go Go.RowKit Go.Shelf

set_option maxRecDepth 100000 in
set_option maxHeartbeats 16000000 in
theorem law_full_c (S M : Int) (a : Option Addr) (n cap : Nat) (f : Nat → W2) (ba : Option Addr) (bn bcap : Nat) (g : Nat → Int) (z : Int) (w : World) (hf : Wants w a n f) (hg : Cells w ba bn fun i => .int .u8 (g i)) (hgr : ∀ i, i < bn → 0 ≤ g i ∧ g i ≤ 255) (hz : 0 ≤ z ∧ z ≤ 255) :
    Calls Try.prog 10 #[bookV S M a n cap, .slice ba bn bcap, .int .u8 z] w fun e w' => e = .returned (.bool true) ∧ Below w.heap.size w w' := by
  obtain ⟨y, rfl⟩ := Int.eq_ofNat_of_zero_le hz.1
  obtain ⟨W, hW⟩ : ∃ W, w.alloc (.cells #[.int .i64 S, .int .i64 M, .slice a n cap] 24) = W := ⟨_, rfl⟩
  have hB : Below w.heap.size w W := by rw [← hW]; exact Below.alloc1 (Below.refl _ _) _ (Nat.le_refl _)
  have hR : RowIs W w.heap.size #[.int .i64 S, .int .i64 M, .slice a n cap] 24 := by rw [← hW]; exact heap_new_at _ _ _ rfl
  have r0 : W.cell? ⟨w.heap.size, 0, none⟩ = some (.int .i64 S) := RowIs.cell hR 0
  have r1 : W.cell? ⟨w.heap.size, 1, none⟩ = some (.int .i64 M) := RowIs.cell hR 1
  have r2 : W.cell? ⟨w.heap.size, 2, none⟩ = some (.slice a n cap) := RowIs.cell hR 2
  have rz : w.heap.size < W.heap.size := hR.lt
  have HF := Lib.hid (hf.below hB)
  have HG := Lib.hid (Cells.below hg hB)
  have HR := Lib.hid hR
  clear hR hf hg
  cases hE : decide (bookE S M n f = 0) with
  | false =>
    have HC := Lib.hid (fun (x : World) (h : Wants x a n f) => fine_c S M a n cap f x h)
    rw [hE] at HC
    clear hE
    go_enter Try.func10, Try.ntmps10
    go_wp2_with fail
    refine (HC.out _ HF.out).mono ?_
    rintro e w1 ⟨rfl, hb1⟩
    go_wp2_with fail
    refine (works_c _).mono ?_
    rintro e w2 ⟨rfl, hb2⟩
    go_wp2_with fail
    go_ret
    exact ⟨rfl, bup hB (bup hb1 hb2)⟩
  | true =>
    have HC := Lib.hid (fun (x : World) (h : Wants x a n f) => fine_c S M a n cap f x h)
    rw [hE] at HC
    have hE0 := of_decide_eq_true hE
    clear hE
    have hGB := book_good hE0
    obtain ⟨s, rfl⟩ : ∃ s : Nat, S = s := ⟨S.toNat, by have := hGB.1; omega⟩
    obtain ⟨m, rfl⟩ : ∃ m : Nat, M = m := ⟨M.toNat, by have := hGB.2.1; omega⟩
    have hn14 := hGB.2.2.1
    have hs6 : s ≤ 6 := by have := hGB.1; omega
    have hm6 : m ≤ 6 := by have := hGB.2.1; omega
    have HE := Lib.hid hE0
    have HGB := Lib.hid hGB
    have HGR := Lib.hid hgr
    clear hE0 hGB hgr
    by_cases hn0 : n = 0
    · subst hn0
      go_enter Try.func10, Try.ntmps10
      go_wp2_with fail
      refine (HC.out _ HF.out).mono ?_
      rintro e w1 ⟨rfl, hb1⟩
      have q2 := (hb1.cell (p := ⟨w.heap.size, 2, none⟩) rz).trans r2
      have q0 := (hb1.cell (p := ⟨w.heap.size, 0, none⟩) rz).trans r0
      have q1 := (hb1.cell (p := ⟨w.heap.size, 1, none⟩) rz).trans r1
      go_wp2_with fail
      refine (works_c _).mono ?_
      rintro e w2 ⟨rfl, hb2⟩
      go_wp2_with fail
      go_ret
      exact ⟨rfl, bup hB (bup hb1 hb2)⟩
    have hnp : 0 < n := by omega
    have tn0 : ((n : Int) == 0) = false := by simp; omega
    by_cases hbn : 40 < bn
    · have t0 : decide ((40 : Int) < (bn : Int)) = true := by simp; omega
      go_enter Try.func10, Try.ntmps10
      go_wp2_with fail
      refine (HC.out _ HF.out).mono ?_
      rintro e w1 ⟨rfl, hb1⟩
      have q2 := (hb1.cell (p := ⟨w.heap.size, 2, none⟩) rz).trans r2
      have q0 := (hb1.cell (p := ⟨w.heap.size, 0, none⟩) rz).trans r0
      have q1 := (hb1.cell (p := ⟨w.heap.size, 1, none⟩) rz).trans r1
      go_wp2_with fail
      refine (works_c _).mono ?_
      rintro e w2 ⟨rfl, hb2⟩
      go_wp2_with fail
      go_ret
      exact ⟨rfl, bup hB (bup hb1 hb2)⟩
    have hb40 : bn ≤ 40 := by omega
    have t0 : decide ((40 : Int) < (bn : Int)) = false := by simp; omega
    clear hbn
    go_enter Try.func10, Try.ntmps10
    go_wp2_with fail
    refine (HC.out _ HF.out).mono ?_
    rintro e w1 ⟨rfl, hb1⟩
    replace HG := Lib.hid (Cells.below HG.out hb1)
    replace HF := Lib.hid (HF.out.below hb1)
    replace HR := Lib.hid (RowIs.below HR.out hb1)
    replace hB := bup hB hb1
    clear r0 r1 r2 rz hb1
    have r0 : w1.cell? ⟨w.heap.size, 0, none⟩ = some (.int .i64 s) := RowIs.cell HR.out 0
    have r1 : w1.cell? ⟨w.heap.size, 1, none⟩ = some (.int .i64 m) := RowIs.cell HR.out 1
    have r2 : w1.cell? ⟨w.heap.size, 2, none⟩ = some (.slice a n cap) := RowIs.cell HR.out 2
    have rz : w.heap.size < w1.heap.size := HR.out.lt
    go_wp2_with fail
    refine (Given_c s m a n cap f ba bn bcap g _ HF.out hn14 HG.out HGR.out hb40).mono ?_
    rintro e w2 ⟨pd, cd, x, rfl, hx, hLd, hRd, hb2⟩
    have LD := Lib.hid hLd
    have HRd := Lib.hid hRd
    replace HF := Lib.hid (HF.out.below hb2)
    replace HR := Lib.hid (RowIs.below HR.out hb2)
    replace hB := bup hB hb2
    clear r0 r1 r2 rz hb2
    have r0 : w2.cell? ⟨w.heap.size, 0, none⟩ = some (.int .i64 s) := RowIs.cell HR.out 0
    have r1 : w2.cell? ⟨w.heap.size, 1, none⟩ = some (.int .i64 m) := RowIs.cell HR.out 1
    have r2 : w2.cell? ⟨w.heap.size, 2, none⟩ = some (.slice a n cap) := RowIs.cell HR.out 2
    have rz : w.heap.size < w2.heap.size := HR.out.lt
    clear hLd hRd t0 tn0
    obtain ⟨q, hq⟩ : ∃ q, y % n = q := ⟨_, rfl⟩
    have hqn : q < n := by rw [← hq]; exact Nat.mod_lt _ hnp
    have ta : Int.tmod (y : Int) (n : Int) = (q : Int) := by rw [← hq]; exact (Int.ofNat_tmod y n).symm
    have tb : (y : Int) % (n : Int) = (q : Int) := by rw [← hq]; exact (Int.natCast_emod y n).symm
    have ty : IntKind.i64.wrap (y : Int) = (y : Int) := IntWalk.i64_in _ (by omega)
    obtain ⟨v0, hv0⟩ : ∃ v0, x.getD q 0 = v0 := ⟨_, rfl⟩
    have HV := Lib.hid hv0
    have Hx := Lib.hid hx
    have HB := Lib.hid hB
    clear hq hv0 hx hB
    go_wp2_with fail
    clear r0 r1 r2
    go_loopw [8, 9] (fun u i wr => ∃ (k : Nat) (v : Value), k ≤ n ∧ i = .int .i64 k ∧ v = u ∧ Own wr w2.heap.size (sameL (fun i => x.getD i 0) v0 k) v ∧ Below w2.heap.size w2 wr) (fun _ i _ => n - (intOf i).toNat)
    case atStart => exact ⟨0, _, Nat.zero_le _, rfl, rfl, own_nil _ _, Below.refl _ _⟩
    case round =>
      obtain ⟨k, v, hk, rfl, rfl, ho, hbr⟩ := hrel
      have hsz := hbr.size
      have hsl := sameL_len (fun i => x.getD i 0) v0 k
      have HO := Lib.hid ho
      have Hbr := Lib.hid hbr
      clear ho hbr
      by_cases hlt : k < n
      · obtain ⟨xb, xo, rfl, hxb, hxc⟩ := Cells.at (LD.out.below Hbr.out).cells k (by rw [Hx.out]; exact hlt)
        have ck : wr.cell? ⟨xb, xo + k, none⟩ = some (.int .i64 ((x.getD k 0 : Nat) : Int)) := hxc k (by rw [Hx.out]; exact hlt)
        have cq : wr.cell? ⟨xb, xo + q, none⟩ = some (.int .i64 ((x.getD q 0 : Nat) : Int)) := hxc q (by rw [Hx.out]; exact hqn)
        rw [HV.out] at cq
        obtain ⟨u, hu⟩ : ∃ u, x.getD k 0 = u := ⟨_, rfl⟩
        rw [hu] at ck
        have HU := Lib.hid hu
        clear hxc hu
        by_cases he : u = v0
        · subst he
          have t0 : ((u : Int) == (u : Int)) = true := by simp
          have hlc := fun (x : Later wr) => later_cell x
          go_wp2_with fail
          refine wp_region_later (by kernel_rfl) (by kernel_rfl) ?_
          repeat (go_big_quiet_step (fail))
          refine wpQuiet_nil ?_
          clear hlc
          rintro ⟨w3, hb3⟩
          obtain ⟨X, hX⟩ : ∃ X, w3.alloc (.cells #[.int .i64 (k : Int)] 3) = X := ⟨_, rfl⟩
          have hXr : RowIs X w3.heap.size #[.int .i64 (k : Int)] 3 := by rw [← hX]; exact heap_new_at _ _ _ rfl
          have hXo : Own X w2.heap.size (sameL (fun i => x.getD i 0) u k) v := by rw [← hX]; exact (HO.out.below hb3).alloc _
          have hXb : Below w3.heap.size w3 X := by rw [← hX]; exact Below.alloc1 (Below.refl _ _) _ (Nat.le_refl _)
          have hz3 := hb3.size
          obtain ⟨v', A', hrun, hown', hgr, hbA⟩ := hXo.append w3.heap.size k hXr (by have := hXb.size; omega) (by omega)
          have Hown := Lib.hid hown'
          have HbX := Lib.hid (((bup Hbr.out hb3).trans (hXb.mono (by omega))).trans hbA)
          clear hXr hXo hown' hgr hXb hbA
          go_wp2_with (at_builtin; refine wpList_append_run rfl _ _ 25 rfl rfl rfl hrun ?_)
          go_roundw
          case rel => exact ⟨k + 1, _, by omega, by go_num, rfl, by rw [sameL_succ, if_pos HU.out]; exact Hown.out, HbX.out⟩
          case measure => simp [intOf]; omega
        · have t0 : ((u : Int) == (v0 : Int)) = false := by simp; omega
          have hlc := fun (x : Later wr) => later_cell x
          go_wp2_with fail
          refine wp_region_later (by kernel_rfl) (by kernel_rfl) ?_
          repeat (go_big_quiet_step (fail))
          refine wpQuiet_nil ?_
          clear hlc
          rintro ⟨w3, hb3⟩
          have HNE := Lib.hid he
          clear he
          go_wp2_with fail
          go_roundw
          case rel => exact ⟨k + 1, _, by omega, by go_num, rfl, by rw [sameL_succ, if_neg (by rw [HU.out]; exact HNE.out), List.append_nil]; exact HO.out.below hb3, bup Hbr.out hb3⟩
          case measure => simp [intOf]; omega
      · obtain rfl : k = n := by omega
        obtain ⟨pl, cl, rfl, hLl, -⟩ := HO.out.lst
        have LL := Lib.hid hLl
        replace HF := Lib.hid (HF.out.below Hbr.out)
        replace HR := Lib.hid (RowIs.below HR.out Hbr.out)
        replace HB := Lib.hid (bup HB.out Hbr.out)
        have hB := HB.out
        clear hLl HO Hbr HB
        have hdl := sameL_list (fun i => x.getD i 0) v0 k
        have hdd := sameL_day HRd.out v0
        obtain ⟨Y, hY⟩ : ∃ Y, sameL (fun i => x.getD i 0) v0 k = Y := ⟨_, rfl⟩
        obtain ⟨L, hL⟩ : ∃ L, (bestOf f k).length = L := ⟨_, rfl⟩
        have hyl : Y.length ≤ L := by rw [← hL, ← hY]; exact list_best hdl hdd
        have hll : L ≤ k := by rw [← hL, ← (best_most f k).2.1]; exact cnt_atmost _ _
        have hcz : (if listB (natG Y) k Y.length = true then (if apartAll f k (natG Y) Y.length = true then (0 : Int) else 18) else 3) = 0 := by rw [← hY, if_pos hdl, if_pos (by rw [apart_day hdl]; exact hdd)]
        have HCZ := Lib.hid hcz
        have HBC := Lib.hid (fun (x : World) (h : Wants x a k f) => best_c s m a k cap f x h HE.out)
        simp only [hL] at HBC
        have HL := Lib.hid hL
        rw [hY] at LL ⊢
        clear hdl hdd hY hcz hL LD HG HGR ta tb ty hqn HV hsl
        have r0 : wr.cell? ⟨w.heap.size, 0, none⟩ = some (.int .i64 s) := RowIs.cell HR.out 0
        have r1 : wr.cell? ⟨w.heap.size, 1, none⟩ = some (.int .i64 m) := RowIs.cell HR.out 1
        have r2 : wr.cell? ⟨w.heap.size, 2, none⟩ = some (.slice a k cap) := RowIs.cell HR.out 2
        have rz : w.heap.size < wr.heap.size := HR.out.lt
        go_wp2_with fail
        refine (few_c s m a k cap f _ HF.out HE.out).mono ?_
        rintro e w4 ⟨db, d, D, rfl, hrow, -, hb4, hD14, hGr, hFi⟩
        have HGr := Lib.hid hGr
        have HRt := Lib.hid ((hFi fun _ => 0).right)
        have HRW := Lib.hid hrow
        have hD1 : 1 ≤ D := greatest_pos hGr hnp
        replace HF := Lib.hid (HF.out.below hb4)
        replace HR := Lib.hid (RowIs.below HR.out hb4)
        replace LL := Lib.hid (LL.out.below hb4)
        replace hB := bup hB hb4
        clear r0 r1 r2 rz hb4
        have r0 : w4.cell? ⟨w.heap.size, 0, none⟩ = some (.int .i64 s) := RowIs.cell HR.out 0
        have r1 : w4.cell? ⟨w.heap.size, 1, none⟩ = some (.int .i64 m) := RowIs.cell HR.out 1
        have r2 : w4.cell? ⟨w.heap.size, 2, none⟩ = some (.slice a k cap) := RowIs.cell HR.out 2
        have rz : w.heap.size < w4.heap.size := HR.out.lt
        clear hGr hFi hrow
        go_wp2_with fail
        refine (HBC.out _ HF.out).mono ?_
        rintro e w5 ⟨pb, cb, rfl, -, hb5⟩
        replace HRW := Lib.hid (RowIs.below HRW.out hb5)
        replace HF := Lib.hid (HF.out.below hb5)
        replace HR := Lib.hid (RowIs.below HR.out hb5)
        replace LL := Lib.hid (LL.out.below hb5)
        replace hB := bup hB hb5
        clear r0 r1 r2 rz hb5
        have r0 : w5.cell? ⟨w.heap.size, 0, none⟩ = some (.int .i64 s) := RowIs.cell HR.out 0
        have r1 : w5.cell? ⟨w.heap.size, 1, none⟩ = some (.int .i64 m) := RowIs.cell HR.out 1
        have r2 : w5.cell? ⟨w.heap.size, 2, none⟩ = some (.slice a k cap) := RowIs.cell HR.out 2
        have rz : w.heap.size < w5.heap.size := HR.out.lt
        go_wp2_with fail
        refine (mLoads_yes_c s m a k cap f _ HF.out (by omega) HE.out).mono ?_
        rintro e w6 ⟨b1, b2, rfl, h1, h2, -, -, -, hb6⟩
        have H1 := Lib.hid h1
        have H2 := Lib.hid h2
        replace HRW := Lib.hid (RowIs.below HRW.out hb6)
        replace HF := Lib.hid (HF.out.below hb6)
        replace HR := Lib.hid (RowIs.below HR.out hb6)
        replace LL := Lib.hid (LL.out.below hb6)
        replace hB := bup hB hb6
        clear r0 r1 r2 rz hb6
        have r0 : w6.cell? ⟨w.heap.size, 0, none⟩ = some (.int .i64 s) := RowIs.cell HR.out 0
        have r1 : w6.cell? ⟨w.heap.size, 1, none⟩ = some (.int .i64 m) := RowIs.cell HR.out 1
        have r2 : w6.cell? ⟨w.heap.size, 2, none⟩ = some (.slice a k cap) := RowIs.cell HR.out 2
        have rz : w.heap.size < w6.heap.size := HR.out.lt
        clear h1 h2 HBC
        have tD : decide ((D : Int) < 1) = false := by simp; omega
        go_wp2_with fail
        refine (list_named (cap := cap) HCZ.out HE.out (by omega) HF.out LL.out).mono ?_
        rintro e w7 ⟨rfl, hb7⟩
        replace HRW := Lib.hid (RowIs.below HRW.out hb7)
        replace H1 := Lib.hid (RowIs.below H1.out hb7)
        replace H2 := Lib.hid (RowIs.below H2.out hb7)
        replace HF := Lib.hid (HF.out.below hb7)
        replace HR := Lib.hid (RowIs.below HR.out hb7)
        replace hB := bup hB hb7
        clear r0 r1 r2 rz hb7
        have r0 : w7.cell? ⟨w.heap.size, 0, none⟩ = some (.int .i64 s) := RowIs.cell HR.out 0
        have r1 : w7.cell? ⟨w.heap.size, 1, none⟩ = some (.int .i64 m) := RowIs.cell HR.out 1
        have r2 : w7.cell? ⟨w.heap.size, 2, none⟩ = some (.slice a k cap) := RowIs.cell HR.out 2
        have rz : w.heap.size < w7.heap.size := HR.out.lt
        clear LL HCZ
        have HB := Lib.hid hB
        clear hB
        go_wp2_with fail
        clear tD r0 r1 r2
        go_loopw [18, 19] (fun b i wr => ∃ j : Nat, j ≤ s ∧ i = .int .i64 j ∧ b = .bool (evenF (bookL f k) D true j) ∧ Below w7.heap.size w7 wr) (fun _ i _ => s - (intOf i).toNat)
        case atStart => exact ⟨0, Nat.zero_le _, rfl, rfl, Below.refl _ _⟩
        case round =>
          obtain ⟨j, hj, rfl, rfl, hby⟩ := hrel
          by_cases hlt : j < s
          · have ck : wr.cell? ⟨b1, j, none⟩ = some (.int .i64 (bookL f k j)) := (RowIs.cell (RowIs.below H1.out hby) j).trans (rowA_get _ _ _ hlt)
            have hz1 := (RowIs.below H1.out hby).lt
            cases hev : evenF (bookL f k) D true j with
            | true =>
              by_cases he : bookL f k j = (D : Int)
              · have t0 : (bookL f k j == (D : Int)) = true := by simp [he]
                have HNE := Lib.hid he
                have HEV := Lib.hid hev
                clear he hev
                go_wp2_with fail
                go_roundw
                case rel => exact ⟨j + 1, by omega, by go_num, by rw [evenF, HEV.out, decide_eq_true HNE.out]; rfl, hby⟩
                case measure => simp [intOf]; omega
              · have t0 : (bookL f k j == (D : Int)) = false := by simp [he]
                have HNE := Lib.hid he
                have HEV := Lib.hid hev
                clear he hev
                go_wp2_with fail
                go_roundw
                case rel => exact ⟨j + 1, by omega, by go_num, by rw [evenF, HEV.out, decide_eq_false HNE.out]; rfl, hby⟩
                case measure => simp [intOf]; omega
            | false =>
              have HEV := Lib.hid hev
              clear hev
              go_wp2_with fail
              go_roundw
              case rel => exact ⟨j + 1, by omega, by go_num, by rw [evenF, HEV.out]; rfl, hby⟩
              case measure => simp [intOf]; omega
          · obtain rfl : j = s := by omega
            go_wp2_with fail
            go_loopw [18, 20] (fun b i wz => ∃ j2 : Nat, j2 ≤ m ∧ i = .int .i64 j2 ∧ b = .bool (evenF (fun y => bookL f k (6 + y)) D (evenF (bookL f k) D true j) j2) ∧ Below w7.heap.size w7 wz) (fun _ i _ => m - (intOf i).toNat)
            case atStart => exact ⟨0, Nat.zero_le _, rfl, rfl, hby⟩
            case round =>
              obtain ⟨j2, hj2, rfl, rfl, hbz⟩ := hrel
              by_cases hlt : j2 < m
              · have ck : wr.cell? ⟨b2, j2, none⟩ = some (.int .i64 (bookL f k (6 + j2))) := (RowIs.cell (RowIs.below H2.out hbz) j2).trans (rowA_get _ _ _ hlt)
                have hz1 := (RowIs.below H2.out hbz).lt
                cases hev : evenF (fun y => bookL f k (6 + y)) D (evenF (bookL f k) D true j) j2 with
                | true =>
                  by_cases he : bookL f k (6 + j2) = (D : Int)
                  · have t0 : (bookL f k (6 + j2) == (D : Int)) = true := by simp [he]
                    have HNE := Lib.hid he
                    have HEV := Lib.hid hev
                    clear he hev
                    go_wp2_with fail
                    go_roundw
                    case rel => exact ⟨j2 + 1, by omega, by go_num, by rw [evenF, HEV.out, decide_eq_true HNE.out]; rfl, hbz⟩
                    case measure => simp [intOf]; omega
                  · have t0 : (bookL f k (6 + j2) == (D : Int)) = false := by simp [he]
                    have HNE := Lib.hid he
                    have HEV := Lib.hid hev
                    clear he hev
                    go_wp2_with fail
                    go_roundw
                    case rel => exact ⟨j2 + 1, by omega, by go_num, by rw [evenF, HEV.out, decide_eq_false HNE.out]; rfl, hbz⟩
                    case measure => simp [intOf]; omega
                | false =>
                  have HEV := Lib.hid hev
                  clear hev
                  go_wp2_with fail
                  go_roundw
                  case rel => exact ⟨j2 + 1, by omega, by go_num, by rw [evenF, HEV.out]; rfl, hbz⟩
                  case measure => simp [intOf]; omega
              · obtain rfl : j2 = m := by omega
                obtain ⟨EV, hEV⟩ : ∃ EV, evenF (fun y => bookL f k (6 + y)) D (evenF (bookL f k) D true j) j2 = EV := ⟨_, rfl⟩
                rw [hEV]
                have HEV := Lib.hid hEV
                clear hEV
                go_wp2_with fail
                go_loopw [21, 22, 23, 24] (fun mo i _ _ wx => ∃ i2 : Nat, i2 ≤ k ∧ i = .int .i64 i2 ∧ mo = .int .i64 (mostD d k i2) ∧ Below w7.heap.size w7 wx) (fun _ i _ _ _ => k - (intOf i).toNat)
                case atStart => exact ⟨0, Nat.zero_le _, rfl, rfl, hbz⟩
                case round =>
                  obtain ⟨i2, hi2, rfl, rfl, hbx⟩ := hrel
                  by_cases hlt : i2 < k
                  · go_wp2_with fail
                    go_loopw [23, 24] (fun mn j wi => ∃ j3 : Nat, j3 ≤ k ∧ j = .int .i64 j3 ∧ mn = .int .i64 ((sameL d (d i2) j3).length : Nat) ∧ Below w7.heap.size w7 wi) (fun _ j _ => k - (intOf j).toNat)
                    case atStart => exact ⟨0, Nat.zero_le _, rfl, rfl, hbx⟩
                    case round =>
                      obtain ⟨j3, hj3, rfl, rfl, hbi⟩ := hrel
                      have hsl := sameL_len d (d i2) j3
                      by_cases hq : j3 < k
                      · have hrow := RowIs.below HRW.out hbi
                        have c1 : wr.cell? ⟨db, j3, none⟩ = some (.int .i64 ((d j3 : Nat) : Int)) := (RowIs.cell hrow j3).trans (rowA_get _ _ _ hq)
                        have c2 : wr.cell? ⟨db, i2, none⟩ = some (.int .i64 ((d i2 : Nat) : Int)) := (RowIs.cell hrow i2).trans (rowA_get _ _ _ hlt)
                        have hz1 := hrow.lt
                        have hlc := fun (x : Later wr) => later_cell x
                        have hw1 : IntKind.i64.wrap (((sameL d (d i2) j3).length : Int) + 1) = ((sameL d (d i2) j3).length : Int) + 1 := IntWalk.i64_in _ (by omega)
                        clear hrow
                        by_cases he : d j3 = d i2
                        · have t0 : ((d j3 : Int) == (d i2 : Int)) = true := by simp [he]
                          have HNE := Lib.hid he
                          clear he
                          go_wp2_with fail
                          refine wp_region_later (by kernel_rfl) (by kernel_rfl) ?_
                          repeat (go_big_quiet_step (fail))
                          refine wpQuiet_nil ?_
                          clear hlc
                          rintro ⟨w8, hb8⟩
                          go_wp2_with fail
                          go_roundw
                          case rel => exact ⟨j3 + 1, by omega, by go_num, by rw [sameL_succ, if_pos HNE.out, List.length_append]; rfl, bup hbi hb8⟩
                          case measure => simp [intOf]; omega
                        · have t0 : ((d j3 : Int) == (d i2 : Int)) = false := by simp; omega
                          have HNE := Lib.hid he
                          clear he
                          go_wp2_with fail
                          refine wp_region_later (by kernel_rfl) (by kernel_rfl) ?_
                          repeat (go_big_quiet_step (fail))
                          refine wpQuiet_nil ?_
                          clear hlc
                          rintro ⟨w8, hb8⟩
                          go_wp2_with fail
                          go_roundw
                          case rel => exact ⟨j3 + 1, by omega, by go_num, by rw [sameL_succ, if_neg HNE.out, List.append_nil], bup hbi hb8⟩
                          case measure => simp [intOf]; omega
                      · obtain rfl : j3 = k := by omega
                        have hr := RowIs.below HR.out hbi
                        have r0 : wr.cell? ⟨w.heap.size, 0, none⟩ = some (.int .i64 j) := RowIs.cell hr 0
                        have r1 : wr.cell? ⟨w.heap.size, 1, none⟩ = some (.int .i64 j2) := RowIs.cell hr 1
                        have r2 : wr.cell? ⟨w.heap.size, 2, none⟩ = some (.slice a j3 cap) := RowIs.cell hr 2
                        have rz2 := hr.lt
                        clear hr
                        have HMD := Lib.hid (show mostD d j3 (i2 + 1) = max (mostD d j3 i2) (sameL d (d i2) j3).length from rfl)
                        cases hev : EV with
                        | true =>
                          have hall := even_all HGB.out HGr.out HRt.out (fun x hx => ((evenF_iff _ _ _ _).1 ((evenF_iff _ _ _ _).1 (HEV.out.trans hev)).1).2 x hx) hlt
                          have tm : (((sameL d (d i2) j3).length : Int) != (j : Int)) = false := by rw [hall]; simp
                          clear hall
                          subst hev
                          go_wp2_with fail
                          go_roundw
                          case rel => exact ⟨i2 + 1, by omega, by go_num, by rw [HMD.out]; simp; omega, hbi⟩
                          case measure => simp [intOf]; omega
                        | false =>
                          subst hev
                          go_wp2_with fail
                          go_roundw
                          case rel => exact ⟨i2 + 1, by omega, by go_num, by rw [HMD.out]; simp; omega, hbi⟩
                          case measure => simp [intOf]; omega
                  · obtain rfl : i2 = k := by omega
                    have hme := most_enough HGr.out HRt.out
                    have hmb : mostD d i2 i2 ≤ L := by rw [← HL.out]; exact most_best HRt.out
                    obtain ⟨mo, hmo⟩ : ∃ mo, mostD d i2 i2 = mo := ⟨_, rfl⟩
                    rw [hmo] at hme hmb ⊢
                    clear hmo
                    have hp : mo * D ≤ 14 * 14 := Nat.mul_le_mul (by omega) hD14
                    obtain ⟨PP, hPP⟩ : ∃ PP, mo * D = PP := ⟨_, rfl⟩
                    rw [hPP] at hme hp
                    have hmul : (mo : Int) * (D : Int) = (PP : Int) := by rw [← hPP]; exact (Int.natCast_mul mo D).symm
                    have hw1 : IntKind.i64.wrap ((mo : Int) * (D : Int)) = (PP : Int) := by rw [hmul]; exact IntWalk.i64_in _ (by omega)
                    clear hPP hmul
                    go_wp2_with fail
                    refine (works_c _).mono ?_
                    rintro e w9 ⟨rfl, hb9⟩
                    go_wp2_with fail
                    go_ret
                    exact ⟨rfl, bup HB.out (bup hbx hb9)⟩

end Go.Proofs.Ytbjgbgchagfokaa

namespace Go.Proofs.Ytbjgbgchagfokaa
open Go Go.RowKit Go.ChangeShapes Go.WideShapes Go.ChangeAt

theorem own_full : ownKnob Try.prog.godebug = .none := by kernel_rfl
theorem laidOut_full : laidOutB Try.prog = true := by kernel_rfl

set_option maxRecDepth 100000 in
theorem full_lifted (os : Os) (started : os.Started) (H : Type) (enc : TypeId × Value → H) :
    ReturnsInHanded {} Try.checked os 10 .any (Rows.mouldFullSpec.pre6 enc Try.prog Try.f10 Rows.mouldFullRow.domain false) (Rows.mouldFullSpec.post enc Try.prog Try.f10 false true false false) := by
  refine returnsInHanded_of_change (C := Try.checked) own_full started (by kernel_rfl) Try.func10
    (ChangeSpec.witness6 (enc := enc) (C := Try.checked) false ⟨#[], #[.agg #[.int .i64 0, .int .i64 0, .slice .none 0 0], .slice .none 0 0, .int .u8 0], []⟩ 8 (by kernel_rfl) (by kernel_rfl) (by kernel_rfl) (by kernel_rfl)) ?_
  intro W base args ds gs before hval0 hW hcnd _
  have hval : ∀ (j : Nat) t v, Try.f10.params[j]? = some t → args[j]? = some v → Value.okWide Try.prog W .any base t v := hval0
  have hW' := hW
  obtain ⟨p, q, hA0, hV, rfl, hfz, hnd⟩ := hW
  have hA : DataW.TrodAll enc Try.prog W 0 (fun _ => true) true Try.f10.params.toList args.toList ds p := hA0
  rw [Try.params10] at hA hval
  obtain ⟨v0, vs0, d0, ds0, p0, q0, hargs, rfl, rfl, h0, r0⟩ := trodAll_cons hA
  obtain ⟨v1, vs1, d1, ds1, p1, q1, rfl, rfl, rfl, h1, r1⟩ := trodAll_cons r0
  obtain ⟨v2, vs2, d2, ds2, p2, q2, rfl, rfl, rfl, h2, r2⟩ := trodAll_cons r1
  obtain ⟨rfl, rfl, rfl⟩ := trodAll_nil r2
  obtain rfl : args = #[v0, v1, v2] := by cases args; simp_all
  obtain ⟨rfl, rfl⟩ := trodVars_none hV
  obtain ⟨S0, M0, a0, n0, cap0, f0, rfl, hF0⟩ := open_book (hval 0 24 v0 rfl rfl) h0
  obtain ⟨a1, n1, cap1, g1, rfl, hG1, hb1⟩ := open_bytes (hval 1 42 v1 rfl rfl) h1
  obtain ⟨z2, hz2, _, _, hw2⟩ := open_int Try.underlying5 (hval 2 5 v2 rfl rfl) h2
  subst hz2
  refine (law_full_c S0 M0 a0 n0 cap0 f0 a1 n1 cap1 g1 z2 W hF0 hG1 hb1 (wfu8 hw2)).mono fun e W' ⟨he, hb⟩ => ?_
  subst he
  have hlt := hW'.lt
  simp only [List.append_nil, List.mem_append] at hlt
  refine ⟨_, rfl, _, _, _, [], p0 ++ (p1 ++ (p2 ++ [])), [], hW', trodAll_mk1 (shut_bool Try.underlying4 true), ?_, rfl, hb.frame _, fun h => Bool.noConfusion h⟩
  exact trodAll_cons_mk (Below.trod laidOut_full (by kernel_rfl) (of_decide_eq_true (by kernel_rfl)) h0 hb fun x hx => hlt x (by simp [hx])) (trodAll_cons_mk (Below.trod laidOut_full (by kernel_rfl) (of_decide_eq_true (by kernel_rfl)) h1 hb fun x hx => hlt x (by simp [hx])) (trodAll_cons_mk (Below.trod laidOut_full (by kernel_rfl) (of_decide_eq_true (by kernel_rfl)) h2 hb fun x hx => hlt x (by simp [hx])) trodAll_mk0))

theorem full_holds : Rows.MouldFullSaid :=
  OpenClaim.holds_of_wide 10 Try.f10 rfl rfl rfl rfl rfl rfl rfl ⟨rfl, rfl, rfl, rfl, rfl⟩ rfl rfl rfl rfl rfl (by kernel_rfl) Try.func10 (by kernel_rfl)
    (of_decide_eq_true (by kernel_rfl)) (by unfold Func.isWrapper; first | (rw [if_pos (by decide +kernel)]; kernel_rfl) | (rw [if_neg (by decide +kernel)]; exact ⟨rfl, rfl⟩))
    (fun os started H enc _ => full_lifted os started H enc)
end Go.Proofs.Ytbjgbgchagfokaa
