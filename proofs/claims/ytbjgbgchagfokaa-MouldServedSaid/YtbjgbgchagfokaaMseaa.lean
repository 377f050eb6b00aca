/- For whatever arguments, the law MouldServed returns true, and each argument reads behind the call as it read before. No condition. -/
import Derived.Test.YtbjgbgchagfokaaProg
import Derived.Test.YtbjgbgchagfokaaBasaa
import Derived.Test.YtbjgbgchagfokaaBasbd
import Derived.Shelf.Abstract
import Derived.Test.YtbjgbgchagfokaaBasau
import Derived.Test.YtbjgbgchagfokaaBasap
import Derived.Test.YtbjgbgchagfokaaBasaz
import Derived.Test.YtbjgbgchagfokaaBasay
import Derived.Test.YtbjgbgchagfokaaBasba
import Derived.Test.YtbjgbgchagfokaaBasab
import Derived.Shelf.RegionOpen
import Derived.Test.YtbjgbgchagfokaaBasbc
import Derived.Test.YtbjgbgchagfokaaRows
import Derived.ProofKit
namespace Go.Proofs.Ytbjgbgchagfokaa
open Go Go.RowKit Go.ChangeShapes Go.WideShapes Go.Deep Go.Joins

theorem cellsU8 : Try.prog.cellsOf 5 = 1 := by kernel_rfl
theorem wfu16 {n : Int} (h : (Lit.int .u16 n).wf = true) : 0 ≤ n ∧ n ≤ 65535 := by
  simp [Lit.wf] at h
  have h1 : IntKind.u16.min = 0 := by decide
  have h2 : IntKind.u16.max = 65535 := by decide
  omega
theorem wfu8 {n : Int} (h : (Lit.int .u8 n).wf = true) : 0 ≤ n ∧ n ≤ 255 := by
  simp [Lit.wf] at h
  have h1 : IntKind.u8.min = 0 := by decide
  have h2 : IntKind.u8.max = 255 := by decide
  omega

section
variable {H : Type} {enc : TypeId × Value → H} {W : World} {sp : Nat → Bool}

set_option maxRecDepth 100000 in
theorem open_bytes {base : Nat} {v : Value} {d : DataW H} {p : List MemPlace} (hok : Value.okWide Try.prog W .any base 42 v) (h : DataW.Trod enc Try.prog W 0 sp true 42 v d p) :
    ∃ (a : Option Addr) (n cap : Nat) (f : Nat → Int), v = .slice a n cap ∧ (Cells W a n fun i => .int .u8 (f i)) ∧ ∀ i, i < n → 0 ≤ f i ∧ f i ≤ 255 := by
  obtain ⟨a, n, cap, rfl⟩ := okWide_slice Try.underlying42 hok
  obtain ⟨fuel, hf⟩ := h
  rcases open_ints Try.underlying42 Try.underlying5 cellsU8 hf with ⟨hcs, _⟩ | ⟨a', len, cap', zs, hcs, _, hl, _, hk, _, hi, hw⟩
  · simp [Value.cells] at hcs
    obtain ⟨rfl, rfl, rfl⟩ := hcs
    exact ⟨none, 0, 0, fun _ => 0, rfl, .inl rfl, fun i hi => absurd hi (Nat.not_lt_zero i)⟩
  · simp [Value.cells] at hcs
    obtain ⟨rfl, rfl, rfl⟩ := hcs
    have hlk : n ≤ zs.length := by rw [hk]; split <;> omega
    have hb : ∀ i, i < n → 0 ≤ zs.getD i 0 ∧ zs.getD i 0 ≤ 255 := fun i hin => by
      have hz : i < zs.length := by omega
      have e : zs.getD i 0 = zs[i] := by simp [List.getD, hz]
      rw [e]
      exact wfu8 (hw _ (List.getElem_mem hz))
    refine ⟨some a', n, cap, fun i => zs.getD i 0, rfl, ?_, hb⟩
    by_cases h0 : n = 0
    · exact .inl h0
    obtain ⟨b, off, rfl, hc⟩ := ints_at hi (by omega)
    exact .inr ⟨b, off, rfl, World.block_lt_of_cell? W _ (hc 0 (by omega)), fun i hin => hc i (by omega)⟩
end

end Go.Proofs.Ytbjgbgchagfokaa

namespace Go.Proofs.Ytbjgbgchagfokaa
open Go Go.RowKit Go.Shelf

/-- Is a mould wanted by one of these shops, as the document says it. -/
def wantB (f : Nat → W2) (g : Nat → Int) (len y : Nat) : Nat → Bool
  | 0 => false
  | k + 1 => wantB f g len y k || (decide ((f k).m = (y : Int)) && hasB g (f k).s len)
def wantR (f : Nat → W2) (n : Nat) (g : Nat → Int) (len k : Nat) : List Nat := (List.range k).filter fun y => wantB f g len y n
theorem wantR_len (f : Nat → W2) (n : Nat) (g : Nat → Int) (len k : Nat) : (wantR f n g len k).length ≤ k := by
  have := List.length_filter_le (fun y => wantB f g len y n) (List.range k)
  rw [List.length_range] at this
  exact this
theorem wantR_succ (f : Nat → W2) (n : Nat) (g : Nat → Int) (len k : Nat) : wantR f n g len (k + 1) = wantR f n g len k ++ if wantB f g len k n then [k] else [] := by
  unfold wantR
  rw [List.range_succ, List.filter_append]
  congr 1
  cases h : wantB f g len k n <;> simp [h]

set_option maxRecDepth 100000 in
set_option maxHeartbeats 8000000 in
theorem Wanted_c (s m : Nat) (a : Option Addr) (n cap : Nat) (f : Nat → W2) (la : Option Addr) (len lcap : Nat) (g : Nat → Int) (w : World) (hf : Wants w a n f) (hn : n ≤ 14) (hm : m ≤ 6) (hg : Ints w la len g) (hl : len ≤ 1048576) :
    Calls Try.prog 72 #[bookV s m a n cap, .slice la len lcap] w fun e w' => ∃ p c, e = .returned (.slice p (wantR f n g len m).length c) ∧ Lst w' (wantR f n g len m) p c ∧ Below w.heap.size w w' := by
  obtain ⟨W, hW⟩ : ∃ W, w.alloc (.cells #[.int .i64 s, .int .i64 m, .slice a n cap] 24) = W := ⟨_, rfl⟩
  have hB : Below w.heap.size w W := by rw [← hW]; exact Below.alloc1 (Below.refl _ _) _ (Nat.le_refl _)
  have hR : RowIs W w.heap.size #[.int .i64 s, .int .i64 m, .slice a n cap] 24 := by rw [← hW]; exact heap_new_at _ _ _ rfl
  have HR := Lib.hid hR
  have HF := Lib.hid (hf.below hB)
  have HG := Lib.hid (Cells.below hg hB)
  have HB := Lib.hid hB
  clear hR hf hg hB
  go_enter Try.func72, Try.ntmps72
  go_wp2_with fail
  clear hW
  go_loopw [5, 6, 7, 8] (fun x i _ _ wr => ∃ (k : Nat) (v : Value), k ≤ m ∧ i = .int .i64 k ∧ v = x ∧ Own wr W.heap.size (wantR f n g len k) v ∧ Below W.heap.size W wr) (fun _ i _ _ _ => m - (intOf i).toNat)
  case atStart => exact ⟨0, _, Nat.zero_le _, rfl, rfl, own_nil _ _, Below.refl _ _⟩
  case round =>
    obtain ⟨k, v, hk, rfl, rfl, ho, hbr⟩ := hrel
    have hsz := hbr.size
    have rz : w.heap.size < W.heap.size := HR.out.lt
    have hr := HR.out.below hbr
    have r0 : wr.cell? ⟨w.heap.size, 0, none⟩ = some (.int .i64 s) := RowIs.cell hr 0
    have r1 : wr.cell? ⟨w.heap.size, 1, none⟩ = some (.int .i64 m) := RowIs.cell hr 1
    have r2 : wr.cell? ⟨w.heap.size, 2, none⟩ = some (.slice a n cap) := RowIs.cell hr 2
    have HO := Lib.hid ho
    have Hbr := Lib.hid hbr
    clear hr ho hbr
    have hwl := wantR_len f n g len k
    by_cases hlt : k < m
    · go_wp2_with fail
      clear r0 r1 r2
      go_loopw [7, 8] (fun b j wi => ∃ (q : Nat), q ≤ n ∧ j = .int .i64 q ∧ b = .bool (wantB f g len k q) ∧ Own wi W.heap.size (wantR f n g len k) v ∧ Below W.heap.size W wi) (fun _ j _ => n - (intOf j).toNat)
      case atStart => exact ⟨0, Nat.zero_le _, rfl, rfl, HO.out, Hbr.out⟩
      case round =>
        obtain ⟨q, hq, rfl, rfl, ho, hbi⟩ := hrel
        clear HO Hbr hsz
        have hiz := hbi.size
        have hr := HR.out.below hbi
        have r0 : wr.cell? ⟨w.heap.size, 0, none⟩ = some (.int .i64 s) := RowIs.cell hr 0
        have r1 : wr.cell? ⟨w.heap.size, 1, none⟩ = some (.int .i64 m) := RowIs.cell hr 1
        have r2 : wr.cell? ⟨w.heap.size, 2, none⟩ = some (.slice a n cap) := RowIs.cell hr 2
        have HO := Lib.hid ho
        have Hbi := Lib.hid hbi
        clear hr ho hbi
        by_cases hqn : q < n
        · obtain ⟨wb, wo, rfl, hwb, ws, wm⟩ := Wants.at (HF.out.below Hbi.out) q hqn
          cases hb0 : wantB f g len k q with
          | true =>
            go_wp2_with fail
            go_roundw
            case rel => exact ⟨q + 1, by omega, by go_num, by rw [wantB, hb0]; rfl, HO.out, Hbi.out⟩
            case measure => simp [intOf]; omega
          | false =>
            by_cases hm0 : (f q).m = (k : Int)
            · have t0 : ((f q).m == (k : Int)) = true := by simp [hm0]
              have HM := Lib.hid hm0
              clear hm0
              go_wp2_with fail
              refine (Has_c (f q).s la len lcap g _ (Cells.below HG.out Hbi.out) hl).mono ?_
              rintro e w1 ⟨rfl, rfl⟩
              cases hh : hasB g (f q).s len with
              | true =>
                go_wp2_with fail
                go_roundw
                case rel => exact ⟨q + 1, by omega, by go_num, by rw [wantB, hb0, hh, decide_eq_true HM.out]; rfl, HO.out, Hbi.out⟩
                case measure => simp [intOf]; omega
              | false =>
                go_wp2_with fail
                go_roundw
                case rel => exact ⟨q + 1, by omega, by go_num, by rw [wantB, hb0, hh, decide_eq_true HM.out]; rfl, HO.out, Hbi.out⟩
                case measure => simp [intOf]; omega
            · have t0 : ((f q).m == (k : Int)) = false := by simp [hm0]
              have HM := Lib.hid hm0
              clear hm0
              go_wp2_with fail
              go_roundw
              case rel => exact ⟨q + 1, by omega, by go_num, by rw [wantB, hb0, decide_eq_false HM.out]; rfl, HO.out, Hbi.out⟩
              case measure => simp [intOf]; omega
        · obtain rfl : q = n := by omega
          cases hb0 : wantB f g len k q with
          | true =>
            obtain ⟨X, hX⟩ : ∃ X, wr.alloc (.cells #[.int .i64 (k : Int)] 3) = X := ⟨_, rfl⟩
            have hXr : RowIs X wr.heap.size #[.int .i64 (k : Int)] 3 := by rw [← hX]; exact heap_new_at _ _ _ rfl
            have hXo : Own X W.heap.size (wantR f q g len k) v := by rw [← hX]; exact HO.out.alloc _
            have hXb : Below wr.heap.size wr X := by rw [← hX]; exact Below.alloc1 (Below.refl _ _) _ (Nat.le_refl _)
            obtain ⟨v', A', hrun, hown', hgr, hbA⟩ := hXo.append wr.heap.size k hXr (by have := hXb.size; omega) (by omega)
            have Hown := Lib.hid hown'
            have HbX := Lib.hid ((Hbi.out.trans (hXb.mono (by omega))).trans hbA)
            clear hXr hXo hown' hgr hXb hbA
            go_wp2_with (at_builtin; refine wpList_append_run rfl _ _ 25 rfl rfl rfl hrun ?_)
            go_roundw
            case rel => exact ⟨k + 1, _, by omega, by go_num, rfl, by rw [wantR_succ, hb0]; exact Hown.out, HbX.out⟩
            case measure => simp [intOf]; omega
          | false =>
            go_wp2_with fail
            go_roundw
            case rel => exact ⟨k + 1, _, by omega, by go_num, rfl, by rw [wantR_succ, hb0]; simpa using HO.out, Hbi.out⟩
            case measure => simp [intOf]; omega
    · obtain rfl : k = m := by omega
      obtain ⟨p, c, rfl, hL, -⟩ := HO.out.lst
      go_wp2_with fail
      go_ret
      exact ⟨p, c, rfl, hL, bup HB.out Hbr.out⟩

end Go.Proofs.Ytbjgbgchagfokaa

namespace Go.Proofs.Ytbjgbgchagfokaa
open Go Go.RowKit

theorem ldF_pos (f : Nat → W2) (p : Nat → Bool) (x : Nat) : ∀ n, 0 < ldF f p x n ↔ ∃ i, i < n ∧ p i = true ∧ ((f i).s = x ∨ 6 + (f i).m = x)
  | 0 => by simp [ldF]
  | n + 1 => by
    have ih := ldF_pos f p x n
    have h0 := (ldF_bd f p x n).1
    rw [ldF]
    by_cases h : p n = true ∧ ((f n).s = x ∨ 6 + (f n).m = x)
    · rw [if_pos h]
      exact ⟨fun _ => ⟨n, by omega, h⟩, fun _ => by omega⟩
    · rw [if_neg h, Int.add_zero, ih]
      exact ⟨fun ⟨i, hi, hp⟩ => ⟨i, by omega, hp⟩, fun ⟨i, hi, hp⟩ => ⟨i, by
        by_cases e : i = n
        · rw [e] at hp; exact absurd hp h
        · omega, hp⟩⟩

/-- Some of the first numbers, in their order, are a list. -/
theorem listB_filt (p : Nat → Bool) (k : Nat) {T : Int} (hT : ∀ y, y ∈ (List.range k).filter p → (y : Int) < T) : listB (natG ((List.range k).filter p)) T ((List.range k).filter p).length = true := by
  have hs : List.Pairwise (· < ·) ((List.range k).filter p) := List.Pairwise.filter _ List.pairwise_lt_range
  rw [List.pairwise_iff_getElem] at hs
  rw [listB_iff]
  intro i hi
  have e : ∀ j (hj : j < ((List.range k).filter p).length), natG ((List.range k).filter p) j = ((((List.range k).filter p)[j] : Nat) : Int) := fun j hj => by
    unfold natG
    rw [List.getD_eq_getElem?_getD, List.getElem?_eq_getElem hj, Option.getD_some]
  refine ⟨⟨by unfold natG; omega, by rw [e i hi]; exact hT _ (List.getElem_mem hi)⟩, fun h0 => ?_⟩
  rw [e i hi, e (i - 1) (by omega)]
  have := hs (i - 1) i (by omega) hi (by omega)
  omega
theorem natG_has (x : List Nat) (v : Nat) : (∃ i, i < x.length ∧ natG x i = (v : Int)) ↔ v ∈ x :=
  ⟨fun ⟨i, hi, e⟩ => by
    have := natG_mem hi
    unfold natG at e
    rwa [show x.getD i 0 = v by omega] at this, fun h => by
    obtain ⟨i, hi, e⟩ := mem_natG h
    exact ⟨i, hi, by unfold natG; rw [e]⟩⟩
theorem cnt_list {x : List Nat} {T : Nat} (h : listB (natG x) T x.length = true) : cnt (fun v => v ∈ x) T = x.length := by
  rw [← listB_cnt h]
  exact (cnt_congr fun v _ => natG_has x v).symm

section
variable {s M n : Nat} {f : Nat → W2} (hG : GoodBook s M n f)
include hG

theorem shop_wants {x : Nat} (hx : x < 6) : 0 < bookL f n x ↔ WantS f n x := by
  rw [show bookL f n x = ldF f (fun _ => true) x n from rfl, ldF_pos]
  exact ⟨fun ⟨i, hi, _, h⟩ => ⟨i, hi, by have := (hG.2.2.2 i hi).2; omega⟩, fun ⟨i, hi, e⟩ => ⟨i, hi, rfl, .inl e⟩⟩
theorem mould_wants (x : List Nat) (y : Nat) : 0 < shopL f (natG x) x.length n (6 + y) ↔ WantM f n (InL x) y := by
  rw [show shopL f (natG x) x.length n (6 + y) = ldF f (fun i => hasB (natG x) (f i).s x.length) (6 + y) n from rfl, ldF_pos]
  constructor
  · intro ⟨i, hi, hp, h⟩
    obtain ⟨j, hj, e⟩ := (hasB_iff _ _ _).1 hp
    have b := hG.2.2.2 i hi
    have b2 := hG.1
    refine ⟨i, hi, ⟨x.getD j 0, natG_mem hj, ?_⟩, by omega⟩
    rw [← e]
    rfl
  · intro ⟨i, hi, ⟨v, hv, e⟩, h⟩
    obtain ⟨j, hj, e2⟩ := (natG_has x v).2 hv
    exact ⟨i, hi, (hasB_iff _ _ _).2 ⟨j, hj, by rw [e2, e]⟩, .inr (by omega)⟩
theorem few_key : (fun x => fewL f n x) = tooFewK f n 6 := by
  funext x
  show (x.length : Int) - ((wbL (shopL f (natG x) x.length n) 6).length : Int) = _
  unfold tooFewK
  have h : listB (natG (wbL (shopL f (natG x) x.length n) 6)) (6 : Nat) (wbL (shopL f (natG x) x.length n) 6).length = true := listB_filt _ 6 fun y hy => by
    have := List.mem_range.1 (List.mem_filter.1 hy).1
    omega
  rw [← cnt_list h, cnt_congr (q := WantM f n (InL x))]
  intro y hy
  rw [wbL, List.mem_filter, List.mem_range, decide_eq_true_eq, mould_wants hG]
  exact ⟨fun h => h.2, fun h => ⟨hy, h⟩⟩

/-- The cover that is returned. -/
theorem cover_ok (hE : bookE s M n f = 0) : coverE s M n f (covS f n s (bookL f n)).length (natG (covS f n s (bookL f n))) (covM f n s (bookL f n)).length (natG (covM f n s (bookL f n))) = 0 ∧
    (covS f n s (bookL f n)).length + (covM f n s (bookL f n)).length = (bestOf f n).length ∧ (covS f n s (bookL f n)).length ≤ s ∧ (covM f n s (bookL f n)).length ≤ M := by
  obtain ⟨g1, g2, g3, g4⟩ := id hG
  have hS : ∀ i, i < n → 0 ≤ (f i).s ∧ (f i).s < s := fun i hi => (g4 i hi).1
  have hT : ∀ i, i < n → 0 ≤ (f i).m ∧ (f i).m < (6 : Nat) := fun i hi => ⟨(g4 i hi).2.1, by have := (g4 i hi).2.2; omega⟩
  obtain ⟨X, hX⟩ : ∃ X, shortOf f n s (bookL f n) = X := ⟨_, rfl⟩
  have hb := best_most f n
  have hk : shortOf f n s (bookL f n) = bestK (tooFewK f n 6) [] (tailsL (fun _ i => decide (0 < bookL f n i)) s s []) := by
    rw [shortOf_best, ← few_key hG]
  obtain ⟨k1, k2, k3⟩ := short_most hS hT (fun _ i => decide (0 < bookL f n i)) (fun b j hj => by
    show decide (0 < bookL f n j) = true ↔ _
    rw [decide_eq_true_eq]
    exact shop_wants hG (by omega)) hb.1 (fun M' h => by rw [hb.2.1]; exact hb.2.2.2 M' h)
  rw [← hk, hX] at k1 k2 k3
  rw [hb.2.1] at k3
  -- the shops
  have m1 : ∀ v, v ∈ covS f n s (bookL f n) ↔ v < s ∧ WantS f n v ∧ v ∉ X := fun v => by
    unfold covS othL
    rw [hX, List.mem_filter, List.mem_range, Bool.and_eq_true, decide_eq_true_eq, Bool.not_eq_true']
    constructor
    · intro ⟨h1, h2, h3⟩
      exact ⟨h1, (shop_wants hG (by omega)).1 h2, fun h => by
        have := (hasB_iff (natG X) (v : Int) X.length).2 ((natG_has X v).2 h)
        rw [show hasB (natG X) (v : Int) X.length = false from h3] at this
        cases this⟩
    · intro ⟨h1, h2, h3⟩
      refine ⟨h1, (shop_wants hG (by omega)).2 h2, ?_⟩
      cases h : hasB (fun j => ((X.getD j 0 : Nat) : Int)) (v : Int) X.length with
      | false => rfl
      | true => exact absurd ((natG_has X v).1 ((hasB_iff (natG X) (v : Int) X.length).1 h)) h3
  have m2 : ∀ y, y ∈ covM f n s (bookL f n) ↔ y < 6 ∧ WantM f n (InL X) y := fun y => by
    unfold covM
    rw [hX, wbL, List.mem_filter, List.mem_range, decide_eq_true_eq]
    exact and_congr_right fun _ => mould_wants hG X y
  have l1 : listB (natG (covS f n s (bookL f n))) s (covS f n s (bookL f n)).length = true := listB_filt _ s fun y hy => by
    have := List.mem_range.1 (List.mem_filter.1 hy).1
    omega
  obtain ⟨pm, hpm⟩ : ∃ pm, covM f n s (bookL f n) = (List.range 6).filter pm := by unfold covM wbL; exact ⟨_, rfl⟩
  have l2 : listB (natG (covM f n s (bookL f n))) M (covM f n s (bookL f n)).length = true := by
    rw [hpm]
    refine listB_filt pm 6 fun y hy => ?_
    rw [← hpm] at hy
    obtain ⟨_, i, hi, _, e⟩ := (m2 y).1 hy
    have := (g4 i hi).2.2
    omega
  have l3 : listB (natG (covM f n s (bookL f n))) (6 : Nat) (covM f n s (bookL f n)).length = true := by
    rw [hpm]
    refine listB_filt pm 6 fun y hy => ?_
    have := List.mem_range.1 (List.mem_filter.1 hy).1
    omega
  obtain ⟨r1, r2⟩ := rest_cover (f := f) (n := n) (S := s) (InL X) fun x hx h => ((k1 x ((inL_nat X x).1 h)).2)
  have c1 : cnt (fun x : Nat => (∃ i, i < n ∧ (f i).s = (x : Int)) ∧ ¬ InL X (x : Int)) s = (covS f n s (bookL f n)).length := by
    rw [← cnt_list l1]
    exact cnt_congr fun v hv => by rw [m1, inL_nat]; exact ⟨fun h => ⟨hv, h.1, h.2⟩, fun h => ⟨h.2.1, h.2.2⟩⟩
  have c2 : cnt (fun x : Nat => InL X (x : Int)) s = X.length := by
    rw [← k2]
    exact cnt_congr fun v _ => inL_nat X v
  have c3 : cnt (WantM f n (InL X)) 6 = (covM f n s (bookL f n)).length := by
    rw [← cnt_list l3]
    exact cnt_congr fun v hv => by rw [m2]; exact ⟨fun h => ⟨hv, h⟩, fun h => h.2⟩
  have hc : coverB f (covS f n s (bookL f n)).length (natG (covS f n s (bookL f n))) (covM f n s (bookL f n)).length (natG (covM f n s (bookL f n))) n = true := by
    rw [coverB_iff]
    intro i hi
    rcases r1 i hi with ⟨_, h⟩ | h
    · refine .inl ?_
      obtain ⟨v, hv⟩ := Int.eq_ofNat_of_zero_le (hS i hi).1
      have := hS i hi
      rw [hv] at h ⊢
      exact (natG_has _ v).2 ((m1 v).2 ⟨by omega, ⟨i, hi, hv⟩, fun hm => h ((inL_nat X v).2 hm)⟩)
    · refine .inr ?_
      obtain ⟨v, hv⟩ := Int.eq_ofNat_of_zero_le (hT i hi).1
      have := hT i hi
      rw [hv] at h ⊢
      obtain ⟨j, hj, a, e⟩ := h
      exact (natG_has _ v).2 ((m2 v).2 ⟨by omega, j, hj, a, e⟩)
  refine ⟨by rw [coverE, if_pos hE, if_pos ⟨l1, l2⟩, if_pos hc], ?_, ?_, ?_⟩
  · unfold tooFewK at k3
    rw [c1, c2] at r2
    rw [c3] at k3
    omega
  · rw [← cnt_list l1]; exact cnt_atmost _ _
  · rw [← cnt_list l2]; exact cnt_atmost _ _
/-- No list of a day has more wants than a cover has numbers. -/
theorem list_cover (hE : bookE s M n f = 0) {ns nm : Nat} {sh mo : Nat → Int} (h1 : coverE s M n f ns sh nm mo = 0) : (bestOf f n).length ≤ ns + nm := by
  obtain ⟨g1, g2, g3, g4⟩ := id hG
  have hS : ∀ i, i < n → 0 ≤ (f i).s ∧ (f i).s < s := fun i hi => (g4 i hi).1
  have hT : ∀ i, i < n → 0 ≤ (f i).m ∧ (f i).m < M := fun i hi => (g4 i hi).2
  rw [coverE, if_pos hE] at h1
  by_cases hl : listB sh s ns = true ∧ listB mo M nm = true
  · rw [if_pos hl] at h1
    by_cases hc : coverB f ns sh nm mo n = true
    · have hb := best_most f n
      have := cover_most hS hT hb.1 ((coverB_iff f ns sh nm mo n).1 hc)
      rw [hb.2.1, listB_cnt hl.1, listB_cnt hl.2] at this
      exact this
    · rw [if_neg hc] at h1; omega
  · rw [if_neg hl] at h1; omega
end
end Go.Proofs.Ytbjgbgchagfokaa

namespace Go.Proofs.Ytbjgbgchagfokaa
open Go Go.RowKit Go.Shelf

theorem filter_less (p : Nat → Bool) (m : Nat) (h : ∀ y, m ≤ y → p y = false) : ∀ k, m ≤ k → (List.range k).filter p = (List.range m).filter p
  | 0, hk => by rw [show m = 0 by omega]
  | k + 1, hk => by
    by_cases e : m = k + 1
    · rw [e]
    · rw [List.range_succ, List.filter_append, filter_less p m h k (by omega)]
      simp [h k (by omega)]
theorem wantB_iff (f : Nat → W2) (g : Nat → Int) (len y : Nat) : ∀ n, wantB f g len y n = true ↔ ∃ i, i < n ∧ (f i).m = (y : Int) ∧ hasB g (f i).s len = true
  | 0 => by simp [wantB]
  | n + 1 => by
    rw [wantB, Bool.or_eq_true, Bool.and_eq_true, decide_eq_true_eq, wantB_iff f g len y n]
    exact ⟨fun h => by
      rcases h with ⟨i, hi, h⟩ | h
      · exact ⟨i, by omega, h⟩
      · exact ⟨n, by omega, h⟩, fun ⟨i, hi, h⟩ => by
      by_cases e : i = n
      · rw [e] at h; exact .inr h
      · exact .inl ⟨i, by omega, h⟩⟩
/-- The document's moulds are the program's. -/
theorem wanted_same {s m n : Nat} {f : Nat → W2} (hG : GoodBook s m n f) (g : Nat → Int) (len : Nat) : wbL (shopL f g len n) 6 = wantR f n g len m := by
  obtain ⟨g1, g2, g3, g4⟩ := id hG
  have key : ∀ y, decide (0 < shopL f g len n (6 + y)) = wantB f g len y n := fun y => by
    rw [Bool.eq_iff_iff, decide_eq_true_eq, wantB_iff, show shopL f g len n (6 + y) = ldF f (fun i => hasB g (f i).s len) (6 + y) n from rfl, ldF_pos]
    exact ⟨fun ⟨i, hi, hp, h⟩ => ⟨i, hi, by have := g4 i hi; omega, hp⟩, fun ⟨i, hi, h, hp⟩ => ⟨i, hi, hp, .inr (by omega)⟩⟩
  unfold wbL wantR
  rw [show (fun y => decide (0 < shopL f g len n (6 + y))) = fun y => wantB f g len y n from funext key]
  refine filter_less _ m (fun y hy => ?_) 6 (by omega)
  cases h : wantB f g len y n with
  | false => rfl
  | true =>
    obtain ⟨i, hi, e, _⟩ := (wantB_iff f g len y n).1 h
    have := (g4 i hi).2.2
    omega

set_option maxRecDepth 100000 in
set_option maxHeartbeats 16000000 in
theorem rcheckShort_yes_c (s m : Nat) (a : Option Addr) (n cap : Nat) (f : Nat → W2) (la : Option Addr) (len lcap : Nat) (g : Nat → Int) (w : World) (hf : Wants w a n f) (hg : Ints w la len g) (hl : len ≤ 1048576) (hE : bookE s m n f = 0) :
    Calls Try.prog 33 #[bookV s m a n cap, .slice la len lcap] w fun e w' => e = .returned (.tuple #[.int .i64 (shortN s n f len g), .int .i64 (shortE s n f len g)]) ∧ Below w.heap.size w w' := by
  have hGB := book_good hE
  have hn14 := hGB.2.2.1
  have hs6 : s ≤ 6 := by have := hGB.1; omega
  have hm6 : m ≤ 6 := by have := hGB.2.1; omega
  have hwl : wbL (shopL f g len n) 6 = wantR f n g len m := wanted_same hGB g len
  obtain ⟨r, hr⟩ : ∃ r, shortE s n f len g = r := ⟨_, rfl⟩
  obtain ⟨q, hq⟩ : ∃ q, shortN s n f len g = q := ⟨_, rfl⟩
  rw [hr, hq]
  have HR0 := Lib.hid hr
  have HQ0 := Lib.hid hq
  clear hr hq
  obtain ⟨W, hW⟩ : ∃ W, w.alloc (.cells #[.int .i64 s, .int .i64 m, .slice a n cap] 24) = W := ⟨_, rfl⟩
  have hB : Below w.heap.size w W := by rw [← hW]; exact Below.alloc1 (Below.refl _ _) _ (Nat.le_refl _)
  have hR : RowIs W w.heap.size #[.int .i64 s, .int .i64 m, .slice a n cap] 24 := by rw [← hW]; exact heap_new_at _ _ _ rfl
  have r0 : W.cell? ⟨w.heap.size, 0, none⟩ = some (.int .i64 s) := RowIs.cell hR 0
  have r1 : W.cell? ⟨w.heap.size, 1, none⟩ = some (.int .i64 m) := RowIs.cell hR 1
  have r2 : W.cell? ⟨w.heap.size, 2, none⟩ = some (.slice a n cap) := RowIs.cell hR 2
  have rz : w.heap.size < W.heap.size := hR.lt
  have HF := Lib.hid (hf.below hB)
  have HG := Lib.hid (Cells.below hg hB)
  have HR := Lib.hid hR
  have HE := Lib.hid hE
  have HGB := Lib.hid hGB
  have HWL := Lib.hid hwl
  clear hR hf hg hE hGB hwl
  go_enter Try.func33, Try.ntmps33
  go_wp2_with fail
  refine (rcheckBook_c s m a n cap f _ HF.out (by omega)).mono ?_
  rintro e w1 ⟨rfl, hb1⟩
  rw [HE.out]
  replace HF := Lib.hid (HF.out.below hb1)
  replace HG := Lib.hid (Cells.below HG.out hb1)
  replace HR := Lib.hid (RowIs.below HR.out hb1)
  replace hB := bup hB hb1
  clear r0 r1 r2 rz hb1
  have r0 : w1.cell? ⟨w.heap.size, 0, none⟩ = some (.int .i64 s) := RowIs.cell HR.out 0
  have r1 : w1.cell? ⟨w.heap.size, 1, none⟩ = some (.int .i64 m) := RowIs.cell HR.out 1
  have r2 : w1.cell? ⟨w.heap.size, 2, none⟩ = some (.slice a n cap) := RowIs.cell HR.out 2
  have rz : w.heap.size < w1.heap.size := HR.out.lt
  by_cases h0 : len = 0
  · have hr3 : r = 3 := by rw [← HR0.out, shortE, if_pos (.inl h0)]
    have hq0 : q = 0 := by rw [← HQ0.out, shortN, HR0.out, hr3, if_neg (by decide)]
    subst h0 hr3 hq0
    go_wp2_with fail
    refine bodyPost_ret (v := .tuple #[.int .i64 0, .int .i64 3]) (by simp [results, Try.results33, go_sem]) rfl ⟨rfl, hB⟩
  have h0' : ¬ len = 0 := h0
  cases hlb : listB g s len with
  | false =>
    have hr3 : r = 3 := by rw [← HR0.out, shortE, if_pos (.inr hlb)]
    have hq0 : q = 0 := by rw [← HQ0.out, shortN, HR0.out, hr3, if_neg (by decide)]
    subst hr3 hq0
    have HIL := Lib.hid (fun (x : World) (h : Ints x la len g) => isList_c s la len lcap g x h hl)
    rw [hlb] at HIL
    clear hlb
    go_wp2_with fail
    refine (HIL.out _ HG.out).mono ?_
    rintro e w2 ⟨rfl, hb2⟩
    go_wp2_with fail
    refine bodyPost_ret (v := .tuple #[.int .i64 0, .int .i64 3]) (by simp [results, Try.results33, go_sem]) rfl ⟨rfl, bup hB hb2⟩
  | true =>
    have HIL := Lib.hid (fun (x : World) (h : Ints x la len g) => isList_c s la len lcap g x h hl)
    rw [hlb] at HIL
    have HLB := Lib.hid hlb
    clear hlb
    go_wp2_with fail
    refine (HIL.out _ HG.out).mono ?_
    rintro e w2 ⟨rfl, hb2⟩
    replace HF := Lib.hid (HF.out.below hb2)
    replace HG := Lib.hid (Cells.below HG.out hb2)
    replace HR := Lib.hid (RowIs.below HR.out hb2)
    replace hB := bup hB hb2
    clear r0 r1 r2 rz hb2
    have r0 : w2.cell? ⟨w.heap.size, 0, none⟩ = some (.int .i64 s) := RowIs.cell HR.out 0
    have r1 : w2.cell? ⟨w.heap.size, 1, none⟩ = some (.int .i64 m) := RowIs.cell HR.out 1
    have r2 : w2.cell? ⟨w.heap.size, 2, none⟩ = some (.slice a n cap) := RowIs.cell HR.out 2
    have rz : w.heap.size < w2.heap.size := HR.out.lt
    go_wp2_with fail
    refine (LoadsOf_c s m a n cap f _ HF.out HGB.out).mono ?_
    rintro e w3 ⟨b1, b2, rfl, h1, -, -, -, -, hb3⟩
    replace HF := Lib.hid (HF.out.below hb3)
    replace HG := Lib.hid (Cells.below HG.out hb3)
    replace HR := Lib.hid (RowIs.below HR.out hb3)
    have HB := Lib.hid (bup hB hb3)
    have H1 := Lib.hid h1
    clear r0 r1 r2 rz hb3 hB h1
    go_wp2_with fail
    go_loopw [8] (fun i wr => ∃ k : Nat, k ≤ len ∧ i = .int .i64 k ∧ wantAll (bookL f n) g k = true ∧ Below w3.heap.size w3 wr) (fun i _ => len - (intOf i).toNat)
    case atStart => exact ⟨0, Nat.zero_le _, rfl, rfl, Below.refl _ _⟩
    case round =>
      obtain ⟨k, hk, rfl, hwa, hbr⟩ := hrel
      have HWA := Lib.hid hwa
      have Hbr := Lib.hid hbr
      have hsz := hbr.size
      clear hwa hbr
      by_cases hlt : k < len
      · obtain ⟨gb, go, rfl, hgb, hgc⟩ := Cells.at (Cells.below HG.out Hbr.out) k hlt
        have cg := hgc k hlt
        have gr := listB_range g s len HLB.out k hlt
        obtain ⟨y, hy⟩ := Int.eq_ofNat_of_zero_le gr.1
        have hys : y < s := by omega
        rw [hy] at cg
        have HY := Lib.hid hy
        have hrow := RowIs.below H1.out Hbr.out
        have cl : wr.cell? ⟨b1, y, none⟩ = some (.int .i64 (loadF (fun i => (f i).s) y n)) := (RowIs.cell hrow y).trans (rowA_get _ _ y hys)
        have hz1 := hrow.lt
        have hbl : bookL f n y = loadF (fun i => (f i).s) y n := by
          rw [loadF_many]
          exact ldF_shop (by omega) fun i hi => (HGB.out.2.2.2 i hi).2.1
        have HBL := Lib.hid hbl
        have hl0 := (loadF_bd (fun i => (f i).s) y n).1
        obtain ⟨z, hz⟩ : ∃ z, loadF (fun i => (f i).s) y n = z := ⟨_, rfl⟩
        rw [hz] at cl hl0
        have HZ := Lib.hid hz
        clear hgc gr hy hrow hbl hz
        by_cases hz0 : z = 0
        · have hw0 : wantAll (bookL f n) g len = false := wantAll_no k len hlt (by rw [HY.out, Int.toNat_natCast, HBL.out, HZ.out, hz0]; decide)
          have hr3 : r = 16 := by rw [← HR0.out, shortE, if_neg (by rw [HLB.out]; simp [h0']), if_pos hw0]
          have hq0 : q = 0 := by rw [← HQ0.out, shortN, HR0.out, hr3, if_neg (by decide)]
          subst hz0 hr3 hq0
          clear hw0
          go_wp2_with fail
          refine bodyPost_ret (v := .tuple #[.int .i64 0, .int .i64 16]) (by simp [results, Try.results33, go_sem]) rfl ⟨rfl, bup HB.out Hbr.out⟩
        · have tz : (z == 0) = false := by simp [hz0]
          have hzp : 0 < z := by omega
          have HZP := Lib.hid hzp
          clear hz0 hzp hl0
          go_wp2_with fail
          go_roundw
          case rel => exact ⟨k + 1, by omega, by go_num, by rw [wantAll, HWA.out, HY.out, Int.toNat_natCast, HBL.out, HZ.out, decide_eq_true HZP.out]; rfl, Hbr.out⟩
          case measure => simp [intOf]; omega
      · obtain rfl : k = len := by omega
        have hr := HR.out.below Hbr.out
        have r0 : wr.cell? ⟨w.heap.size, 0, none⟩ = some (.int .i64 s) := RowIs.cell hr 0
        have r1 : wr.cell? ⟨w.heap.size, 1, none⟩ = some (.int .i64 m) := RowIs.cell hr 1
        have r2 : wr.cell? ⟨w.heap.size, 2, none⟩ = some (.slice a n cap) := RowIs.cell hr 2
        have rz : w.heap.size < wr.heap.size := hr.lt
        have hlen := wantR_len f n g k m
        have hfe : fewB f n g k = (k : Int) - ((wantR f n g k m).length : Int) := by rw [fewB, HWL.out]
        have hse : r = if fewB f n g k ≤ 0 then 14 else 0 := by rw [← HR0.out, shortE, if_neg (by rw [HLB.out]; simp [h0']), if_neg (by rw [HWA.out]; simp)]
        have hsn : q = if r = 0 then fewB f n g k else 0 := by rw [← HQ0.out, shortN, HR0.out]
        rw [hfe] at hse hsn
        have HSE := Lib.hid hse
        have HSN := Lib.hid hsn
        clear hr hfe hse hsn
        have hw1 : IntKind.i64.wrap ((k : Int) - ((wantR f n g k m).length : Int)) = (k : Int) - ((wantR f n g k m).length : Int) := IntWalk.i64_in _ (by omega)
        go_wp2_with fail
        refine (Wanted_c s m a n cap f la k lcap g _ (HF.out.below Hbr.out) hn14 hm6 (Cells.below HG.out Hbr.out) hl).mono ?_
        rintro e w5 ⟨pw, cw, rfl, -, hb5⟩
        obtain ⟨d, hd⟩ : ∃ d, (k : Int) - ((wantR f n g k m).length : Int) = d := ⟨_, rfl⟩
        rw [hd] at hw1
        have HSE2 := Lib.hid (HSE.out)
        have HSN2 := Lib.hid (HSN.out)
        rw [hd] at HSE2 HSN2
        by_cases hd0 : d ≤ 0
        · have er : r = 14 := by rw [HSE2.out, if_pos hd0]
          have eq : q = 0 := by rw [HSN2.out, er, if_neg (by decide)]
          subst er eq
          go_wp2_with fail
          refine bodyPost_ret (v := .tuple #[.int .i64 0, .int .i64 14]) (by simp [results, Try.results33, go_sem]) rfl ⟨rfl, bup HB.out (bup Hbr.out hb5)⟩
        · have er : r = 0 := by rw [HSE2.out, if_neg hd0]
          have eq : q = d := by rw [HSN2.out, er, if_pos rfl]
          subst er eq
          go_wp2_with fail
          refine bodyPost_ret (v := .tuple #[.int .i64 q, .int .i64 0]) (by simp [results, Try.results33, go_sem]) rfl ⟨rfl, bup HB.out (bup Hbr.out hb5)⟩

end Go.Proofs.Ytbjgbgchagfokaa

namespace Go.Proofs.Ytbjgbgchagfokaa
open Go Go.RowKit

theorem wantAll_iff (l : Nat → Int) (g : Nat → Int) : ∀ n, wantAll l g n = true ↔ ∀ i, i < n → 0 < l (g i).toNat
  | 0 => ⟨fun _ i hi => absurd hi (Nat.not_lt_zero _), fun _ => rfl⟩
  | n + 1 => by
    rw [wantAll, Bool.and_eq_true, wantAll_iff l g n, decide_eq_true_eq]
    exact ⟨fun h i hi => by
      by_cases e : i = n
      · rw [e]; exact h.2
      · exact h.1 i (by omega), fun h => ⟨fun i hi => h i (by omega), h n (by omega)⟩⟩

section
variable {s M n : Nat} {f : Nat → W2} (hG : GoodBook s M n f)
include hG

theorem wb_count (g : Nat → Int) (len : Nat) : (wbL (shopL f g len n) 6).length = cnt (fun y : Nat => ∃ i, i < n ∧ (∃ j, j < len ∧ g j = (f i).s) ∧ (f i).m = (y : Int)) 6 := by
  have h : listB (natG (wbL (shopL f g len n) 6)) (6 : Nat) (wbL (shopL f g len n) 6).length = true := listB_filt _ 6 fun y hy => by
    have := List.mem_range.1 (List.mem_filter.1 hy).1
    omega
  rw [← cnt_list h]
  refine cnt_congr fun y hy => ?_
  rw [wbL, List.mem_filter, List.mem_range, decide_eq_true_eq, show shopL f g len n (6 + y) = ldF f (fun i => hasB g (f i).s len) (6 + y) n from rfl, ldF_pos]
  constructor
  · intro ⟨_, i, hi, hp, e⟩
    have := hG.2.2.2 i hi
    have := hG.1
    exact ⟨i, hi, (hasB_iff _ _ _).1 hp, by omega⟩
  · intro ⟨i, hi, hp, e⟩
    exact ⟨hy, i, hi, (hasB_iff _ _ _).2 hp, .inr (by omega)⟩
/-- A best list has no more wants than shops with wants, less what short shops lack. -/
theorem short_bound {len : Nat} {g : Nat → Int} (h : shortE s n f len g = 0) : ((bestOf f n).length : Int) ≤ (wantingN s n f : Int) - fewB f n g len ∧ 0 < fewB f n g len := by
  obtain ⟨g1, g2, g3, g4⟩ := id hG
  have hS : ∀ i, i < n → 0 ≤ (f i).s ∧ (f i).s < s := fun i hi => (g4 i hi).1
  have hT : ∀ i, i < n → 0 ≤ (f i).m ∧ (f i).m < (6 : Nat) := fun i hi => ⟨(g4 i hi).2.1, by have := (g4 i hi).2.2; omega⟩
  unfold shortE at h
  by_cases h1 : len = 0 ∨ listB g s len = false
  · rw [if_pos h1] at h; omega
  rw [if_neg h1] at h
  by_cases h2 : wantAll (bookL f n) g len = false
  · rw [if_pos h2] at h; omega
  rw [if_neg h2] at h
  by_cases h3 : fewB f n g len ≤ 0
  · rw [if_pos h3] at h; omega
  refine ⟨?_, by omega⟩
  have hl : listB g s len = true := by
    cases e : listB g s len with
    | true => rfl
    | false => exact absurd (.inr e) h1
  have hw : wantAll (bookL f n) g len = true := by
    cases e : wantAll (bookL f n) g len with
    | true => rfl
    | false => exact absurd e h2
  obtain ⟨r1, r2⟩ := rest_cover (f := f) (n := n) (S := s) (fun x => ∃ j, j < len ∧ g j = x) fun x hx ⟨j, hj, e⟩ => by
    have h := (wantAll_iff _ _ _).1 hw j hj
    rw [e, Int.toNat_natCast] at h
    exact (shop_wants hG (by omega)).1 h
  have hb := best_most f n
  have hc := cover_most hS hT hb.1 r1
  rw [hb.2.1] at hc
  have e1 : cnt (fun x : Nat => ∃ j, j < len ∧ g j = (x : Int)) s = len := listB_cnt hl
  have e2 := wb_count hG g len
  rw [wantingN_cnt]
  unfold fewB
  rw [e1] at r2
  rw [← e2] at hc
  omega
theorem short_best : ((bestOf f n).length : Int) + fewL f n (shortOf f n s (bookL f n)) = (wantingN s n f : Int) ∧ 0 ≤ fewL f n (shortOf f n s (bookL f n)) ∧
    (fewL f n (shortOf f n s (bookL f n)) ≠ 0 → shortE s n f (shortOf f n s (bookL f n)).length (natG (shortOf f n s (bookL f n))) = 0) ∧ (shortOf f n s (bookL f n)).length ≤ s := by
  obtain ⟨g1, g2, g3, g4⟩ := id hG
  have hS : ∀ i, i < n → 0 ≤ (f i).s ∧ (f i).s < s := fun i hi => (g4 i hi).1
  have hT : ∀ i, i < n → 0 ≤ (f i).m ∧ (f i).m < (6 : Nat) := fun i hi => ⟨(g4 i hi).2.1, by have := (g4 i hi).2.2; omega⟩
  have hb := best_most f n
  have hk : shortOf f n s (bookL f n) = bestK (tooFewK f n 6) [] (tailsL (fun _ i => decide (0 < bookL f n i)) s s []) := by
    rw [shortOf_best, ← few_key hG]
  obtain ⟨k1, k2, k3⟩ := short_most hS hT (fun _ i => decide (0 < bookL f n i)) (fun b j hj => by
    show decide (0 < bookL f n j) = true ↔ _
    rw [decide_eq_true_eq]
    exact shop_wants hG (by omega)) hb.1 (fun M' h => by rw [hb.2.1]; exact hb.2.2.2 M' h)
  have hpos := bestK_len (tooFewK f n 6) (tailsL (fun _ i => decide (0 < bookL f n i)) s s []) []
  rw [← hk] at k1 k2 k3 hpos
  rw [hb.2.1] at k3
  have hkey : ∀ x, fewL f n x = tooFewK f n 6 x := fun x => congrFun (few_key hG) x
  have hnil : tooFewK f n 6 [] = 0 := by
    rw [← hkey]
    show ((0 : Nat) : Int) - _ = 0
    rw [wb_count hG]
    have : cnt (fun y : Nat => ∃ i, i < n ∧ (∃ j, j < ([] : List Nat).length ∧ (fun j => ((([] : List Nat).getD j 0 : Nat) : Int)) j = (f i).s) ∧ (f i).m = (y : Int)) 6 = 0 := cnt_none fun y _ ⟨i, hi, ⟨j, hj, _⟩, _⟩ => absurd hj (Nat.not_lt_zero _)
    rw [this]
    rfl
  have hris := shortOf_rising f n s (bookL f n)
  rw [hnil, ← hkey] at hpos
  rw [← hkey] at k3
  refine ⟨by rw [wantingN_cnt]; exact k3, hpos, fun hne => ?_, by rw [← k2]; exact cnt_atmost _ _⟩
  obtain ⟨X, hX⟩ : ∃ X, shortOf f n s (bookL f n) = X := ⟨_, rfl⟩
  rw [hX] at hne hris k1 k2 hpos ⊢
  have hl : listB (natG X) s X.length = true := by
    rw [listB_iff]
    intro i hi
    have hs := hris.1
    rw [List.pairwise_iff_getElem] at hs
    have e : ∀ j (hj : j < X.length), natG X j = ((X[j] : Nat) : Int) := fun j hj => by
      unfold natG
      rw [List.getD_eq_getElem?_getD, List.getElem?_eq_getElem hj, Option.getD_some]
    refine ⟨⟨by unfold natG; omega, by rw [e i hi]; have := hris.2 _ (List.getElem_mem hi); omega⟩, fun h0 => ?_⟩
    rw [e i hi, e (i - 1) (by omega)]
    have := hs (i - 1) i (by omega) hi (by omega)
    omega
  have hw : wantAll (bookL f n) (natG X) X.length = true := by
    rw [wantAll_iff]
    intro i hi
    have hm := natG_mem hi
    have := k1 _ hm
    show 0 < bookL f n ((X.getD i 0 : Nat) : Int).toNat
    rw [Int.toNat_natCast]
    exact (shop_wants hG (by omega)).2 this.2
  have h0 : ¬ X.length = 0 := fun h => by
    have : X = [] := List.eq_nil_of_length_eq_zero h
    rw [this, hkey, hnil] at hne
    exact hne rfl
  have hfb : fewB f n (natG X) X.length = fewL f n X := rfl
  rw [shortE, if_neg (by rw [hl]; simp [h0]), if_neg (by rw [hw]; simp), if_neg (by rw [hfb]; omega)]
end
end Go.Proofs.Ytbjgbgchagfokaa

namespace Go.Proofs.Ytbjgbgchagfokaa
open Go Go.RowKit Go.Shelf

set_option maxRecDepth 100000 in
set_option maxHeartbeats 16000000 in
theorem law_served_c (S M : Int) (a : Option Addr) (n cap : Nat) (f : Nat → W2) (xs : Int) (w : World) (hf : Wants w a n f) :
    Calls Try.prog 9 #[bookV S M a n cap, .int .u16 xs] w fun e w' => e = .returned (.bool true) ∧ Below w.heap.size w w' := by
  obtain ⟨W, hW⟩ : ∃ W, w.alloc (.cells #[.int .i64 S, .int .i64 M, .slice a n cap] 24) = W := ⟨_, rfl⟩
  have hB : Below w.heap.size w W := by rw [← hW]; exact Below.alloc1 (Below.refl _ _) _ (Nat.le_refl _)
  have hR : RowIs W w.heap.size #[.int .i64 S, .int .i64 M, .slice a n cap] 24 := by rw [← hW]; exact heap_new_at _ _ _ rfl
  have r0 : W.cell? ⟨w.heap.size, 0, none⟩ = some (.int .i64 S) := RowIs.cell hR 0
  have r1 : W.cell? ⟨w.heap.size, 1, none⟩ = some (.int .i64 M) := RowIs.cell hR 1
  have r2 : W.cell? ⟨w.heap.size, 2, none⟩ = some (.slice a n cap) := RowIs.cell hR 2
  have rz : w.heap.size < W.heap.size := hR.lt
  have HF := Lib.hid (hf.below hB)
  have HR := Lib.hid hR
  clear hR hf
  cases hE : decide (bookE S M n f = 0) with
  | false =>
    have HC := Lib.hid (fun (x : World) (h : Wants x a n f) => fine_c S M a n cap f x h)
    rw [hE] at HC
    clear hE
    go_enter Try.func9, Try.ntmps9
    go_wp2_with fail
    refine (HC.out _ HF.out).mono ?_
    rintro e w1 ⟨rfl, hb1⟩
    go_wp2_with fail
    refine (works_c _).mono ?_
    rintro e w2 ⟨rfl, hb2⟩
    go_wp2_with fail
    go_ret
    exact ⟨rfl, bup hB (bup hb1 hb2)⟩
  | true =>
    have HC := Lib.hid (fun (x : World) (h : Wants x a n f) => fine_c S M a n cap f x h)
    rw [hE] at HC
    have hE0 := of_decide_eq_true hE
    clear hE
    have hGB := book_good hE0
    obtain ⟨s, rfl⟩ : ∃ s : Nat, S = s := ⟨S.toNat, by have := hGB.1; omega⟩
    obtain ⟨m, rfl⟩ : ∃ m : Nat, M = m := ⟨M.toNat, by have := hGB.2.1; omega⟩
    have hn14 := hGB.2.2.1
    have hs6 : s ≤ 6 := by have := hGB.1; omega
    have hm6 : m ≤ 6 := by have := hGB.2.1; omega
    obtain ⟨k1, k2, k3, k4⟩ := short_best hGB
    have hsb : ∀ (len : Nat) (g : Nat → Int), shortE s n f len g = 0 → ((bestOf f n).length : Int) ≤ (wantingN s n f : Int) - fewB f n g len ∧ 0 < fewB f n g len := fun len g h => short_bound hGB h
    have hbl : (bestOf f n).length ≤ n := by rw [← (best_most f n).2.1]; exact cnt_atmost _ _
    obtain ⟨L, hL⟩ : ∃ L, (bestOf f n).length = L := ⟨_, rfl⟩
    obtain ⟨WN, hWN⟩ : ∃ WN, wantingN s n f = WN := ⟨_, rfl⟩
    obtain ⟨X, hX⟩ : ∃ X, shortOf f n s (bookL f n) = X := ⟨_, rfl⟩
    obtain ⟨k, hk⟩ : ∃ k, fewL f n X = k := ⟨_, rfl⟩
    have hkb : fewB f n (natG X) X.length = k := hk
    have HBC := Lib.hid (fun (x : World) (h : Wants x a n f) => best_c s m a n cap f x h hE0)
    have HSC := Lib.hid (fun (x : World) (h : Wants x a n f) => Short_yes_c s m a n cap f x h (by omega) hE0)
    have HWC := Lib.hid (fun (x : World) (h : Wants x a n f) => Wanting_c s m a n cap f x h hGB)
    simp only [hX, hk] at HSC k1 k2 k3 k4
    simp only [hL, hWN] at HBC HWC k1 hsb hbl
    have HSB := Lib.hid hsb
    have HE := Lib.hid hE0
    have HK3 := Lib.hid k3
    have HKB := Lib.hid hkb
    have hw64 : (WN : Int) ≤ 6 := by have : wantingN s n f ≤ s := aboveN_le _ s; omega
    have E1 := Lib.hid hE0
    clear hE0 hGB k3 hsb hL hWN hX hk hkb
    go_enter Try.func9, Try.ntmps9
    go_wp2_with fail
    refine (HC.out _ HF.out).mono ?_
    rintro e w1 ⟨rfl, hb1⟩
    replace HF := Lib.hid (HF.out.below hb1)
    replace HR := Lib.hid (RowIs.below HR.out hb1)
    replace hB := bup hB hb1
    clear r0 r1 r2 rz hb1
    have r0 : w1.cell? ⟨w.heap.size, 0, none⟩ = some (.int .i64 s) := RowIs.cell HR.out 0
    have r1 : w1.cell? ⟨w.heap.size, 1, none⟩ = some (.int .i64 m) := RowIs.cell HR.out 1
    have r2 : w1.cell? ⟨w.heap.size, 2, none⟩ = some (.slice a n cap) := RowIs.cell HR.out 2
    have rz : w.heap.size < w1.heap.size := HR.out.lt
    go_wp2_with fail
    refine (HBC.out _ HF.out).mono ?_
    rintro e w2 ⟨pb, cb, rfl, -, hb2⟩
    replace HF := Lib.hid (HF.out.below hb2)
    replace HR := Lib.hid (RowIs.below HR.out hb2)
    replace hB := bup hB hb2
    clear r0 r1 r2 rz hb2
    have r0 : w2.cell? ⟨w.heap.size, 0, none⟩ = some (.int .i64 s) := RowIs.cell HR.out 0
    have r1 : w2.cell? ⟨w.heap.size, 1, none⟩ = some (.int .i64 m) := RowIs.cell HR.out 1
    have r2 : w2.cell? ⟨w.heap.size, 2, none⟩ = some (.slice a n cap) := RowIs.cell HR.out 2
    have rz : w.heap.size < w2.heap.size := HR.out.lt
    go_wp2_with fail
    refine (HSC.out _ HF.out).mono ?_
    rintro e w3 ⟨hb3, ⟨hk0, rfl⟩ | ⟨hk0, p3, c3, rfl, hL3⟩⟩
    · replace HF := Lib.hid (HF.out.below hb3)
      replace HR := Lib.hid (RowIs.below HR.out hb3)
      replace hB := bup hB hb3
      clear r0 r1 r2 rz hb3
      have r0 : w3.cell? ⟨w.heap.size, 0, none⟩ = some (.int .i64 s) := RowIs.cell HR.out 0
      have r1 : w3.cell? ⟨w.heap.size, 1, none⟩ = some (.int .i64 m) := RowIs.cell HR.out 1
      have r2 : w3.cell? ⟨w.heap.size, 2, none⟩ = some (.slice a n cap) := RowIs.cell HR.out 2
      have rz : w.heap.size < w3.heap.size := HR.out.lt
      clear HSC
      go_wp2_with fail
      refine (bits_c s xs _ (by omega)).mono ?_
      rintro e w4 ⟨p4, c4, rfl, hL4, hb4⟩
      have L4 := Lib.hid hL4
      replace HF := Lib.hid (HF.out.below hb4)
      replace HR := Lib.hid (RowIs.below HR.out hb4)
      replace hB := bup hB hb4
      clear r0 r1 r2 rz hb4
      have r0 : w4.cell? ⟨w.heap.size, 0, none⟩ = some (.int .i64 s) := RowIs.cell HR.out 0
      have r1 : w4.cell? ⟨w.heap.size, 1, none⟩ = some (.int .i64 m) := RowIs.cell HR.out 1
      have r2 : w4.cell? ⟨w.heap.size, 2, none⟩ = some (.slice a n cap) := RowIs.cell HR.out 2
      have rz : w.heap.size < w4.heap.size := HR.out.lt
      clear hL4
      have ho := bits_len xs s
      obtain ⟨E2, hE2⟩ : ∃ E2, shortE s n f (bitsL s xs).length (natG (bitsL s xs)) = E2 := ⟨_, rfl⟩
      obtain ⟨N2, hN2⟩ : ∃ N2, shortN s n f (bitsL s xs).length (natG (bitsL s xs)) = N2 := ⟨_, rfl⟩
      have h2 : (E2 = 0 ∧ 1 ≤ N2 ∧ N2 ≤ 6 ∧ (L : Int) ≤ WN - N2) ∨ E2 ≠ 0 := by
        by_cases h : E2 = 0
        · obtain ⟨u1, u2⟩ := HSB.out _ _ (hE2.trans h)
          rw [shortN, hE2, if_pos h] at hN2
          rw [hN2] at u1 u2
          exact .inl ⟨h, by omega, by omega, u1⟩
        · exact .inr h
      have HC5 := Lib.hid (fun (x : World) (h : Wants x a n f) (hl : Lst x (bitsL s xs) p4 c4) => CheckShort_yes_c s m a n cap f p4 (bitsL s xs).length c4 (natG (bitsL s xs)) x h (by omega) hl.cells (by omega) hl.room hl.fit HE.out)
      simp only [hE2, hN2] at HC5
      have H2 := Lib.hid h2
      clear hE2 hN2 h2
      go_wp2_with fail
      refine (HC5.out _ HF.out L4.out).mono ?_
      rintro e w5 ⟨rfl, hb5⟩
      replace HF := Lib.hid (HF.out.below hb5)
      replace HR := Lib.hid (RowIs.below HR.out hb5)
      replace hB := bup hB hb5
      clear r0 r1 r2 rz hb5
      have r0 : w5.cell? ⟨w.heap.size, 0, none⟩ = some (.int .i64 s) := RowIs.cell HR.out 0
      have r1 : w5.cell? ⟨w.heap.size, 1, none⟩ = some (.int .i64 m) := RowIs.cell HR.out 1
      have r2 : w5.cell? ⟨w.heap.size, 2, none⟩ = some (.slice a n cap) := RowIs.cell HR.out 2
      have rz : w.heap.size < w5.heap.size := HR.out.lt
      clear HC5 L4
      go_wp2_with fail
      refine (HWC.out _ HF.out).mono ?_
      rintro e w6 ⟨rfl, hb6⟩
      replace HF := Lib.hid (HF.out.below hb6)
      replace HR := Lib.hid (RowIs.below HR.out hb6)
      replace hB := bup hB hb6
      clear r0 r1 r2 rz hb6
      have r0 : w6.cell? ⟨w.heap.size, 0, none⟩ = some (.int .i64 s) := RowIs.cell HR.out 0
      have r1 : w6.cell? ⟨w.heap.size, 1, none⟩ = some (.int .i64 m) := RowIs.cell HR.out 1
      have r2 : w6.cell? ⟨w.heap.size, 2, none⟩ = some (.slice a n cap) := RowIs.cell HR.out 2
      have rz : w.heap.size < w6.heap.size := HR.out.lt
      have hLW : L = WN := by omega
      subst hLW
      have tL : ((L : Int) == (L : Int)) = true := by simp
      have hE2 : E2 ≠ 0 := by
        rcases H2.out with ⟨_, h, _⟩ | h
        · omega
        · exact h
      have te : (E2 == 0) = false := by simp [hE2]
      have tn : (E2 != 0) = true := by simp [hE2]
      clear H2 hE2 hk0
      go_wp2_with fail
      refine (works_c _).mono ?_
      rintro e w9 ⟨rfl, hb9⟩
      go_wp2_with fail
      go_ret
      exact ⟨rfl, bup hB hb9⟩
    · have L3 := Lib.hid hL3
      replace HF := Lib.hid (HF.out.below hb3)
      replace HR := Lib.hid (RowIs.below HR.out hb3)
      replace hB := bup hB hb3
      clear r0 r1 r2 rz hb3
      have r0 : w3.cell? ⟨w.heap.size, 0, none⟩ = some (.int .i64 s) := RowIs.cell HR.out 0
      have r1 : w3.cell? ⟨w.heap.size, 1, none⟩ = some (.int .i64 m) := RowIs.cell HR.out 1
      have r2 : w3.cell? ⟨w.heap.size, 2, none⟩ = some (.slice a n cap) := RowIs.cell HR.out 2
      have rz : w.heap.size < w3.heap.size := HR.out.lt
      clear HSC hL3
      have H9 := Lib.hid (HK3.out hk0)
      go_wp2_with fail
      refine (bits_c s xs _ (by omega)).mono ?_
      rintro e w4 ⟨p4, c4, rfl, hL4, hb4⟩
      have L4 := Lib.hid hL4
      replace HF := Lib.hid (HF.out.below hb4)
      replace HR := Lib.hid (RowIs.below HR.out hb4)
      replace hB := bup hB hb4
      have H34 := Lib.hid hb4
      clear r0 r1 r2 rz hb4
      have r0 : w4.cell? ⟨w.heap.size, 0, none⟩ = some (.int .i64 s) := RowIs.cell HR.out 0
      have r1 : w4.cell? ⟨w.heap.size, 1, none⟩ = some (.int .i64 m) := RowIs.cell HR.out 1
      have r2 : w4.cell? ⟨w.heap.size, 2, none⟩ = some (.slice a n cap) := RowIs.cell HR.out 2
      have rz : w.heap.size < w4.heap.size := HR.out.lt
      clear hL4
      have ho := bits_len xs s
      obtain ⟨E2, hE2⟩ : ∃ E2, shortE s n f (bitsL s xs).length (natG (bitsL s xs)) = E2 := ⟨_, rfl⟩
      obtain ⟨N2, hN2⟩ : ∃ N2, shortN s n f (bitsL s xs).length (natG (bitsL s xs)) = N2 := ⟨_, rfl⟩
      have h2 : (E2 = 0 ∧ 1 ≤ N2 ∧ N2 ≤ 6 ∧ (L : Int) ≤ WN - N2) ∨ E2 ≠ 0 := by
        by_cases h : E2 = 0
        · obtain ⟨u1, u2⟩ := HSB.out _ _ (hE2.trans h)
          rw [shortN, hE2, if_pos h] at hN2
          rw [hN2] at u1 u2
          exact .inl ⟨h, by omega, by omega, u1⟩
        · exact .inr h
      have HC5 := Lib.hid (fun (x : World) (h : Wants x a n f) (hl : Lst x (bitsL s xs) p4 c4) => CheckShort_yes_c s m a n cap f p4 (bitsL s xs).length c4 (natG (bitsL s xs)) x h (by omega) hl.cells (by omega) hl.room hl.fit HE.out)
      simp only [hE2, hN2] at HC5
      have H2 := Lib.hid h2
      clear hE2 hN2 h2
      go_wp2_with fail
      refine (HC5.out _ HF.out L4.out).mono ?_
      rintro e w5 ⟨rfl, hb5⟩
      replace HF := Lib.hid (HF.out.below hb5)
      replace HR := Lib.hid (RowIs.below HR.out hb5)
      replace hB := bup hB hb5
      have H35 := Lib.hid (bup H34.out hb5)
      clear r0 r1 r2 rz hb5
      have r0 : w5.cell? ⟨w.heap.size, 0, none⟩ = some (.int .i64 s) := RowIs.cell HR.out 0
      have r1 : w5.cell? ⟨w.heap.size, 1, none⟩ = some (.int .i64 m) := RowIs.cell HR.out 1
      have r2 : w5.cell? ⟨w.heap.size, 2, none⟩ = some (.slice a n cap) := RowIs.cell HR.out 2
      have rz : w.heap.size < w5.heap.size := HR.out.lt
      clear HC5 L4
      go_wp2_with fail
      refine (HWC.out _ HF.out).mono ?_
      rintro e w6 ⟨rfl, hb6⟩
      replace HF := Lib.hid (HF.out.below hb6)
      replace HR := Lib.hid (RowIs.below HR.out hb6)
      replace hB := bup hB hb6
      have H36 := Lib.hid (bup H35.out hb6)
      clear r0 r1 r2 rz hb6
      have r0 : w6.cell? ⟨w.heap.size, 0, none⟩ = some (.int .i64 s) := RowIs.cell HR.out 0
      have r1 : w6.cell? ⟨w.heap.size, 1, none⟩ = some (.int .i64 m) := RowIs.cell HR.out 1
      have r2 : w6.cell? ⟨w.heap.size, 2, none⟩ = some (.slice a n cap) := RowIs.cell HR.out 2
      have rz : w.heap.size < w6.heap.size := HR.out.lt
      have hbw : Below w3.heap.size w3 w6 := H36.out
      replace L3 := Lib.hid (L3.out.below hbw)
      clear hbw H36 H35 H34
      have tL : ((L : Int) == (WN : Int)) = false := by simp; omega
      have hne : ¬ L = WN := by omega
      have hsn : shortN s n f X.length (natG X) = k := by rw [shortN, if_pos H9.out, HKB.out]
      have HC7 := Lib.hid (fun (x : World) (h : Wants x a n f) (hl : Lst x X p3 c3) => CheckShort_yes_c s m a n cap f p3 X.length c3 (natG X) x h (by omega) hl.cells (by omega) hl.room hl.fit HE.out)
      have HC8 := Lib.hid (fun (x : World) (h : Wants x a n f) (hl : Lst x X p3 c3) => rcheckShort_yes_c s m a n cap f p3 X.length c3 (natG X) x h hl.cells (by omega) HE.out)
      simp only [H9.out, hsn] at HC7 HC8
      have hw1 : IntKind.i64.wrap ((WN : Int) - k) = (WN : Int) - k := IntWalk.i64_in _ (by omega)
      have tk : (k == k) = true := by simp
      have u1 : decide ((L : Int) ≤ (WN : Int) - k) = true := decide_eq_true (by omega)
      rcases H2.out with ⟨rfl, hn1, hn6, hn2⟩ | hE2
      · have tn1 : decide (N2 < 1) = false := decide_eq_false (by omega)
        have hw2 : IntKind.i64.wrap ((WN : Int) - N2) = (WN : Int) - N2 := IntWalk.i64_in _ (by omega)
        have u2 : decide ((L : Int) ≤ (WN : Int) - N2) = true := decide_eq_true (by omega)
        clear H2 H9 hsn
        go_wp2_with fail
        refine (HC7.out _ HF.out L3.out).mono ?_
        rintro e w7 ⟨rfl, hb7⟩
        replace HF := Lib.hid (HF.out.below hb7)
        replace HR := Lib.hid (RowIs.below HR.out hb7)
        replace L3 := Lib.hid (L3.out.below hb7)
        replace hB := bup hB hb7
        clear r0 r1 r2 rz hb7
        have r0 : w7.cell? ⟨w.heap.size, 0, none⟩ = some (.int .i64 s) := RowIs.cell HR.out 0
        have r1 : w7.cell? ⟨w.heap.size, 1, none⟩ = some (.int .i64 m) := RowIs.cell HR.out 1
        have r2 : w7.cell? ⟨w.heap.size, 2, none⟩ = some (.slice a n cap) := RowIs.cell HR.out 2
        have rz : w.heap.size < w7.heap.size := HR.out.lt
        go_wp2_with fail
        refine (HC8.out _ HF.out L3.out).mono ?_
        rintro e w8 ⟨rfl, hb8⟩
        replace HF := Lib.hid (HF.out.below hb8)
        replace HR := Lib.hid (RowIs.below HR.out hb8)
        replace hB := bup hB hb8
        clear r0 r1 r2 rz hb8
        have r0 : w8.cell? ⟨w.heap.size, 0, none⟩ = some (.int .i64 s) := RowIs.cell HR.out 0
        have r1 : w8.cell? ⟨w.heap.size, 1, none⟩ = some (.int .i64 m) := RowIs.cell HR.out 1
        have r2 : w8.cell? ⟨w.heap.size, 2, none⟩ = some (.slice a n cap) := RowIs.cell HR.out 2
        have rz : w.heap.size < w8.heap.size := HR.out.lt
        go_wp2_with fail
        refine (works_c _).mono ?_
        rintro e w9 ⟨rfl, hb9⟩
        go_wp2_with fail
        go_ret
        exact ⟨rfl, bup hB hb9⟩
      · have te : (E2 == 0) = false := by simp [hE2]
        have tn : (E2 != 0) = true := by simp [hE2]
        clear H2 H9 hsn hE2
        go_wp2_with fail
        refine (HC7.out _ HF.out L3.out).mono ?_
        rintro e w7 ⟨rfl, hb7⟩
        replace HF := Lib.hid (HF.out.below hb7)
        replace HR := Lib.hid (RowIs.below HR.out hb7)
        replace L3 := Lib.hid (L3.out.below hb7)
        replace hB := bup hB hb7
        clear r0 r1 r2 rz hb7
        have r0 : w7.cell? ⟨w.heap.size, 0, none⟩ = some (.int .i64 s) := RowIs.cell HR.out 0
        have r1 : w7.cell? ⟨w.heap.size, 1, none⟩ = some (.int .i64 m) := RowIs.cell HR.out 1
        have r2 : w7.cell? ⟨w.heap.size, 2, none⟩ = some (.slice a n cap) := RowIs.cell HR.out 2
        have rz : w.heap.size < w7.heap.size := HR.out.lt
        go_wp2_with fail
        refine (HC8.out _ HF.out L3.out).mono ?_
        rintro e w8 ⟨rfl, hb8⟩
        replace HF := Lib.hid (HF.out.below hb8)
        replace HR := Lib.hid (RowIs.below HR.out hb8)
        replace hB := bup hB hb8
        clear r0 r1 r2 rz hb8
        have r0 : w8.cell? ⟨w.heap.size, 0, none⟩ = some (.int .i64 s) := RowIs.cell HR.out 0
        have r1 : w8.cell? ⟨w.heap.size, 1, none⟩ = some (.int .i64 m) := RowIs.cell HR.out 1
        have r2 : w8.cell? ⟨w.heap.size, 2, none⟩ = some (.slice a n cap) := RowIs.cell HR.out 2
        have rz : w.heap.size < w8.heap.size := HR.out.lt
        go_wp2_with fail
        refine (works_c _).mono ?_
        rintro e w9 ⟨rfl, hb9⟩
        go_wp2_with fail
        go_ret
        exact ⟨rfl, bup hB hb9⟩

end Go.Proofs.Ytbjgbgchagfokaa

namespace Go.Proofs.Ytbjgbgchagfokaa
open Go Go.RowKit Go.ChangeShapes Go.WideShapes Go.ChangeAt

theorem own_served : ownKnob Try.prog.godebug = .none := by kernel_rfl
theorem laidOut_served : laidOutB Try.prog = true := by kernel_rfl

set_option maxRecDepth 100000 in
theorem served_lifted (os : Os) (started : os.Started) (H : Type) (enc : TypeId × Value → H) :
    ReturnsInHanded {} Try.checked os 9 .any (Rows.mouldServedSpec.pre6 enc Try.prog Try.f9 Rows.mouldServedRow.domain false) (Rows.mouldServedSpec.post enc Try.prog Try.f9 false true false false) := by
  refine returnsInHanded_of_change (C := Try.checked) own_served started (by kernel_rfl) Try.func9
    (ChangeSpec.witness6 (enc := enc) (C := Try.checked) false ⟨#[], #[.agg #[.int .i64 0, .int .i64 0, .slice .none 0 0], .int .u16 0], []⟩ 8 (by kernel_rfl) (by kernel_rfl) (by kernel_rfl) (by kernel_rfl)) ?_
  intro W base args ds gs before hval0 hW hcnd _
  have hval : ∀ (j : Nat) t v, Try.f9.params[j]? = some t → args[j]? = some v → Value.okWide Try.prog W .any base t v := hval0
  have hW' := hW
  obtain ⟨p, q, hA0, hV, rfl, hfz, hnd⟩ := hW
  have hA : DataW.TrodAll enc Try.prog W 0 (fun _ => true) true Try.f9.params.toList args.toList ds p := hA0
  rw [Try.params9] at hA hval
  obtain ⟨v0, vs0, d0, ds0, p0, q0, hargs, rfl, rfl, h0, r0⟩ := trodAll_cons hA
  obtain ⟨v1, vs1, d1, ds1, p1, q1, rfl, rfl, rfl, h1, r1⟩ := trodAll_cons r0
  obtain ⟨rfl, rfl, rfl⟩ := trodAll_nil r1
  obtain rfl : args = #[v0, v1] := by cases args; simp_all
  obtain ⟨rfl, rfl⟩ := trodVars_none hV
  obtain ⟨S0, M0, a0, n0, cap0, f0, rfl, hF0⟩ := open_book (hval 0 24 v0 rfl rfl) h0
  obtain ⟨z1, hz1, _, _, hw1⟩ := open_int Try.underlying49 (hval 1 49 v1 rfl rfl) h1
  subst hz1
  refine (law_served_c S0 M0 a0 n0 cap0 f0 z1 W hF0).mono fun e W' ⟨he, hb⟩ => ?_
  subst he
  have hlt := hW'.lt
  simp only [List.append_nil, List.mem_append] at hlt
  refine ⟨_, rfl, _, _, _, [], p0 ++ (p1 ++ []), [], hW', trodAll_mk1 (shut_bool Try.underlying4 true), ?_, rfl, hb.frame _, fun h => Bool.noConfusion h⟩
  exact trodAll_cons_mk (Below.trod laidOut_served (by kernel_rfl) (of_decide_eq_true (by kernel_rfl)) h0 hb fun x hx => hlt x (by simp [hx])) (trodAll_cons_mk (Below.trod laidOut_served (by kernel_rfl) (of_decide_eq_true (by kernel_rfl)) h1 hb fun x hx => hlt x (by simp [hx])) trodAll_mk0)

theorem served_holds : Rows.MouldServedSaid :=
  OpenClaim.holds_of_wide 9 Try.f9 rfl rfl rfl rfl rfl rfl rfl ⟨rfl, rfl, rfl, rfl, rfl⟩ rfl rfl rfl rfl rfl (by kernel_rfl) Try.func9 (by kernel_rfl)
    (of_decide_eq_true (by kernel_rfl)) (by unfold Func.isWrapper; first | (rw [if_pos (by decide +kernel)]; kernel_rfl) | (rw [if_neg (by decide +kernel)]; exact ⟨rfl, rfl⟩))
    (fun os started H enc _ => served_lifted os started H enc)
end Go.Proofs.Ytbjgbgchagfokaa
