/- The frame of the rows: how a list of bytes opens, and small numbers. -/
import Derived.Test.YtbjgbgchagfokaaProg
import Derived.Test.YtbjgbgchagfokaaBasaa
import Derived.Test.YtbjgbgchagfokaaBasbd
import Derived.Shelf.Abstract
import Derived.Test.YtbjgbgchagfokaaBasau
import Derived.Test.YtbjgbgchagfokaaBasap
import Derived.Test.YtbjgbgchagfokaaBasaz
import Derived.Test.YtbjgbgchagfokaaBasay
import Derived.Test.YtbjgbgchagfokaaBasba
import Derived.Test.YtbjgbgchagfokaaBasab
import Derived.StillTail
import Derived.Test.YtbjgbgchagfokaaBasac
import Derived.Test.YtbjgbgchagfokaaBasai
import Derived.Test.YtbjgbgchagfokaaBasaj
import Derived.Deep.Upon
import Derived.Maps.AppendAt
import Derived.Laws.OwnMore
namespace Go.Proofs.Ytbjgbgchagfokaa
open Go Go.RowKit Go.ChangeShapes Go.WideShapes Go.Deep Go.Joins

theorem cellsU8 : Try.prog.cellsOf 5 = 1 := by kernel_rfl
theorem wfu16 {n : Int} (h : (Lit.int .u16 n).wf = true) : 0 ≤ n ∧ n ≤ 65535 := by
  simp [Lit.wf] at h
  have h1 : IntKind.u16.min = 0 := by decide
  have h2 : IntKind.u16.max = 65535 := by decide
  omega
theorem wfu8 {n : Int} (h : (Lit.int .u8 n).wf = true) : 0 ≤ n ∧ n ≤ 255 := by
  simp [Lit.wf] at h
  have h1 : IntKind.u8.min = 0 := by decide
  have h2 : IntKind.u8.max = 255 := by decide
  omega

section
variable {H : Type} {enc : TypeId × Value → H} {W : World} {sp : Nat → Bool}

set_option maxRecDepth 100000 in
theorem open_bytes {base : Nat} {v : Value} {d : DataW H} {p : List MemPlace} (hok : Value.okWide Try.prog W .any base 42 v) (h : DataW.Trod enc Try.prog W 0 sp true 42 v d p) :
    ∃ (a : Option Addr) (n cap : Nat) (f : Nat → Int), v = .slice a n cap ∧ (Cells W a n fun i => .int .u8 (f i)) ∧ ∀ i, i < n → 0 ≤ f i ∧ f i ≤ 255 := by
  obtain ⟨a, n, cap, rfl⟩ := okWide_slice Try.underlying42 hok
  obtain ⟨fuel, hf⟩ := h
  rcases open_ints Try.underlying42 Try.underlying5 cellsU8 hf with ⟨hcs, _⟩ | ⟨a', len, cap', zs, hcs, _, hl, _, hk, _, hi, hw⟩
  · simp [Value.cells] at hcs
    obtain ⟨rfl, rfl, rfl⟩ := hcs
    exact ⟨none, 0, 0, fun _ => 0, rfl, .inl rfl, fun i hi => absurd hi (Nat.not_lt_zero i)⟩
  · simp [Value.cells] at hcs
    obtain ⟨rfl, rfl, rfl⟩ := hcs
    have hlk : n ≤ zs.length := by rw [hk]; split <;> omega
    have hb : ∀ i, i < n → 0 ≤ zs.getD i 0 ∧ zs.getD i 0 ≤ 255 := fun i hin => by
      have hz : i < zs.length := by omega
      have e : zs.getD i 0 = zs[i] := by simp [List.getD, hz]
      rw [e]
      exact wfu8 (hw _ (List.getElem_mem hz))
    refine ⟨some a', n, cap, fun i => zs.getD i 0, rfl, ?_, hb⟩
    by_cases h0 : n = 0
    · exact .inl h0
    obtain ⟨b, off, rfl, hc⟩ := ints_at hi (by omega)
    exact .inr ⟨b, off, rfl, World.block_lt_of_cell? W _ (hc 0 (by omega)), fun i hin => hc i (by omega)⟩
end

end Go.Proofs.Ytbjgbgchagfokaa

namespace Go.Proofs.Ytbjgbgchagfokaa
open Go Go.RowKit Go.Shelf

/-- Is a mould wanted by one of these shops, as the document says it. -/
def wantB (f : Nat → W2) (g : Nat → Int) (len y : Nat) : Nat → Bool
  | 0 => false
  | k + 1 => wantB f g len y k || (decide ((f k).m = (y : Int)) && hasB g (f k).s len)
def wantR (f : Nat → W2) (n : Nat) (g : Nat → Int) (len k : Nat) : List Nat := (List.range k).filter fun y => wantB f g len y n
theorem wantR_len (f : Nat → W2) (n : Nat) (g : Nat → Int) (len k : Nat) : (wantR f n g len k).length ≤ k := by
  have := List.length_filter_le (fun y => wantB f g len y n) (List.range k)
  rw [List.length_range] at this
  exact this
theorem wantR_succ (f : Nat → W2) (n : Nat) (g : Nat → Int) (len k : Nat) : wantR f n g len (k + 1) = wantR f n g len k ++ if wantB f g len k n then [k] else [] := by
  unfold wantR
  rw [List.range_succ, List.filter_append]
  congr 1
  cases h : wantB f g len k n <;> simp [h]

set_option maxRecDepth 100000 in
set_option maxHeartbeats 8000000 in
theorem Wanted_c (s m : Nat) (a : Option Addr) (n cap : Nat) (f : Nat → W2) (la : Option Addr) (len lcap : Nat) (g : Nat → Int) (w : World) (hf : Wants w a n f) (hn : n ≤ 14) (hm : m ≤ 6) (hg : Ints w la len g) (hl : len ≤ 1048576) :
    Calls Try.prog 72 #[bookV s m a n cap, .slice la len lcap] w fun e w' => ∃ p c, e = .returned (.slice p (wantR f n g len m).length c) ∧ Lst w' (wantR f n g len m) p c ∧ Below w.heap.size w w' := by
  obtain ⟨W, hW⟩ : ∃ W, w.alloc (.cells #[.int .i64 s, .int .i64 m, .slice a n cap] 24) = W := ⟨_, rfl⟩
  have hB : Below w.heap.size w W := by rw [← hW]; exact Below.alloc1 (Below.refl _ _) _ (Nat.le_refl _)
  have hR : RowIs W w.heap.size #[.int .i64 s, .int .i64 m, .slice a n cap] 24 := by rw [← hW]; exact heap_new_at _ _ _ rfl
  have HR := Lib.hid hR
  have HF := Lib.hid (hf.below hB)
  have HG := Lib.hid (Cells.below hg hB)
  have HB := Lib.hid hB
  clear hR hf hg hB
  go_enter Try.func72, Try.ntmps72
  go_wp2_with fail
  clear hW
  go_loopw [5, 6, 7, 8] (fun x i _ _ wr => ∃ (k : Nat) (v : Value), k ≤ m ∧ i = .int .i64 k ∧ v = x ∧ Own wr W.heap.size (wantR f n g len k) v ∧ Below W.heap.size W wr) (fun _ i _ _ _ => m - (intOf i).toNat)
  case atStart => exact ⟨0, _, Nat.zero_le _, rfl, rfl, own_nil _ _, Below.refl _ _⟩
  case round =>
    obtain ⟨k, v, hk, rfl, rfl, ho, hbr⟩ := hrel
    have hsz := hbr.size
    have rz : w.heap.size < W.heap.size := HR.out.lt
    have hr := HR.out.below hbr
    have r0 : wr.cell? ⟨w.heap.size, 0, none⟩ = some (.int .i64 s) := RowIs.cell hr 0
    have r1 : wr.cell? ⟨w.heap.size, 1, none⟩ = some (.int .i64 m) := RowIs.cell hr 1
    have r2 : wr.cell? ⟨w.heap.size, 2, none⟩ = some (.slice a n cap) := RowIs.cell hr 2
    have HO := Lib.hid ho
    have Hbr := Lib.hid hbr
    clear hr ho hbr
    have hwl := wantR_len f n g len k
    by_cases hlt : k < m
    · go_wp2_with fail
      clear r0 r1 r2
      go_loopw [7, 8] (fun b j wi => ∃ (q : Nat), q ≤ n ∧ j = .int .i64 q ∧ b = .bool (wantB f g len k q) ∧ Own wi W.heap.size (wantR f n g len k) v ∧ Below W.heap.size W wi) (fun _ j _ => n - (intOf j).toNat)
      case atStart => exact ⟨0, Nat.zero_le _, rfl, rfl, HO.out, Hbr.out⟩
      case round =>
        obtain ⟨q, hq, rfl, rfl, ho, hbi⟩ := hrel
        clear HO Hbr hsz
        have hiz := hbi.size
        have hr := HR.out.below hbi
        have r0 : wr.cell? ⟨w.heap.size, 0, none⟩ = some (.int .i64 s) := RowIs.cell hr 0
        have r1 : wr.cell? ⟨w.heap.size, 1, none⟩ = some (.int .i64 m) := RowIs.cell hr 1
        have r2 : wr.cell? ⟨w.heap.size, 2, none⟩ = some (.slice a n cap) := RowIs.cell hr 2
        have HO := Lib.hid ho
        have Hbi := Lib.hid hbi
        clear hr ho hbi
        by_cases hqn : q < n
        · obtain ⟨wb, wo, rfl, hwb, ws, wm⟩ := Wants.at (HF.out.below Hbi.out) q hqn
          cases hb0 : wantB f g len k q with
          | true =>
            go_wp2_with fail
            go_roundw
            case rel => exact ⟨q + 1, by omega, by go_num, by rw [wantB, hb0]; rfl, HO.out, Hbi.out⟩
            case measure => simp [intOf]; omega
          | false =>
            by_cases hm0 : (f q).m = (k : Int)
            · have t0 : ((f q).m == (k : Int)) = true := by simp [hm0]
              have HM := Lib.hid hm0
              clear hm0
              go_wp2_with fail
              refine (Has_c (f q).s la len lcap g _ (Cells.below HG.out Hbi.out) hl).mono ?_
              rintro e w1 ⟨rfl, rfl⟩
              cases hh : hasB g (f q).s len with
              | true =>
                go_wp2_with fail
                go_roundw
                case rel => exact ⟨q + 1, by omega, by go_num, by rw [wantB, hb0, hh, decide_eq_true HM.out]; rfl, HO.out, Hbi.out⟩
                case measure => simp [intOf]; omega
              | false =>
                go_wp2_with fail
                go_roundw
                case rel => exact ⟨q + 1, by omega, by go_num, by rw [wantB, hb0, hh, decide_eq_true HM.out]; rfl, HO.out, Hbi.out⟩
                case measure => simp [intOf]; omega
            · have t0 : ((f q).m == (k : Int)) = false := by simp [hm0]
              have HM := Lib.hid hm0
              clear hm0
              go_wp2_with fail
              go_roundw
              case rel => exact ⟨q + 1, by omega, by go_num, by rw [wantB, hb0, decide_eq_false HM.out]; rfl, HO.out, Hbi.out⟩
              case measure => simp [intOf]; omega
        · obtain rfl : q = n := by omega
          cases hb0 : wantB f g len k q with
          | true =>
            obtain ⟨X, hX⟩ : ∃ X, wr.alloc (.cells #[.int .i64 (k : Int)] 3) = X := ⟨_, rfl⟩
            have hXr : RowIs X wr.heap.size #[.int .i64 (k : Int)] 3 := by rw [← hX]; exact heap_new_at _ _ _ rfl
            have hXo : Own X W.heap.size (wantR f q g len k) v := by rw [← hX]; exact HO.out.alloc _
            have hXb : Below wr.heap.size wr X := by rw [← hX]; exact Below.alloc1 (Below.refl _ _) _ (Nat.le_refl _)
            obtain ⟨v', A', hrun, hown', hgr, hbA⟩ := hXo.append wr.heap.size k hXr (by have := hXb.size; omega) (by omega)
            have Hown := Lib.hid hown'
            have HbX := Lib.hid ((Hbi.out.trans (hXb.mono (by omega))).trans hbA)
            clear hXr hXo hown' hgr hXb hbA
            go_wp2_with (at_builtin; refine wpList_append_run rfl _ _ 25 rfl rfl rfl hrun ?_)
            go_roundw
            case rel => exact ⟨k + 1, _, by omega, by go_num, rfl, by rw [wantR_succ, hb0]; exact Hown.out, HbX.out⟩
            case measure => simp [intOf]; omega
          | false =>
            go_wp2_with fail
            go_roundw
            case rel => exact ⟨k + 1, _, by omega, by go_num, rfl, by rw [wantR_succ, hb0]; simpa using HO.out, Hbi.out⟩
            case measure => simp [intOf]; omega
    · obtain rfl : k = m := by omega
      obtain ⟨p, c, rfl, hL, -⟩ := HO.out.lst
      go_wp2_with fail
      go_ret
      exact ⟨p, c, rfl, hL, bup HB.out Hbr.out⟩

end Go.Proofs.Ytbjgbgchagfokaa

namespace Go.Proofs.Ytbjgbgchagfokaa
open Go Go.RowKit

theorem ldF_pos (f : Nat → W2) (p : Nat → Bool) (x : Nat) : ∀ n, 0 < ldF f p x n ↔ ∃ i, i < n ∧ p i = true ∧ ((f i).s = x ∨ 6 + (f i).m = x)
  | 0 => by simp [ldF]
  | n + 1 => by
    have ih := ldF_pos f p x n
    have h0 := (ldF_bd f p x n).1
    rw [ldF]
    by_cases h : p n = true ∧ ((f n).s = x ∨ 6 + (f n).m = x)
    · rw [if_pos h]
      exact ⟨fun _ => ⟨n, by omega, h⟩, fun _ => by omega⟩
    · rw [if_neg h, Int.add_zero, ih]
      exact ⟨fun ⟨i, hi, hp⟩ => ⟨i, by omega, hp⟩, fun ⟨i, hi, hp⟩ => ⟨i, by
        by_cases e : i = n
        · rw [e] at hp; exact absurd hp h
        · omega, hp⟩⟩

/-- Some of the first numbers, in their order, are a list. -/
theorem listB_filt (p : Nat → Bool) (k : Nat) {T : Int} (hT : ∀ y, y ∈ (List.range k).filter p → (y : Int) < T) : listB (natG ((List.range k).filter p)) T ((List.range k).filter p).length = true := by
  have hs : List.Pairwise (· < ·) ((List.range k).filter p) := List.Pairwise.filter _ List.pairwise_lt_range
  rw [List.pairwise_iff_getElem] at hs
  rw [listB_iff]
  intro i hi
  have e : ∀ j (hj : j < ((List.range k).filter p).length), natG ((List.range k).filter p) j = ((((List.range k).filter p)[j] : Nat) : Int) := fun j hj => by
    unfold natG
    rw [List.getD_eq_getElem?_getD, List.getElem?_eq_getElem hj, Option.getD_some]
  refine ⟨⟨by unfold natG; omega, by rw [e i hi]; exact hT _ (List.getElem_mem hi)⟩, fun h0 => ?_⟩
  rw [e i hi, e (i - 1) (by omega)]
  have := hs (i - 1) i (by omega) hi (by omega)
  omega
theorem natG_has (x : List Nat) (v : Nat) : (∃ i, i < x.length ∧ natG x i = (v : Int)) ↔ v ∈ x :=
  ⟨fun ⟨i, hi, e⟩ => by
    have := natG_mem hi
    unfold natG at e
    rwa [show x.getD i 0 = v by omega] at this, fun h => by
    obtain ⟨i, hi, e⟩ := mem_natG h
    exact ⟨i, hi, by unfold natG; rw [e]⟩⟩
theorem cnt_list {x : List Nat} {T : Nat} (h : listB (natG x) T x.length = true) : cnt (fun v => v ∈ x) T = x.length := by
  rw [← listB_cnt h]
  exact (cnt_congr fun v _ => natG_has x v).symm

section
variable {s M n : Nat} {f : Nat → W2} (hG : GoodBook s M n f)
include hG

theorem shop_wants {x : Nat} (hx : x < 6) : 0 < bookL f n x ↔ WantS f n x := by
  rw [show bookL f n x = ldF f (fun _ => true) x n from rfl, ldF_pos]
  exact ⟨fun ⟨i, hi, _, h⟩ => ⟨i, hi, by have := (hG.2.2.2 i hi).2; omega⟩, fun ⟨i, hi, e⟩ => ⟨i, hi, rfl, .inl e⟩⟩
theorem mould_wants (x : List Nat) (y : Nat) : 0 < shopL f (natG x) x.length n (6 + y) ↔ WantM f n (InL x) y := by
  rw [show shopL f (natG x) x.length n (6 + y) = ldF f (fun i => hasB (natG x) (f i).s x.length) (6 + y) n from rfl, ldF_pos]
  constructor
  · intro ⟨i, hi, hp, h⟩
    obtain ⟨j, hj, e⟩ := (hasB_iff _ _ _).1 hp
    have b := hG.2.2.2 i hi
    have b2 := hG.1
    refine ⟨i, hi, ⟨x.getD j 0, natG_mem hj, ?_⟩, by omega⟩
    rw [← e]
    rfl
  · intro ⟨i, hi, ⟨v, hv, e⟩, h⟩
    obtain ⟨j, hj, e2⟩ := (natG_has x v).2 hv
    exact ⟨i, hi, (hasB_iff _ _ _).2 ⟨j, hj, by rw [e2, e]⟩, .inr (by omega)⟩
theorem few_key : (fun x => fewL f n x) = tooFewK f n 6 := by
  funext x
  show (x.length : Int) - ((wbL (shopL f (natG x) x.length n) 6).length : Int) = _
  unfold tooFewK
  have h : listB (natG (wbL (shopL f (natG x) x.length n) 6)) (6 : Nat) (wbL (shopL f (natG x) x.length n) 6).length = true := listB_filt _ 6 fun y hy => by
    have := List.mem_range.1 (List.mem_filter.1 hy).1
    omega
  rw [← cnt_list h, cnt_congr (q := WantM f n (InL x))]
  intro y hy
  rw [wbL, List.mem_filter, List.mem_range, decide_eq_true_eq, mould_wants hG]
  exact ⟨fun h => h.2, fun h => ⟨hy, h⟩⟩

/-- The cover that is returned. -/
theorem cover_ok (hE : bookE s M n f = 0) : coverE s M n f (covS f n s (bookL f n)).length (natG (covS f n s (bookL f n))) (covM f n s (bookL f n)).length (natG (covM f n s (bookL f n))) = 0 ∧
    (covS f n s (bookL f n)).length + (covM f n s (bookL f n)).length = (bestOf f n).length ∧ (covS f n s (bookL f n)).length ≤ s ∧ (covM f n s (bookL f n)).length ≤ M := by
  obtain ⟨g1, g2, g3, g4⟩ := id hG
  have hS : ∀ i, i < n → 0 ≤ (f i).s ∧ (f i).s < s := fun i hi => (g4 i hi).1
  have hT : ∀ i, i < n → 0 ≤ (f i).m ∧ (f i).m < (6 : Nat) := fun i hi => ⟨(g4 i hi).2.1, by have := (g4 i hi).2.2; omega⟩
  obtain ⟨X, hX⟩ : ∃ X, shortOf f n s (bookL f n) = X := ⟨_, rfl⟩
  have hb := best_most f n
  have hk : shortOf f n s (bookL f n) = bestK (tooFewK f n 6) [] (tailsL (fun _ i => decide (0 < bookL f n i)) s s []) := by
    rw [shortOf_best, ← few_key hG]
  obtain ⟨k1, k2, k3⟩ := short_most hS hT (fun _ i => decide (0 < bookL f n i)) (fun b j hj => by
    show decide (0 < bookL f n j) = true ↔ _
    rw [decide_eq_true_eq]
    exact shop_wants hG (by omega)) hb.1 (fun M' h => by rw [hb.2.1]; exact hb.2.2.2 M' h)
  rw [← hk, hX] at k1 k2 k3
  rw [hb.2.1] at k3
  -- the shops
  have m1 : ∀ v, v ∈ covS f n s (bookL f n) ↔ v < s ∧ WantS f n v ∧ v ∉ X := fun v => by
    unfold covS othL
    rw [hX, List.mem_filter, List.mem_range, Bool.and_eq_true, decide_eq_true_eq, Bool.not_eq_true']
    constructor
    · intro ⟨h1, h2, h3⟩
      exact ⟨h1, (shop_wants hG (by omega)).1 h2, fun h => by
        have := (hasB_iff (natG X) (v : Int) X.length).2 ((natG_has X v).2 h)
        rw [show hasB (natG X) (v : Int) X.length = false from h3] at this
        cases this⟩
    · intro ⟨h1, h2, h3⟩
      refine ⟨h1, (shop_wants hG (by omega)).2 h2, ?_⟩
      cases h : hasB (fun j => ((X.getD j 0 : Nat) : Int)) (v : Int) X.length with
      | false => rfl
      | true => exact absurd ((natG_has X v).1 ((hasB_iff (natG X) (v : Int) X.length).1 h)) h3
  have m2 : ∀ y, y ∈ covM f n s (bookL f n) ↔ y < 6 ∧ WantM f n (InL X) y := fun y => by
    unfold covM
    rw [hX, wbL, List.mem_filter, List.mem_range, decide_eq_true_eq]
    exact and_congr_right fun _ => mould_wants hG X y
  have l1 : listB (natG (covS f n s (bookL f n))) s (covS f n s (bookL f n)).length = true := listB_filt _ s fun y hy => by
    have := List.mem_range.1 (List.mem_filter.1 hy).1
    omega
  obtain ⟨pm, hpm⟩ : ∃ pm, covM f n s (bookL f n) = (List.range 6).filter pm := by unfold covM wbL; exact ⟨_, rfl⟩
  have l2 : listB (natG (covM f n s (bookL f n))) M (covM f n s (bookL f n)).length = true := by
    rw [hpm]
    refine listB_filt pm 6 fun y hy => ?_
    rw [← hpm] at hy
    obtain ⟨_, i, hi, _, e⟩ := (m2 y).1 hy
    have := (g4 i hi).2.2
    omega
  have l3 : listB (natG (covM f n s (bookL f n))) (6 : Nat) (covM f n s (bookL f n)).length = true := by
    rw [hpm]
    refine listB_filt pm 6 fun y hy => ?_
    have := List.mem_range.1 (List.mem_filter.1 hy).1
    omega
  obtain ⟨r1, r2⟩ := rest_cover (f := f) (n := n) (S := s) (InL X) fun x hx h => ((k1 x ((inL_nat X x).1 h)).2)
  have c1 : cnt (fun x : Nat => (∃ i, i < n ∧ (f i).s = (x : Int)) ∧ ¬ InL X (x : Int)) s = (covS f n s (bookL f n)).length := by
    rw [← cnt_list l1]
    exact cnt_congr fun v hv => by rw [m1, inL_nat]; exact ⟨fun h => ⟨hv, h.1, h.2⟩, fun h => ⟨h.2.1, h.2.2⟩⟩
  have c2 : cnt (fun x : Nat => InL X (x : Int)) s = X.length := by
    rw [← k2]
    exact cnt_congr fun v _ => inL_nat X v
  have c3 : cnt (WantM f n (InL X)) 6 = (covM f n s (bookL f n)).length := by
    rw [← cnt_list l3]
    exact cnt_congr fun v hv => by rw [m2]; exact ⟨fun h => ⟨hv, h⟩, fun h => h.2⟩
  have hc : coverB f (covS f n s (bookL f n)).length (natG (covS f n s (bookL f n))) (covM f n s (bookL f n)).length (natG (covM f n s (bookL f n))) n = true := by
    rw [coverB_iff]
    intro i hi
    rcases r1 i hi with ⟨_, h⟩ | h
    · refine .inl ?_
      obtain ⟨v, hv⟩ := Int.eq_ofNat_of_zero_le (hS i hi).1
      have := hS i hi
      rw [hv] at h ⊢
      exact (natG_has _ v).2 ((m1 v).2 ⟨by omega, ⟨i, hi, hv⟩, fun hm => h ((inL_nat X v).2 hm)⟩)
    · refine .inr ?_
      obtain ⟨v, hv⟩ := Int.eq_ofNat_of_zero_le (hT i hi).1
      have := hT i hi
      rw [hv] at h ⊢
      obtain ⟨j, hj, a, e⟩ := h
      exact (natG_has _ v).2 ((m2 v).2 ⟨by omega, j, hj, a, e⟩)
  refine ⟨by rw [coverE, if_pos hE, if_pos ⟨l1, l2⟩, if_pos hc], ?_, ?_, ?_⟩
  · unfold tooFewK at k3
    rw [c1, c2] at r2
    rw [c3] at k3
    omega
  · rw [← cnt_list l1]; exact cnt_atmost _ _
  · rw [← cnt_list l2]; exact cnt_atmost _ _
/-- No list of a day has more wants than a cover has numbers. -/
theorem list_cover (hE : bookE s M n f = 0) {ns nm : Nat} {sh mo : Nat → Int} (h1 : coverE s M n f ns sh nm mo = 0) : (bestOf f n).length ≤ ns + nm := by
  obtain ⟨g1, g2, g3, g4⟩ := id hG
  have hS : ∀ i, i < n → 0 ≤ (f i).s ∧ (f i).s < s := fun i hi => (g4 i hi).1
  have hT : ∀ i, i < n → 0 ≤ (f i).m ∧ (f i).m < M := fun i hi => (g4 i hi).2
  rw [coverE, if_pos hE] at h1
  by_cases hl : listB sh s ns = true ∧ listB mo M nm = true
  · rw [if_pos hl] at h1
    by_cases hc : coverB f ns sh nm mo n = true
    · have hb := best_most f n
      have := cover_most hS hT hb.1 ((coverB_iff f ns sh nm mo n).1 hc)
      rw [hb.2.1, listB_cnt hl.1, listB_cnt hl.2] at this
      exact this
    · rw [if_neg hc] at h1; omega
  · rw [if_neg hl] at h1; omega
end
end Go.Proofs.Ytbjgbgchagfokaa

namespace Go.Proofs.Ytbjgbgchagfokaa
open Go Go.RowKit Go.Shelf

theorem filter_less (p : Nat → Bool) (m : Nat) (h : ∀ y, m ≤ y → p y = false) : ∀ k, m ≤ k → (List.range k).filter p = (List.range m).filter p
  | 0, hk => by rw [show m = 0 by omega]
  | k + 1, hk => by
    by_cases e : m = k + 1
    · rw [e]
    · rw [List.range_succ, List.filter_append, filter_less p m h k (by omega)]
      simp [h k (by omega)]
theorem wantB_iff (f : Nat → W2) (g : Nat → Int) (len y : Nat) : ∀ n, wantB f g len y n = true ↔ ∃ i, i < n ∧ (f i).m = (y : Int) ∧ hasB g (f i).s len = true
  | 0 => by simp [wantB]
  | n + 1 => by
    rw [wantB, Bool.or_eq_true, Bool.and_eq_true, decide_eq_true_eq, wantB_iff f g len y n]
    exact ⟨fun h => by
      rcases h with ⟨i, hi, h⟩ | h
      · exact ⟨i, by omega, h⟩
      · exact ⟨n, by omega, h⟩, fun ⟨i, hi, h⟩ => by
      by_cases e : i = n
      · rw [e] at h; exact .inr h
      · exact .inl ⟨i, by omega, h⟩⟩
/-- The document's moulds are the program's. -/
theorem wanted_same {s m n : Nat} {f : Nat → W2} (hG : GoodBook s m n f) (g : Nat → Int) (len : Nat) : wbL (shopL f g len n) 6 = wantR f n g len m := by
  obtain ⟨g1, g2, g3, g4⟩ := id hG
  have key : ∀ y, decide (0 < shopL f g len n (6 + y)) = wantB f g len y n := fun y => by
    rw [Bool.eq_iff_iff, decide_eq_true_eq, wantB_iff, show shopL f g len n (6 + y) = ldF f (fun i => hasB g (f i).s len) (6 + y) n from rfl, ldF_pos]
    exact ⟨fun ⟨i, hi, hp, h⟩ => ⟨i, hi, by have := g4 i hi; omega, hp⟩, fun ⟨i, hi, h, hp⟩ => ⟨i, hi, hp, .inr (by omega)⟩⟩
  unfold wbL wantR
  rw [show (fun y => decide (0 < shopL f g len n (6 + y))) = fun y => wantB f g len y n from funext key]
  refine filter_less _ m (fun y hy => ?_) 6 (by omega)
  cases h : wantB f g len y n with
  | false => rfl
  | true =>
    obtain ⟨i, hi, e, _⟩ := (wantB_iff f g len y n).1 h
    have := (g4 i hi).2.2
    omega

set_option maxRecDepth 100000 in
set_option maxHeartbeats 16000000 in
theorem rcheckShort_yes_c (s m : Nat) (a : Option Addr) (n cap : Nat) (f : Nat → W2) (la : Option Addr) (len lcap : Nat) (g : Nat → Int) (w : World) (hf : Wants w a n f) (hg : Ints w la len g) (hl : len ≤ 1048576) (hE : bookE s m n f = 0) :
    Calls Try.prog 33 #[bookV s m a n cap, .slice la len lcap] w fun e w' => e = .returned (.tuple #[.int .i64 (shortN s n f len g), .int .i64 (shortE s n f len g)]) ∧ Below w.heap.size w w' := by
  have hGB := book_good hE
  have hn14 := hGB.2.2.1
  have hs6 : s ≤ 6 := by have := hGB.1; omega
  have hm6 : m ≤ 6 := by have := hGB.2.1; omega
  have hwl : wbL (shopL f g len n) 6 = wantR f n g len m := wanted_same hGB g len
  obtain ⟨r, hr⟩ : ∃ r, shortE s n f len g = r := ⟨_, rfl⟩
  obtain ⟨q, hq⟩ : ∃ q, shortN s n f len g = q := ⟨_, rfl⟩
  rw [hr, hq]
  have HR0 := Lib.hid hr
  have HQ0 := Lib.hid hq
  clear hr hq
  obtain ⟨W, hW⟩ : ∃ W, w.alloc (.cells #[.int .i64 s, .int .i64 m, .slice a n cap] 24) = W := ⟨_, rfl⟩
  have hB : Below w.heap.size w W := by rw [← hW]; exact Below.alloc1 (Below.refl _ _) _ (Nat.le_refl _)
  have hR : RowIs W w.heap.size #[.int .i64 s, .int .i64 m, .slice a n cap] 24 := by rw [← hW]; exact heap_new_at _ _ _ rfl
  have r0 : W.cell? ⟨w.heap.size, 0, none⟩ = some (.int .i64 s) := RowIs.cell hR 0
  have r1 : W.cell? ⟨w.heap.size, 1, none⟩ = some (.int .i64 m) := RowIs.cell hR 1
  have r2 : W.cell? ⟨w.heap.size, 2, none⟩ = some (.slice a n cap) := RowIs.cell hR 2
  have rz : w.heap.size < W.heap.size := hR.lt
  have HF := Lib.hid (hf.below hB)
  have HG := Lib.hid (Cells.below hg hB)
  have HR := Lib.hid hR
  have HE := Lib.hid hE
  have HGB := Lib.hid hGB
  have HWL := Lib.hid hwl
  clear hR hf hg hE hGB hwl
  go_enter Try.func33, Try.ntmps33
  go_wp2_with fail
  refine (rcheckBook_c s m a n cap f _ HF.out (by omega)).mono ?_
  rintro e w1 ⟨rfl, hb1⟩
  rw [HE.out]
  replace HF := Lib.hid (HF.out.below hb1)
  replace HG := Lib.hid (Cells.below HG.out hb1)
  replace HR := Lib.hid (RowIs.below HR.out hb1)
  replace hB := bup hB hb1
  clear r0 r1 r2 rz hb1
  have r0 : w1.cell? ⟨w.heap.size, 0, none⟩ = some (.int .i64 s) := RowIs.cell HR.out 0
  have r1 : w1.cell? ⟨w.heap.size, 1, none⟩ = some (.int .i64 m) := RowIs.cell HR.out 1
  have r2 : w1.cell? ⟨w.heap.size, 2, none⟩ = some (.slice a n cap) := RowIs.cell HR.out 2
  have rz : w.heap.size < w1.heap.size := HR.out.lt
  by_cases h0 : len = 0
  · have hr3 : r = 3 := by rw [← HR0.out, shortE, if_pos (.inl h0)]
    have hq0 : q = 0 := by rw [← HQ0.out, shortN, HR0.out, hr3, if_neg (by decide)]
    subst h0 hr3 hq0
    go_wp2_with fail
    refine bodyPost_ret (v := .tuple #[.int .i64 0, .int .i64 3]) (by simp [results, Try.results33, go_sem]) rfl ⟨rfl, hB⟩
  have h0' : ¬ len = 0 := h0
  cases hlb : listB g s len with
  | false =>
    have hr3 : r = 3 := by rw [← HR0.out, shortE, if_pos (.inr hlb)]
    have hq0 : q = 0 := by rw [← HQ0.out, shortN, HR0.out, hr3, if_neg (by decide)]
    subst hr3 hq0
    have HIL := Lib.hid (fun (x : World) (h : Ints x la len g) => isList_c s la len lcap g x h hl)
    rw [hlb] at HIL
    clear hlb
    go_wp2_with fail
    refine (HIL.out _ HG.out).mono ?_
    rintro e w2 ⟨rfl, hb2⟩
    go_wp2_with fail
    refine bodyPost_ret (v := .tuple #[.int .i64 0, .int .i64 3]) (by simp [results, Try.results33, go_sem]) rfl ⟨rfl, bup hB hb2⟩
  | true =>
    have HIL := Lib.hid (fun (x : World) (h : Ints x la len g) => isList_c s la len lcap g x h hl)
    rw [hlb] at HIL
    have HLB := Lib.hid hlb
    clear hlb
    go_wp2_with fail
    refine (HIL.out _ HG.out).mono ?_
    rintro e w2 ⟨rfl, hb2⟩
    replace HF := Lib.hid (HF.out.below hb2)
    replace HG := Lib.hid (Cells.below HG.out hb2)
    replace HR := Lib.hid (RowIs.below HR.out hb2)
    replace hB := bup hB hb2
    clear r0 r1 r2 rz hb2
    have r0 : w2.cell? ⟨w.heap.size, 0, none⟩ = some (.int .i64 s) := RowIs.cell HR.out 0
    have r1 : w2.cell? ⟨w.heap.size, 1, none⟩ = some (.int .i64 m) := RowIs.cell HR.out 1
    have r2 : w2.cell? ⟨w.heap.size, 2, none⟩ = some (.slice a n cap) := RowIs.cell HR.out 2
    have rz : w.heap.size < w2.heap.size := HR.out.lt
    go_wp2_with fail
    refine (LoadsOf_c s m a n cap f _ HF.out HGB.out).mono ?_
    rintro e w3 ⟨b1, b2, rfl, h1, -, -, -, -, hb3⟩
    replace HF := Lib.hid (HF.out.below hb3)
    replace HG := Lib.hid (Cells.below HG.out hb3)
    replace HR := Lib.hid (RowIs.below HR.out hb3)
    have HB := Lib.hid (bup hB hb3)
    have H1 := Lib.hid h1
    clear r0 r1 r2 rz hb3 hB h1
    go_wp2_with fail
    go_loopw [8] (fun i wr => ∃ k : Nat, k ≤ len ∧ i = .int .i64 k ∧ wantAll (bookL f n) g k = true ∧ Below w3.heap.size w3 wr) (fun i _ => len - (intOf i).toNat)
    case atStart => exact ⟨0, Nat.zero_le _, rfl, rfl, Below.refl _ _⟩
    case round =>
      obtain ⟨k, hk, rfl, hwa, hbr⟩ := hrel
      have HWA := Lib.hid hwa
      have Hbr := Lib.hid hbr
      have hsz := hbr.size
      clear hwa hbr
      by_cases hlt : k < len
      · obtain ⟨gb, go, rfl, hgb, hgc⟩ := Cells.at (Cells.below HG.out Hbr.out) k hlt
        have cg := hgc k hlt
        have gr := listB_range g s len HLB.out k hlt
        obtain ⟨y, hy⟩ := Int.eq_ofNat_of_zero_le gr.1
        have hys : y < s := by omega
        rw [hy] at cg
        have HY := Lib.hid hy
        have hrow := RowIs.below H1.out Hbr.out
        have cl : wr.cell? ⟨b1, y, none⟩ = some (.int .i64 (loadF (fun i => (f i).s) y n)) := (RowIs.cell hrow y).trans (rowA_get _ _ y hys)
        have hz1 := hrow.lt
        have hbl : bookL f n y = loadF (fun i => (f i).s) y n := by
          rw [loadF_many]
          exact ldF_shop (by omega) fun i hi => (HGB.out.2.2.2 i hi).2.1
        have HBL := Lib.hid hbl
        have hl0 := (loadF_bd (fun i => (f i).s) y n).1
        obtain ⟨z, hz⟩ : ∃ z, loadF (fun i => (f i).s) y n = z := ⟨_, rfl⟩
        rw [hz] at cl hl0
        have HZ := Lib.hid hz
        clear hgc gr hy hrow hbl hz
        by_cases hz0 : z = 0
        · have hw0 : wantAll (bookL f n) g len = false := wantAll_no k len hlt (by rw [HY.out, Int.toNat_natCast, HBL.out, HZ.out, hz0]; decide)
          have hr3 : r = 16 := by rw [← HR0.out, shortE, if_neg (by rw [HLB.out]; simp [h0']), if_pos hw0]
          have hq0 : q = 0 := by rw [← HQ0.out, shortN, HR0.out, hr3, if_neg (by decide)]
          subst hz0 hr3 hq0
          clear hw0
          go_wp2_with fail
          refine bodyPost_ret (v := .tuple #[.int .i64 0, .int .i64 16]) (by simp [results, Try.results33, go_sem]) rfl ⟨rfl, bup HB.out Hbr.out⟩
        · have tz : (z == 0) = false := by simp [hz0]
          have hzp : 0 < z := by omega
          have HZP := Lib.hid hzp
          clear hz0 hzp hl0
          go_wp2_with fail
          go_roundw
          case rel => exact ⟨k + 1, by omega, by go_num, by rw [wantAll, HWA.out, HY.out, Int.toNat_natCast, HBL.out, HZ.out, decide_eq_true HZP.out]; rfl, Hbr.out⟩
          case measure => simp [intOf]; omega
      · obtain rfl : k = len := by omega
        have hr := HR.out.below Hbr.out
        have r0 : wr.cell? ⟨w.heap.size, 0, none⟩ = some (.int .i64 s) := RowIs.cell hr 0
        have r1 : wr.cell? ⟨w.heap.size, 1, none⟩ = some (.int .i64 m) := RowIs.cell hr 1
        have r2 : wr.cell? ⟨w.heap.size, 2, none⟩ = some (.slice a n cap) := RowIs.cell hr 2
        have rz : w.heap.size < wr.heap.size := hr.lt
        have hlen := wantR_len f n g k m
        have hfe : fewB f n g k = (k : Int) - ((wantR f n g k m).length : Int) := by rw [fewB, HWL.out]
        have hse : r = if fewB f n g k ≤ 0 then 14 else 0 := by rw [← HR0.out, shortE, if_neg (by rw [HLB.out]; simp [h0']), if_neg (by rw [HWA.out]; simp)]
        have hsn : q = if r = 0 then fewB f n g k else 0 := by rw [← HQ0.out, shortN, HR0.out]
        rw [hfe] at hse hsn
        have HSE := Lib.hid hse
        have HSN := Lib.hid hsn
        clear hr hfe hse hsn
        have hw1 : IntKind.i64.wrap ((k : Int) - ((wantR f n g k m).length : Int)) = (k : Int) - ((wantR f n g k m).length : Int) := IntWalk.i64_in _ (by omega)
        go_wp2_with fail
        refine (Wanted_c s m a n cap f la k lcap g _ (HF.out.below Hbr.out) hn14 hm6 (Cells.below HG.out Hbr.out) hl).mono ?_
        rintro e w5 ⟨pw, cw, rfl, -, hb5⟩
        obtain ⟨d, hd⟩ : ∃ d, (k : Int) - ((wantR f n g k m).length : Int) = d := ⟨_, rfl⟩
        rw [hd] at hw1
        have HSE2 := Lib.hid (HSE.out)
        have HSN2 := Lib.hid (HSN.out)
        rw [hd] at HSE2 HSN2
        by_cases hd0 : d ≤ 0
        · have er : r = 14 := by rw [HSE2.out, if_pos hd0]
          have eq : q = 0 := by rw [HSN2.out, er, if_neg (by decide)]
          subst er eq
          go_wp2_with fail
          refine bodyPost_ret (v := .tuple #[.int .i64 0, .int .i64 14]) (by simp [results, Try.results33, go_sem]) rfl ⟨rfl, bup HB.out (bup Hbr.out hb5)⟩
        · have er : r = 0 := by rw [HSE2.out, if_neg hd0]
          have eq : q = d := by rw [HSN2.out, er, if_pos rfl]
          subst er eq
          go_wp2_with fail
          refine bodyPost_ret (v := .tuple #[.int .i64 q, .int .i64 0]) (by simp [results, Try.results33, go_sem]) rfl ⟨rfl, bup HB.out (bup Hbr.out hb5)⟩

end Go.Proofs.Ytbjgbgchagfokaa

namespace Go.Proofs.Ytbjgbgchagfokaa
open Go Go.RowKit

theorem wantAll_iff (l : Nat → Int) (g : Nat → Int) : ∀ n, wantAll l g n = true ↔ ∀ i, i < n → 0 < l (g i).toNat
  | 0 => ⟨fun _ i hi => absurd hi (Nat.not_lt_zero _), fun _ => rfl⟩
  | n + 1 => by
    rw [wantAll, Bool.and_eq_true, wantAll_iff l g n, decide_eq_true_eq]
    exact ⟨fun h i hi => by
      by_cases e : i = n
      · rw [e]; exact h.2
      · exact h.1 i (by omega), fun h => ⟨fun i hi => h i (by omega), h n (by omega)⟩⟩

section
variable {s M n : Nat} {f : Nat → W2} (hG : GoodBook s M n f)
include hG

theorem wb_count (g : Nat → Int) (len : Nat) : (wbL (shopL f g len n) 6).length = cnt (fun y : Nat => ∃ i, i < n ∧ (∃ j, j < len ∧ g j = (f i).s) ∧ (f i).m = (y : Int)) 6 := by
  have h : listB (natG (wbL (shopL f g len n) 6)) (6 : Nat) (wbL (shopL f g len n) 6).length = true := listB_filt _ 6 fun y hy => by
    have := List.mem_range.1 (List.mem_filter.1 hy).1
    omega
  rw [← cnt_list h]
  refine cnt_congr fun y hy => ?_
  rw [wbL, List.mem_filter, List.mem_range, decide_eq_true_eq, show shopL f g len n (6 + y) = ldF f (fun i => hasB g (f i).s len) (6 + y) n from rfl, ldF_pos]
  constructor
  · intro ⟨_, i, hi, hp, e⟩
    have := hG.2.2.2 i hi
    have := hG.1
    exact ⟨i, hi, (hasB_iff _ _ _).1 hp, by omega⟩
  · intro ⟨i, hi, hp, e⟩
    exact ⟨hy, i, hi, (hasB_iff _ _ _).2 hp, .inr (by omega)⟩
/-- A best list has no more wants than shops with wants, less what short shops lack. -/
theorem short_bound {len : Nat} {g : Nat → Int} (h : shortE s n f len g = 0) : ((bestOf f n).length : Int) ≤ (wantingN s n f : Int) - fewB f n g len ∧ 0 < fewB f n g len := by
  obtain ⟨g1, g2, g3, g4⟩ := id hG
  have hS : ∀ i, i < n → 0 ≤ (f i).s ∧ (f i).s < s := fun i hi => (g4 i hi).1
  have hT : ∀ i, i < n → 0 ≤ (f i).m ∧ (f i).m < (6 : Nat) := fun i hi => ⟨(g4 i hi).2.1, by have := (g4 i hi).2.2; omega⟩
  unfold shortE at h
  by_cases h1 : len = 0 ∨ listB g s len = false
  · rw [if_pos h1] at h; omega
  rw [if_neg h1] at h
  by_cases h2 : wantAll (bookL f n) g len = false
  · rw [if_pos h2] at h; omega
  rw [if_neg h2] at h
  by_cases h3 : fewB f n g len ≤ 0
  · rw [if_pos h3] at h; omega
  refine ⟨?_, by omega⟩
  have hl : listB g s len = true := by
    cases e : listB g s len with
    | true => rfl
    | false => exact absurd (.inr e) h1
  have hw : wantAll (bookL f n) g len = true := by
    cases e : wantAll (bookL f n) g len with
    | true => rfl
    | false => exact absurd e h2
  obtain ⟨r1, r2⟩ := rest_cover (f := f) (n := n) (S := s) (fun x => ∃ j, j < len ∧ g j = x) fun x hx ⟨j, hj, e⟩ => by
    have h := (wantAll_iff _ _ _).1 hw j hj
    rw [e, Int.toNat_natCast] at h
    exact (shop_wants hG (by omega)).1 h
  have hb := best_most f n
  have hc := cover_most hS hT hb.1 r1
  rw [hb.2.1] at hc
  have e1 : cnt (fun x : Nat => ∃ j, j < len ∧ g j = (x : Int)) s = len := listB_cnt hl
  have e2 := wb_count hG g len
  rw [wantingN_cnt]
  unfold fewB
  rw [e1] at r2
  rw [← e2] at hc
  omega
theorem short_best : ((bestOf f n).length : Int) + fewL f n (shortOf f n s (bookL f n)) = (wantingN s n f : Int) ∧ 0 ≤ fewL f n (shortOf f n s (bookL f n)) ∧
    (fewL f n (shortOf f n s (bookL f n)) ≠ 0 → shortE s n f (shortOf f n s (bookL f n)).length (natG (shortOf f n s (bookL f n))) = 0) ∧ (shortOf f n s (bookL f n)).length ≤ s := by
  obtain ⟨g1, g2, g3, g4⟩ := id hG
  have hS : ∀ i, i < n → 0 ≤ (f i).s ∧ (f i).s < s := fun i hi => (g4 i hi).1
  have hT : ∀ i, i < n → 0 ≤ (f i).m ∧ (f i).m < (6 : Nat) := fun i hi => ⟨(g4 i hi).2.1, by have := (g4 i hi).2.2; omega⟩
  have hb := best_most f n
  have hk : shortOf f n s (bookL f n) = bestK (tooFewK f n 6) [] (tailsL (fun _ i => decide (0 < bookL f n i)) s s []) := by
    rw [shortOf_best, ← few_key hG]
  obtain ⟨k1, k2, k3⟩ := short_most hS hT (fun _ i => decide (0 < bookL f n i)) (fun b j hj => by
    show decide (0 < bookL f n j) = true ↔ _
    rw [decide_eq_true_eq]
    exact shop_wants hG (by omega)) hb.1 (fun M' h => by rw [hb.2.1]; exact hb.2.2.2 M' h)
  have hpos := bestK_len (tooFewK f n 6) (tailsL (fun _ i => decide (0 < bookL f n i)) s s []) []
  rw [← hk] at k1 k2 k3 hpos
  rw [hb.2.1] at k3
  have hkey : ∀ x, fewL f n x = tooFewK f n 6 x := fun x => congrFun (few_key hG) x
  have hnil : tooFewK f n 6 [] = 0 := by
    rw [← hkey]
    show ((0 : Nat) : Int) - _ = 0
    rw [wb_count hG]
    have : cnt (fun y : Nat => ∃ i, i < n ∧ (∃ j, j < ([] : List Nat).length ∧ (fun j => ((([] : List Nat).getD j 0 : Nat) : Int)) j = (f i).s) ∧ (f i).m = (y : Int)) 6 = 0 := cnt_none fun y _ ⟨i, hi, ⟨j, hj, _⟩, _⟩ => absurd hj (Nat.not_lt_zero _)
    rw [this]
    rfl
  have hris := shortOf_rising f n s (bookL f n)
  rw [hnil, ← hkey] at hpos
  rw [← hkey] at k3
  refine ⟨by rw [wantingN_cnt]; exact k3, hpos, fun hne => ?_, by rw [← k2]; exact cnt_atmost _ _⟩
  obtain ⟨X, hX⟩ : ∃ X, shortOf f n s (bookL f n) = X := ⟨_, rfl⟩
  rw [hX] at hne hris k1 k2 hpos ⊢
  have hl : listB (natG X) s X.length = true := by
    rw [listB_iff]
    intro i hi
    have hs := hris.1
    rw [List.pairwise_iff_getElem] at hs
    have e : ∀ j (hj : j < X.length), natG X j = ((X[j] : Nat) : Int) := fun j hj => by
      unfold natG
      rw [List.getD_eq_getElem?_getD, List.getElem?_eq_getElem hj, Option.getD_some]
    refine ⟨⟨by unfold natG; omega, by rw [e i hi]; have := hris.2 _ (List.getElem_mem hi); omega⟩, fun h0 => ?_⟩
    rw [e i hi, e (i - 1) (by omega)]
    have := hs (i - 1) i (by omega) hi (by omega)
    omega
  have hw : wantAll (bookL f n) (natG X) X.length = true := by
    rw [wantAll_iff]
    intro i hi
    have hm := natG_mem hi
    have := k1 _ hm
    show 0 < bookL f n ((X.getD i 0 : Nat) : Int).toNat
    rw [Int.toNat_natCast]
    exact (shop_wants hG (by omega)).2 this.2
  have h0 : ¬ X.length = 0 := fun h => by
    have : X = [] := List.eq_nil_of_length_eq_zero h
    rw [this, hkey, hnil] at hne
    exact hne rfl
  have hfb : fewB f n (natG X) X.length = fewL f n X := rfl
  rw [shortE, if_neg (by rw [hl]; simp [h0]), if_neg (by rw [hw]; simp), if_neg (by rw [hfb]; omega)]
end
end Go.Proofs.Ytbjgbgchagfokaa

namespace Go.Proofs.Ytbjgbgchagfokaa
open Go Go.RowKit

section
variable {P : Program} {ops : Array Oper} {md : Region.Mode} {Q : Exit → Act → World → Prop} {C : World → Prop}

/-- As UpdIn: blocks outside of X stay, and X grows by new blocks alone. -/
def UpdX (P : Program) (ops : Array Oper) (C F : World → Prop) (X : Nat → Prop) (o : Oper) (F' : Value → World → Prop) (X' : Value → Nat → Prop) (a : Act) : Prop :=
  Region.wanted o (yielded ops a.tmps) = true ∧ (∀ v, Stable (F' v)) ∧ (∀ v w, F' v w → C w) ∧ (∀ v w, F' v w → ∀ b, X' v b → b < w.heap.size) ∧
    ∀ w, F w → ∃ v w', (execOp a.eval o).run P w = .ok (.value v) w' ∧ F' v w' ∧ (∀ b z, ¬ X b → w.heap[b]? = some z → w'.heap[b]? = some z) ∧ ∀ b, X' v b → X b ∨ w.heap.size ≤ b

/-- The steps beside number x, which makes the variable; number c is the last of them. -/
def RunX (P : Program) (md : Region.Mode) (ops : Array Oper) (Q : Exit → Act → World → Prop) (C : World → Prop) (w0 : World) (x c tx : Nat) (z : Obj) (g : Nat) : Nat → Array Bool → Act → (World → Prop) → (Nat → Prop) → Prop
  | 0, done, a, F, X => Run P md ops Q C (g + 1) done a F ∧ ∀ b, w0.heap.size ≤ b → ¬ X b → Run P md ops Q C g (done.setIfInBounds x true) (a.put (some tx) (ptrTo b)) (fun w => F w ∧ w.heap[b]? = some z)
  | f + 1, done, a, F, X => done.getD c true = false ∧ x ∈ Region.ready md ops done ∧ (∃ i ∈ Region.ready md ops done, i ≠ x) ∧ ∀ i ∈ Region.ready md ops done, i ≠ x → ∃ o, ops[i]? = some o ∧
      ((∃ v, QuietIn P ops F o v a ∧ RunX P md ops Q C w0 x c tx z g f (done.setIfInBounds i true) (a.put o.dst v) F X) ∨
       (∃ F' X', UpdX P ops C F X o F' X' a ∧ ∀ v, (∃ w, F' v w) → RunX P md ops Q C w0 x c tx z g f (done.setIfInBounds i true) (a.put o.dst v) (F' v) (X' v)))

variable {w0 : World} {x c tx : Nat} {z : Obj} {g : Nat} {ox : Oper}

/-- What waits for the variable waits for the last step, too. -/
def waitsB (md : Region.Mode) (ops : Array Oper) (x c : Nat) : Bool := (List.range ops.size).all fun t => !(Region.waitsFor md ops t x) || Region.waitsFor md ops t c
/-- All else that does not wait for it is apart from it. -/
def apartXB (md : Region.Mode) (ops : Array Oper) (x : Nat) : Bool := (List.range ops.size).all fun j => j == x || Region.waitsFor md ops j x || (match ops[x]?, ops[j]? with
  | some ox, some oj => ox.apart ops oj
  | _, _ => true)

theorem not_ready_waits {t i : Nat} {done : Array Bool} (hw : Region.waitsFor md ops t i = true) (hd : done.getD i false = false) : t ∉ Region.ready md ops done := fun h => by
  obtain ⟨_, o, ho, hall⟩ := mem_ready.1 h
  obtain ⟨o', ho', e, he, hb, hi⟩ := Region.waitsFor_spec hw
  obtain rfl : o' = o := Option.some.inj (ho'.symm.trans ho)
  have := hall e he hb
  rw [hi, hd] at this
  cases this
theorem not_waits {t i : Nat} {o : Oper} (ho : ops[t]? = some o) (hw : Region.waitsFor md ops t i = false) : ∀ e ∈ o.after, Region.binds md e = true → e.on ≠ i := fun e he hb hi => by
  unfold Region.waitsFor at hw
  simp only [ho] at hw
  rw [← Bool.not_eq_true, Array.any_eq_true'] at hw
  exact hw ⟨e, he, by simp [hb, hi]⟩
theorem ready_back {done : Array Bool} {i : Nat} (hW : waitsB md ops x c = true) (hc : done.getD c true = false) (hxc : x ≠ c) (hxs : x < done.size) (hi : i ∈ Region.ready md ops (done.setIfInBounds x true)) : i ∈ Region.ready md ops done ∧ i ≠ x := by
  obtain ⟨h0, o, ho, hall⟩ := mem_ready.1 hi
  have hix : i ≠ x := fun e => by
    subst e
    simp [hxs] at h0
  have hil : i < ops.size := (Array.getElem?_eq_some_iff.1 ho).1
  have hnw : Region.waitsFor md ops i x = false := by
    cases e : Region.waitsFor md ops i x with
    | false => rfl
    | true =>
      have h1 := List.all_eq_true.1 hW i (by simpa using hil)
      simp only [e, Bool.not_true, Bool.false_or] at h1
      exact absurd hi (not_ready_waits h1 (by rw [getD_set_ne false hxc]; exact getD_both hc))
  refine ⟨mem_ready.2 ⟨by rwa [getD_set_ne true (Ne.symm hix)] at h0, o, ho, fun e he hb => ?_⟩, hix⟩
  have h2 := hall e he hb
  have hx := not_waits ho hnw e he hb
  rwa [getD_set_ne false (Ne.symm hx)] at h2
theorem apart_of {done : Array Bool} {i : Nat} {oi : Oper} (hA : apartXB md ops x = true) (hox : ops[x]? = some ox) (hoi : ops[i]? = some oi) (hix : i ≠ x) (hr : i ∈ Region.ready md ops done) (hx : done.getD x false = false) : ox.apart ops oi = true := by
  have hil : i < ops.size := (Array.getElem?_eq_some_iff.1 hoi).1
  have h1 := List.all_eq_true.1 hA i (by simpa using hil)
  simp only [hox, hoi, Bool.or_eq_true, beq_iff_eq] at h1
  rcases h1 with (h1 | h1) | h1
  · exact absurd h1 hix
  · exact absurd hr (not_ready_waits h1 hx)
  · exact h1

/-- The variable is made already. -/
theorem runX_made (hox : ops[x]? = some ox) (hdx : ox.dst = some tx) (hsel : ∀ (j : Nat) (o : Oper) cs b, ops[j]? = some o → o.op ≠ .select cs b) (hW : waitsB md ops x c = true) (hA : apartXB md ops x = true) (hxc : x ≠ c) :
    ∀ (f : Nat) (done : Array Bool) (a : Act) (F : World → Prop) (X : Nat → Prop) (b : Nat), done.size = ops.size → w0.heap.size ≤ b → ¬ X b → (∀ w, F w → C w) → RunX P md ops Q C w0 x c tx z g f done a F X →
      Run P md ops Q C (f + g) (done.setIfInBounds x true) (a.put (some tx) (ptrTo b)) (fun w => F w ∧ w.heap[b]? = some z) := by
  intro f
  induction f with
  | zero => intro done a F X b _ hb hX _ h; rw [Nat.zero_add]; exact h.2 b hb hX
  | succ f ih =>
    intro done a F X b hds hb hX hC h
    obtain ⟨hc, hxr, ⟨i0, hi0, hi0x⟩, hall⟩ := h
    have hxs : x < done.size := by rw [hds]; exact (Array.getElem?_eq_some_iff.1 hox).1
    have hx0 : done.getD x false = false := getD_both (mem_ready.1 hxr).1
    rw [Nat.succ_add]
    refine ⟨List.ne_nil_of_mem (ready_mono hi0 hi0x), fun i hi => ?_⟩
    obtain ⟨hir, hix⟩ := ready_back hW hc hxc hxs hi
    obtain ⟨o, ho, hstep⟩ := hall i hir hix
    obtain ⟨p1, p2, p3⟩ := Oper.apart_spec (apart_of hA hox ho hix hir hx0)
    rw [hdx] at p1 p2
    have e1 := execOp_put o (fun cs b => hsel i o cs b ho) a (some tx) (ptrTo b) p1
    have e2 := wanted_put o a (some tx) (ptrTo b) p1
    refine ⟨o, ho, ?_⟩
    rcases hstep with ⟨v, hq, hK⟩ | ⟨F', X', ⟨hwt, hS, hC', hX', hrun⟩, hK⟩
    · refine .inl ⟨v, (hq.of_same e1 e2).mono (fun w hw => hw.1), ?_⟩
      have := ih _ _ F X b (by simpa using hds) hb hX hC hK
      rw [Act.put_comm a _ _ (fun d hd e => p2 d hd e), Array.setIfInBounds_comm _ _ hix.symm]
      exact this
    · refine .inr (.inr (.inr ⟨fun v w => F' v w ∧ w.heap[b]? = some z ∧ ¬ X' v b, ⟨by rw [e2]; exact hwt, fun v w w' h hb' => ⟨hS v w w' h.1 hb', (hb'.block b (heap_size_lt h.2.1)).trans h.2.1, h.2.2⟩, fun v w hw => hC' v w hw.1, fun w hw => ?_⟩, fun v hv => ?_⟩))
      · obtain ⟨v, w', e, hf, hkeep, hnew⟩ := hrun w hw.1
        rw [e1]
        refine ⟨v, w', e, hf, hkeep b z hX hw.2, fun hxb => ?_⟩
        rcases hnew b hxb with h1 | h1
        · exact hX h1
        · have := heap_size_lt hw.2
          omega
      · obtain ⟨w, hf, _, hnx⟩ := hv
        have := ih _ _ (F' v) (X' v) b (by simpa using hds) hb hnx (hC' v) (hK v ⟨w, hf⟩)
        rw [Act.put_comm a _ _ (fun d hd e => p2 d hd e), Array.setIfInBounds_comm _ _ hix.symm]
        exact run_mono _ _ _ _ _ (fun w hw => ⟨hw.1, hw.2.1⟩) this
/-- The variable is made at whatever moment. -/
theorem runX_float (hox : ops[x]? = some ox) (hgx : ox.guard = none) (hdx : ox.dst = some tx) (hal : ∀ (a : Act) (w : World), (execOp a.eval ox).run P w = .ok (.value (ptrTo w.heap.size)) (w.alloc z)) (hsel : ∀ (j : Nat) (o : Oper) cs b, ops[j]? = some o → o.op ≠ .select cs b) (hW : waitsB md ops x c = true) (hA : apartXB md ops x = true) (hxc : x ≠ c) (hC0 : ∀ w, C w → w0.heap.size ≤ w.heap.size) :
    ∀ (f : Nat) (done : Array Bool) (a : Act) (F : World → Prop) (X : Nat → Prop), done.size = ops.size → (∀ w, F w → C w) → (∀ w, F w → ∀ b, X b → b < w.heap.size) → RunX P md ops Q C w0 x c tx z g f done a F X → Run P md ops Q C (f + g + 1) done a F := by
  intro f
  induction f with
  | zero => intro done a F X _ _ _ h; rw [Nat.zero_add]; exact h.1
  | succ f ih =>
    intro done a F X hds hC hXs H
    have H' := H
    obtain ⟨hc, hxr, ⟨i0, hi0, hi0x⟩, hall⟩ := H
    refine ⟨List.ne_nil_of_mem hxr, fun i hi => ?_⟩
    by_cases hix : i = x
    · subst hix
      refine ⟨ox, hox, .inr (.inl ⟨fun v w => ∃ b, v = ptrTo b ∧ (w0.heap.size ≤ b ∧ ¬ X b) ∧ w.heap[b]? = some z, ⟨by simp [Region.wanted, hgx], fun v w w' h hb => ?_, fun w hw => ⟨_, _, hal a w, (Below.refl _ w).alloc (Nat.le_refl _) z, w.heap.size, rfl, ⟨hC0 w (hC w hw), fun hx => Nat.lt_irrefl _ (hXs w hw _ hx)⟩, World.alloc_heap_new w z⟩⟩, fun v hv => ?_⟩)⟩
      · obtain ⟨b, e, h1, h2⟩ := h
        exact ⟨b, e, h1, (hb.block b (heap_size_lt h2)).trans h2⟩
      obtain ⟨_, b, rfl, ⟨hb0, hbX⟩, _⟩ := hv
      rw [hdx]
      refine run_mono _ _ _ _ _ ?_ (runX_made hox hdx hsel hW hA hxc (f + 1) done a F X b hds hb0 hbX hC H')
      rintro w ⟨h1, b', e1, _, h2⟩
      have eb := ptr_inj e1
      subst eb
      exact ⟨h1, h2⟩
    · obtain ⟨o, ho, hstep⟩ := hall i hi hix
      refine ⟨o, ho, ?_⟩
      rcases hstep with ⟨v, hq, hK⟩ | ⟨F', X', ⟨hwt, hS, hC', hX', hrun⟩, hK⟩
      · refine .inl ⟨v, hq, ?_⟩
        have := ih _ _ F X (by simpa using hds) hC hXs hK
        rw [show f + 1 + g = f + g + 1 by omega]
        exact this
      · refine .inr (.inr (.inr ⟨F', ⟨hwt, hS, hC', fun w hw => ?_⟩, fun v hv => ?_⟩))
        · obtain ⟨v, w', e, hf, _, _⟩ := hrun w hw
          exact ⟨v, w', e, hf⟩
        · have := ih _ _ (F' v) (X' v) (by simpa using hds) (hC' v) (hX' v) (hK v hv)
          rw [show f + 1 + g = f + g + 1 by omega]
          exact this

/-- What may come up next beside the variable, one by one. -/
def RunXAt (P : Program) (md : Region.Mode) (ops : Array Oper) (Q : Exit → Act → World → Prop) (C : World → Prop) (w0 : World) (x c tx : Nat) (z : Obj) (g f : Nat) (done : Array Bool) (a : Act) (F : World → Prop) (X : Nat → Prop) (i : Nat) : Prop :=
  ∃ o, ops[i]? = some o ∧
      ((∃ v, QuietIn P ops F o v a ∧ RunX P md ops Q C w0 x c tx z g f (done.setIfInBounds i true) (a.put o.dst v) F X) ∨
       (∃ F' X', UpdX P ops C F X o F' X' a ∧ ∀ v, (∃ w, F' v w) → RunX P md ops Q C w0 x c tx z g f (done.setIfInBounds i true) (a.put o.dst v) (F' v) (X' v)))
theorem runX_each {f : Nat} {done : Array Bool} {a : Act} {F : World → Prop} {X : Nat → Prop} (rs : List Nat) (hc : done.getD c true = false) (hr : (Region.ready md ops done).filter (· != x) = rs) (hxr : (Region.ready md ops done).contains x = true) (hne : rs ≠ []) (h : ∀ i ∈ rs, RunXAt P md ops Q C w0 x c tx z g f done a F X i) : RunX P md ops Q C w0 x c tx z g (f + 1) done a F X := by
  subst hr
  refine ⟨hc, by simpa using hxr, ?_, fun i hi hix => h i (by simp [hi, hix])⟩
  cases e : (Region.ready md ops done).filter (· != x) with
  | nil => exact absurd e hne
  | cons i r =>
    have : i ∈ (Region.ready md ops done).filter (· != x) := by rw [e]; exact List.mem_cons_self
    simp only [List.mem_filter, bne_iff_ne, ne_eq] at this
    exact ⟨i, this.1, this.2⟩
theorem atX_upd {f i : Nat} {o : Oper} {done : Array Bool} {a : Act} {F : World → Prop} {X : Nat → Prop} (F' : Value → World → Prop) (X' : Value → Nat → Prop) (ho : ops[i]? = some o) (hg : o.guard = none) (hS : ∀ v, Stable (F' v)) (hC : ∀ v w, F' v w → C w) (hX : ∀ v w, F' v w → ∀ b, X' v b → b < w.heap.size)
    (hrun : ∀ w, F w → ∃ v w', (execOp a.eval o).run P w = .ok (.value v) w' ∧ F' v w' ∧ (∀ b z, ¬ X b → w.heap[b]? = some z → w'.heap[b]? = some z) ∧ ∀ b, X' v b → X b ∨ w.heap.size ≤ b)
    (h : ∀ v, (∃ w, F' v w) → RunX P md ops Q C w0 x c tx z g f (done.setIfInBounds i true) (a.put o.dst v) (F' v) (X' v)) : RunXAt P md ops Q C w0 x c tx z g f done a F X i :=
  ⟨o, ho, .inr ⟨F', X', ⟨by simp [Region.wanted, hg], hS, hC, hX, hrun⟩, h⟩⟩
theorem atX_quiet {f i : Nat} {o : Oper} {done : Array Bool} {a : Act} {F : World → Prop} {X : Nat → Prop} (v : Value) (ho : ops[i]? = some o) (hq : QuietIn P ops F o v a) (h : RunX P md ops Q C w0 x c tx z g f (done.setIfInBounds i true) (a.put o.dst v) F X) : RunXAt P md ops Q C w0 x c tx z g f done a F X i :=
  ⟨o, ho, .inl ⟨v, hq, h⟩⟩
theorem runX_mono : ∀ (f : Nat) (done : Array Bool) (a : Act) (F F' : World → Prop) (X X' : Nat → Prop), (∀ w, F' w → F w) → (∀ b, X b → X' b) → (∀ b, X' b → X b) → RunX P md ops Q C w0 x c tx z g f done a F X → RunX P md ops Q C w0 x c tx z g f done a F' X' := by
  intro f
  induction f with
  | zero => intro done a F F' X X' hF hX _ h; exact ⟨run_mono _ _ _ _ _ hF h.1, fun b hb hb' => run_mono _ _ _ _ _ (fun w hw => ⟨hF w hw.1, hw.2⟩) (h.2 b hb fun hh => hb' (hX b hh))⟩
  | succ f ih =>
    intro done a F F' X X' hF hX hX2 h
    refine ⟨h.1, h.2.1, h.2.2.1, fun i hi hix => ?_⟩
    obtain ⟨o, ho, hs⟩ := h.2.2.2 i hi hix
    refine ⟨o, ho, ?_⟩
    rcases hs with ⟨v, hq, hK⟩ | ⟨F2, X2, ⟨hwt, hS, hC, hXs, hrun⟩, hK⟩
    · exact .inl ⟨v, hq.mono hF, ih _ _ _ _ _ _ hF hX hX2 hK⟩
    · refine .inr ⟨F2, X2, ⟨hwt, hS, hC, hXs, fun w hw => ?_⟩, hK⟩
      obtain ⟨v, w', e, h1, h2, h3⟩ := hrun w (hF w hw)
      exact ⟨v, w', e, h1, fun b z hb => h2 b z fun hh => hb (hX b hh), fun b hb => (h3 b hb).imp (hX b) id⟩

end

end Go.Proofs.Ytbjgbgchagfokaa

namespace Go.Proofs.Ytbjgbgchagfokaa
open Go Go.RowKit

abbrev sl (b n c : Nat) : Value := .slice (some ⟨b, 0, none⟩) n c
theorem sl_inj {b n c b' n' c' : Nat} (h : sl b n c = sl b' n' c') : b = b' ∧ n = n' ∧ c = c' := by
  unfold sl at h
  injection h with h1 h2 h3
  injection h1 with h1
  injection h1 with h1
  exact ⟨h1, h2, h3⟩
/-- The call's own list, at block g. -/
def OwnR (e : TypeId) (size B : Nat) (w : World) (n : Nat) (xs : List Value) (g c : Nat) : Prop := w.ownsRow B e size (sl g n c) n xs
theorem OwnR.below {e : TypeId} {size B n g c : Nat} {xs : List Value} {w w' : World} (h : OwnR e size B w n xs g c) (hb : Below w.heap.size w w') : OwnR e size B w' n xs g c := by
  refine ⟨h.1, ?_⟩
  rcases h.2 with h2 | ⟨g', cap, cur, hv, hbg, hg, h3⟩
  · exact .inl h2
  · exact .inr ⟨g', cap, cur, hv, hbg, (hb.block g' (Array.getElem?_eq_some_iff.1 hg).1).trans hg, h3⟩
theorem OwnR.st {e : TypeId} {size B n g c : Nat} {xs : List Value} : Stable fun w => OwnR e size B w n xs g c := fun _ _ h hb => h.below hb
theorem OwnR.lt {e : TypeId} {size B n g c : Nat} {xs : List Value} {w : World} (h : OwnR e size B w n xs g c) : B ≤ g ∧ g < w.heap.size := World.ownsRow.lt h g rfl
theorem OwnR.cap {e : TypeId} {size B n g c : Nat} {xs : List Value} {w : World} (h : OwnR e size B w n xs g c) : n ≤ c ∧ c ≤ maxLen := by
  rcases h.2 with ⟨h2, _⟩ | ⟨g', cap, cur, hv, hbg, hg, h3, h4, _⟩
  · cases h2
  · obtain ⟨-, -, rfl⟩ := sl_inj hv
    exact ⟨h3, h4⟩
theorem lit_owns {e : TypeId} {size B : Nat} {w : World} (hB : B ≤ w.heap.size) : OwnR e size B (w.alloc (.cells #[] e)) 0 [] w.heap.size 0 := by
  have h := World.ownsRow_lit (base := B) (e := e) (size := size) w #[] 0 hB (by unfold maxLen; omega) (by simp)
  exact h
theorem OwnR.ne {e e' : TypeId} {size B n g c b : Nat} {xs : List Value} {w : World} {cs : Array Value} (h : OwnR e size B w n xs g c) (hb : w.heap[b]? = some (.cells cs e' (0, 0))) (he : e ≠ e') : g ≠ b := fun hgb => by
  subst hgb
  rcases h.2 with ⟨h2, _⟩ | ⟨g', cap, cur, hv, hbg, hg, _⟩
  · cases h2
  · obtain ⟨rfl, -, -⟩ := sl_inj hv
    rw [hb] at hg
    injection hg with hg
    injection hg with _ h3 _
    exact he h3.symm
theorem OwnR.keep {e : TypeId} {size B n g c : Nat} {xs : List Value} {w w' : World} (h : OwnR e size B w n xs g c) (hg : w'.heap[g]? = w.heap[g]?) : OwnR e size B w' n xs g c := by
  refine ⟨h.1, ?_⟩
  rcases h.2 with h2 | ⟨g', cap, cur, hv, hbg, hg', h3⟩
  · exact .inl h2
  · obtain ⟨rfl, -, -⟩ := sl_inj hv
    exact .inr ⟨g, cap, cur, hv, hbg, hg.trans hg', h3⟩
/-- One new block with these cells. -/
def RowK (ks : Array Value) (e : TypeId) (w : World) (d : Nat) : Prop := w.heap[d]? = some (.cells ks e (0, 0))
theorem RowK.st {ks : Array Value} {e : TypeId} {d : Nat} : Stable fun w => RowK ks e w d := fun _ _ h hb => (hb.block d (heap_size_lt h)).trans h

section
variable {P : Program} {ts e : TypeId} {i0 : TypeInfo} {z : Value} {size bytes : Nat} (ht : P.underlying ts = some (.slice e)) (hi : P.info? e = some i0) (hz : i0.zero = some z) (hs : i0.size = size) (hby : i0.bytes = bytes) (hzs : z.cells.size = size) (hsz : 0 < size)
include ht hi hz hs hby hzs hsz
/-- A list is appended to one of one's own. -/
theorem app_list {ty : TypeId} {B b c m n cap : Nat} {w0 w : World} {xs news : List Value} {a : Option Addr} (hC : Below B w0 w) (hB : B = w0.heap.size) (h : OwnR e size B w m xs b c)
    (hsrc : (n = 0 ∧ news = []) ∨ ∃ ad, a = some ad ∧ news.length = n * size ∧ ∀ j u, news[j]? = some u → w.cell? (ad.add j) = some u) (h1 : ∀ u ∈ news, u.oneCell' = true) (hm : m + n ≤ maxLen) (hbytes : (m + n) * bytes ≤ 140737488355328) :
    ∃ g c' w', (Builtin.append_ #[ts, ts] ty #[sl b m c, .slice a n cap]).run P w = .ok (sl g (m + n) c') w' ∧ OwnR e size B w' (m + n) (xs ++ news) g c' ∧ Below B w0 w' ∧ (∀ q o, q ≠ b → w.heap[q]? = some o → w'.heap[q]? = some o) ∧ (g = b ∨ w.heap.size ≤ g) := by
  by_cases h0 : n = 0
  · subst h0
    have hn0 : news = [] := by
      rcases hsrc with ⟨-, h2⟩ | ⟨ad, -, h2, -⟩
      · exact h2
      · exact List.length_eq_zero_iff.1 (by omega)
    subst hn0
    refine ⟨b, c, w, ?_, by simpa using h, hC, fun _ _ _ h => h, .inl rfl⟩
    have hfc : ∀ w : World, (Builtin.firstCells i0.size 0 (.slice a 0 cap)).run P w = .ok #[] w := fun w => by
      cases a <;> simp [Builtin.firstCells, loadCells, loadCellsFrom]
    exact run_append_nothing w ts ts ty e i0 ht hi (some ⟨b, 0, none⟩) m c h.cap.1 (.slice a 0 cap) ⟨.inl ⟨e, ht⟩, fun w' => rfl, hfc _, hfc _, by simp, by simp⟩
  · obtain ⟨ad, rfl, hl, hnews⟩ : ∃ ad, a = some ad ∧ news.length = n * size ∧ ∀ j u, news[j]? = some u → w.cell? (ad.add j) = some u := by
      rcases hsrc with ⟨h2, -⟩ | h2
      · exact absurd h2 h0
      · exact h2
    obtain ⟨v', w', hr, h2, h3, -, h5⟩ := run_append_own_at (P := P) w B ts ty e i0 z size bytes ht hi hz hs hby hzs hsz _ m xs h ad n cap news hl hnews h1 hm hbytes (by rw [hB]; exact hC.size)
    have hf : ∃ g cap, v' = sl g (m + n) cap := by
      rcases h2.2 with ⟨_, e0⟩ | ⟨g, cap, cur, rfl, _⟩
      · omega
      · exact ⟨g, cap, rfl⟩
    obtain ⟨g, c', rfl⟩ := hf
    refine ⟨g, c', w', hr, h2, hC.grown h3 (by rw [hB]; exact hC.size) (fun j hj => by cases hj; exact h.lt.1), fun q o hq ho => ?_, ?_⟩
    · rw [h3.block q (heap_size_lt ho) (fun e => hq (by cases e; rfl))]
      exact ho
    · rcases h5 with h5 | h5
      · left
        have := Option.some.inj h5
        exact this
      · right
        have := Option.some.inj h5
        exact Nat.le_of_eq this.symm
end

end Go.Proofs.Ytbjgbgchagfokaa
