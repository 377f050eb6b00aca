/- The frame of the rows: how a list of bytes opens, and small numbers. -/
import Derived.Test.YtbjgbgchagfokaaProg
import Derived.Test.YtbjgbgchagfokaaBasaa
import Derived.Test.YtbjgbgchagfokaaBasbd
import Derived.Test.YtbjgbgchagfokaaBasay
import Derived.Test.YtbjgbgchagfokaaBasap
import Derived.Test.YtbjgbgchagfokaaBasba
import Derived.StillTail
import Derived.Test.YtbjgbgchagfokaaBasac
import Derived.Test.YtbjgbgchagfokaaBasai
import Derived.Test.YtbjgbgchagfokaaBasaj
import Derived.Deep.Upon
import Derived.Maps.AppendAt
import Derived.Laws.OwnMore
import Derived.Shelf.Abstract
import Derived.Shelf.RegionOpen
import Derived.Test.YtbjgbgchagfokaaBasab
import Derived.Test.YtbjgbgchagfokaaBasam
namespace Go.Proofs.Ytbjgbgchagfokaa
open Go Go.RowKit Go.ChangeShapes Go.WideShapes Go.Deep Go.Joins

theorem cellsU8 : Try.prog.cellsOf 5 = 1 := by kernel_rfl
theorem wfu16 {n : Int} (h : (Lit.int .u16 n).wf = true) : 0 ≤ n ∧ n ≤ 65535 := by
  simp [Lit.wf] at h
  have h1 : IntKind.u16.min = 0 := by decide
  have h2 : IntKind.u16.max = 65535 := by decide
  omega
theorem wfu8 {n : Int} (h : (Lit.int .u8 n).wf = true) : 0 ≤ n ∧ n ≤ 255 := by
  simp [Lit.wf] at h
  have h1 : IntKind.u8.min = 0 := by decide
  have h2 : IntKind.u8.max = 255 := by decide
  omega

section
variable {H : Type} {enc : TypeId × Value → H} {W : World} {sp : Nat → Bool}

set_option maxRecDepth 100000 in
theorem open_bytes {base : Nat} {v : Value} {d : DataW H} {p : List MemPlace} (hok : Value.okWide Try.prog W .any base 42 v) (h : DataW.Trod enc Try.prog W 0 sp true 42 v d p) :
    ∃ (a : Option Addr) (n cap : Nat) (f : Nat → Int), v = .slice a n cap ∧ (Cells W a n fun i => .int .u8 (f i)) ∧ ∀ i, i < n → 0 ≤ f i ∧ f i ≤ 255 := by
  obtain ⟨a, n, cap, rfl⟩ := okWide_slice Try.underlying42 hok
  obtain ⟨fuel, hf⟩ := h
  rcases open_ints Try.underlying42 Try.underlying5 cellsU8 hf with ⟨hcs, _⟩ | ⟨a', len, cap', zs, hcs, _, hl, _, hk, _, hi, hw⟩
  · simp [Value.cells] at hcs
    obtain ⟨rfl, rfl, rfl⟩ := hcs
    exact ⟨none, 0, 0, fun _ => 0, rfl, .inl rfl, fun i hi => absurd hi (Nat.not_lt_zero i)⟩
  · simp [Value.cells] at hcs
    obtain ⟨rfl, rfl, rfl⟩ := hcs
    have hlk : n ≤ zs.length := by rw [hk]; split <;> omega
    have hb : ∀ i, i < n → 0 ≤ zs.getD i 0 ∧ zs.getD i 0 ≤ 255 := fun i hin => by
      have hz : i < zs.length := by omega
      have e : zs.getD i 0 = zs[i] := by simp [List.getD, hz]
      rw [e]
      exact wfu8 (hw _ (List.getElem_mem hz))
    refine ⟨some a', n, cap, fun i => zs.getD i 0, rfl, ?_, hb⟩
    by_cases h0 : n = 0
    · exact .inl h0
    obtain ⟨b, off, rfl, hc⟩ := ints_at hi (by omega)
    exact .inr ⟨b, off, rfl, World.block_lt_of_cell? W _ (hc 0 (by omega)), fun i hin => hc i (by omega)⟩
end

end Go.Proofs.Ytbjgbgchagfokaa

namespace Go.Proofs.Ytbjgbgchagfokaa
open Go Go.RowKit

theorem ldF_pos (f : Nat → W2) (p : Nat → Bool) (x : Nat) : ∀ n, 0 < ldF f p x n ↔ ∃ i, i < n ∧ p i = true ∧ ((f i).s = x ∨ 6 + (f i).m = x)
  | 0 => by simp [ldF]
  | n + 1 => by
    have ih := ldF_pos f p x n
    have h0 := (ldF_bd f p x n).1
    rw [ldF]
    by_cases h : p n = true ∧ ((f n).s = x ∨ 6 + (f n).m = x)
    · rw [if_pos h]
      exact ⟨fun _ => ⟨n, by omega, h⟩, fun _ => by omega⟩
    · rw [if_neg h, Int.add_zero, ih]
      exact ⟨fun ⟨i, hi, hp⟩ => ⟨i, by omega, hp⟩, fun ⟨i, hi, hp⟩ => ⟨i, by
        by_cases e : i = n
        · rw [e] at hp; exact absurd hp h
        · omega, hp⟩⟩

/-- Some of the first numbers, in their order, are a list. -/
theorem listB_filt (p : Nat → Bool) (k : Nat) {T : Int} (hT : ∀ y, y ∈ (List.range k).filter p → (y : Int) < T) : listB (natG ((List.range k).filter p)) T ((List.range k).filter p).length = true := by
  have hs : List.Pairwise (· < ·) ((List.range k).filter p) := List.Pairwise.filter _ List.pairwise_lt_range
  rw [List.pairwise_iff_getElem] at hs
  rw [listB_iff]
  intro i hi
  have e : ∀ j (hj : j < ((List.range k).filter p).length), natG ((List.range k).filter p) j = ((((List.range k).filter p)[j] : Nat) : Int) := fun j hj => by
    unfold natG
    rw [List.getD_eq_getElem?_getD, List.getElem?_eq_getElem hj, Option.getD_some]
  refine ⟨⟨by unfold natG; omega, by rw [e i hi]; exact hT _ (List.getElem_mem hi)⟩, fun h0 => ?_⟩
  rw [e i hi, e (i - 1) (by omega)]
  have := hs (i - 1) i (by omega) hi (by omega)
  omega
theorem natG_has (x : List Nat) (v : Nat) : (∃ i, i < x.length ∧ natG x i = (v : Int)) ↔ v ∈ x :=
  ⟨fun ⟨i, hi, e⟩ => by
    have := natG_mem hi
    unfold natG at e
    rwa [show x.getD i 0 = v by omega] at this, fun h => by
    obtain ⟨i, hi, e⟩ := mem_natG h
    exact ⟨i, hi, by unfold natG; rw [e]⟩⟩
theorem cnt_list {x : List Nat} {T : Nat} (h : listB (natG x) T x.length = true) : cnt (fun v => v ∈ x) T = x.length := by
  rw [← listB_cnt h]
  exact (cnt_congr fun v _ => natG_has x v).symm

section
variable {s M n : Nat} {f : Nat → W2} (hG : GoodBook s M n f)
include hG

theorem shop_wants {x : Nat} (hx : x < 6) : 0 < bookL f n x ↔ WantS f n x := by
  rw [show bookL f n x = ldF f (fun _ => true) x n from rfl, ldF_pos]
  exact ⟨fun ⟨i, hi, _, h⟩ => ⟨i, hi, by have := (hG.2.2.2 i hi).2; omega⟩, fun ⟨i, hi, e⟩ => ⟨i, hi, rfl, .inl e⟩⟩
theorem mould_wants (x : List Nat) (y : Nat) : 0 < shopL f (natG x) x.length n (6 + y) ↔ WantM f n (InL x) y := by
  rw [show shopL f (natG x) x.length n (6 + y) = ldF f (fun i => hasB (natG x) (f i).s x.length) (6 + y) n from rfl, ldF_pos]
  constructor
  · intro ⟨i, hi, hp, h⟩
    obtain ⟨j, hj, e⟩ := (hasB_iff _ _ _).1 hp
    have b := hG.2.2.2 i hi
    have b2 := hG.1
    refine ⟨i, hi, ⟨x.getD j 0, natG_mem hj, ?_⟩, by omega⟩
    rw [← e]
    rfl
  · intro ⟨i, hi, ⟨v, hv, e⟩, h⟩
    obtain ⟨j, hj, e2⟩ := (natG_has x v).2 hv
    exact ⟨i, hi, (hasB_iff _ _ _).2 ⟨j, hj, by rw [e2, e]⟩, .inr (by omega)⟩
theorem few_key : (fun x => fewL f n x) = tooFewK f n 6 := by
  funext x
  show (x.length : Int) - ((wbL (shopL f (natG x) x.length n) 6).length : Int) = _
  unfold tooFewK
  have h : listB (natG (wbL (shopL f (natG x) x.length n) 6)) (6 : Nat) (wbL (shopL f (natG x) x.length n) 6).length = true := listB_filt _ 6 fun y hy => by
    have := List.mem_range.1 (List.mem_filter.1 hy).1
    omega
  rw [← cnt_list h, cnt_congr (q := WantM f n (InL x))]
  intro y hy
  rw [wbL, List.mem_filter, List.mem_range, decide_eq_true_eq, mould_wants hG]
  exact ⟨fun h => h.2, fun h => ⟨hy, h⟩⟩

/-- The cover that is returned. -/
theorem cover_ok (hE : bookE s M n f = 0) : coverE s M n f (covS f n s (bookL f n)).length (natG (covS f n s (bookL f n))) (covM f n s (bookL f n)).length (natG (covM f n s (bookL f n))) = 0 ∧
    (covS f n s (bookL f n)).length + (covM f n s (bookL f n)).length = (bestOf f n).length ∧ (covS f n s (bookL f n)).length ≤ s ∧ (covM f n s (bookL f n)).length ≤ M := by
  obtain ⟨g1, g2, g3, g4⟩ := id hG
  have hS : ∀ i, i < n → 0 ≤ (f i).s ∧ (f i).s < s := fun i hi => (g4 i hi).1
  have hT : ∀ i, i < n → 0 ≤ (f i).m ∧ (f i).m < (6 : Nat) := fun i hi => ⟨(g4 i hi).2.1, by have := (g4 i hi).2.2; omega⟩
  obtain ⟨X, hX⟩ : ∃ X, shortOf f n s (bookL f n) = X := ⟨_, rfl⟩
  have hb := best_most f n
  have hk : shortOf f n s (bookL f n) = bestK (tooFewK f n 6) [] (tailsL (fun _ i => decide (0 < bookL f n i)) s s []) := by
    rw [shortOf_best, ← few_key hG]
  obtain ⟨k1, k2, k3⟩ := short_most hS hT (fun _ i => decide (0 < bookL f n i)) (fun b j hj => by
    show decide (0 < bookL f n j) = true ↔ _
    rw [decide_eq_true_eq]
    exact shop_wants hG (by omega)) hb.1 (fun M' h => by rw [hb.2.1]; exact hb.2.2.2 M' h)
  rw [← hk, hX] at k1 k2 k3
  rw [hb.2.1] at k3
  -- the shops
  have m1 : ∀ v, v ∈ covS f n s (bookL f n) ↔ v < s ∧ WantS f n v ∧ v ∉ X := fun v => by
    unfold covS othL
    rw [hX, List.mem_filter, List.mem_range, Bool.and_eq_true, decide_eq_true_eq, Bool.not_eq_true']
    constructor
    · intro ⟨h1, h2, h3⟩
      exact ⟨h1, (shop_wants hG (by omega)).1 h2, fun h => by
        have := (hasB_iff (natG X) (v : Int) X.length).2 ((natG_has X v).2 h)
        rw [show hasB (natG X) (v : Int) X.length = false from h3] at this
        cases this⟩
    · intro ⟨h1, h2, h3⟩
      refine ⟨h1, (shop_wants hG (by omega)).2 h2, ?_⟩
      cases h : hasB (fun j => ((X.getD j 0 : Nat) : Int)) (v : Int) X.length with
      | false => rfl
      | true => exact absurd ((natG_has X v).1 ((hasB_iff (natG X) (v : Int) X.length).1 h)) h3
  have m2 : ∀ y, y ∈ covM f n s (bookL f n) ↔ y < 6 ∧ WantM f n (InL X) y := fun y => by
    unfold covM
    rw [hX, wbL, List.mem_filter, List.mem_range, decide_eq_true_eq]
    exact and_congr_right fun _ => mould_wants hG X y
  have l1 : listB (natG (covS f n s (bookL f n))) s (covS f n s (bookL f n)).length = true := listB_filt _ s fun y hy => by
    have := List.mem_range.1 (List.mem_filter.1 hy).1
    omega
  obtain ⟨pm, hpm⟩ : ∃ pm, covM f n s (bookL f n) = (List.range 6).filter pm := by unfold covM wbL; exact ⟨_, rfl⟩
  have l2 : listB (natG (covM f n s (bookL f n))) M (covM f n s (bookL f n)).length = true := by
    rw [hpm]
    refine listB_filt pm 6 fun y hy => ?_
    rw [← hpm] at hy
    obtain ⟨_, i, hi, _, e⟩ := (m2 y).1 hy
    have := (g4 i hi).2.2
    omega
  have l3 : listB (natG (covM f n s (bookL f n))) (6 : Nat) (covM f n s (bookL f n)).length = true := by
    rw [hpm]
    refine listB_filt pm 6 fun y hy => ?_
    have := List.mem_range.1 (List.mem_filter.1 hy).1
    omega
  obtain ⟨r1, r2⟩ := rest_cover (f := f) (n := n) (S := s) (InL X) fun x hx h => ((k1 x ((inL_nat X x).1 h)).2)
  have c1 : cnt (fun x : Nat => (∃ i, i < n ∧ (f i).s = (x : Int)) ∧ ¬ InL X (x : Int)) s = (covS f n s (bookL f n)).length := by
    rw [← cnt_list l1]
    exact cnt_congr fun v hv => by rw [m1, inL_nat]; exact ⟨fun h => ⟨hv, h.1, h.2⟩, fun h => ⟨h.2.1, h.2.2⟩⟩
  have c2 : cnt (fun x : Nat => InL X (x : Int)) s = X.length := by
    rw [← k2]
    exact cnt_congr fun v _ => inL_nat X v
  have c3 : cnt (WantM f n (InL X)) 6 = (covM f n s (bookL f n)).length := by
    rw [← cnt_list l3]
    exact cnt_congr fun v hv => by rw [m2]; exact ⟨fun h => ⟨hv, h⟩, fun h => h.2⟩
  have hc : coverB f (covS f n s (bookL f n)).length (natG (covS f n s (bookL f n))) (covM f n s (bookL f n)).length (natG (covM f n s (bookL f n))) n = true := by
    rw [coverB_iff]
    intro i hi
    rcases r1 i hi with ⟨_, h⟩ | h
    · refine .inl ?_
      obtain ⟨v, hv⟩ := Int.eq_ofNat_of_zero_le (hS i hi).1
      have := hS i hi
      rw [hv] at h ⊢
      exact (natG_has _ v).2 ((m1 v).2 ⟨by omega, ⟨i, hi, hv⟩, fun hm => h ((inL_nat X v).2 hm)⟩)
    · refine .inr ?_
      obtain ⟨v, hv⟩ := Int.eq_ofNat_of_zero_le (hT i hi).1
      have := hT i hi
      rw [hv] at h ⊢
      obtain ⟨j, hj, a, e⟩ := h
      exact (natG_has _ v).2 ((m2 v).2 ⟨by omega, j, hj, a, e⟩)
  refine ⟨by rw [coverE, if_pos hE, if_pos ⟨l1, l2⟩, if_pos hc], ?_, ?_, ?_⟩
  · unfold tooFewK at k3
    rw [c1, c2] at r2
    rw [c3] at k3
    omega
  · rw [← cnt_list l1]; exact cnt_atmost _ _
  · rw [← cnt_list l2]; exact cnt_atmost _ _
/-- No list of a day has more wants than a cover has numbers. -/
theorem list_cover (hE : bookE s M n f = 0) {ns nm : Nat} {sh mo : Nat → Int} (h1 : coverE s M n f ns sh nm mo = 0) : (bestOf f n).length ≤ ns + nm := by
  obtain ⟨g1, g2, g3, g4⟩ := id hG
  have hS : ∀ i, i < n → 0 ≤ (f i).s ∧ (f i).s < s := fun i hi => (g4 i hi).1
  have hT : ∀ i, i < n → 0 ≤ (f i).m ∧ (f i).m < M := fun i hi => (g4 i hi).2
  rw [coverE, if_pos hE] at h1
  by_cases hl : listB sh s ns = true ∧ listB mo M nm = true
  · rw [if_pos hl] at h1
    by_cases hc : coverB f ns sh nm mo n = true
    · have hb := best_most f n
      have := cover_most hS hT hb.1 ((coverB_iff f ns sh nm mo n).1 hc)
      rw [hb.2.1, listB_cnt hl.1, listB_cnt hl.2] at this
      exact this
    · rw [if_neg hc] at h1; omega
  · rw [if_neg hl] at h1; omega
end
end Go.Proofs.Ytbjgbgchagfokaa

namespace Go.Proofs.Ytbjgbgchagfokaa
open Go Go.RowKit

section
variable {P : Program} {ops : Array Oper} {md : Region.Mode} {Q : Exit → Act → World → Prop} {C : World → Prop}

/-- As UpdIn: blocks outside of X stay, and X grows by new blocks alone. -/
def UpdX (P : Program) (ops : Array Oper) (C F : World → Prop) (X : Nat → Prop) (o : Oper) (F' : Value → World → Prop) (X' : Value → Nat → Prop) (a : Act) : Prop :=
  Region.wanted o (yielded ops a.tmps) = true ∧ (∀ v, Stable (F' v)) ∧ (∀ v w, F' v w → C w) ∧ (∀ v w, F' v w → ∀ b, X' v b → b < w.heap.size) ∧
    ∀ w, F w → ∃ v w', (execOp a.eval o).run P w = .ok (.value v) w' ∧ F' v w' ∧ (∀ b z, ¬ X b → w.heap[b]? = some z → w'.heap[b]? = some z) ∧ ∀ b, X' v b → X b ∨ w.heap.size ≤ b

/-- The steps beside number x, which makes the variable; number c is the last of them. -/
def RunX (P : Program) (md : Region.Mode) (ops : Array Oper) (Q : Exit → Act → World → Prop) (C : World → Prop) (w0 : World) (x c tx : Nat) (z : Obj) (g : Nat) : Nat → Array Bool → Act → (World → Prop) → (Nat → Prop) → Prop
  | 0, done, a, F, X => Run P md ops Q C (g + 1) done a F ∧ ∀ b, w0.heap.size ≤ b → ¬ X b → Run P md ops Q C g (done.setIfInBounds x true) (a.put (some tx) (ptrTo b)) (fun w => F w ∧ w.heap[b]? = some z)
  | f + 1, done, a, F, X => done.getD c true = false ∧ x ∈ Region.ready md ops done ∧ (∃ i ∈ Region.ready md ops done, i ≠ x) ∧ ∀ i ∈ Region.ready md ops done, i ≠ x → ∃ o, ops[i]? = some o ∧
      ((∃ v, QuietIn P ops F o v a ∧ RunX P md ops Q C w0 x c tx z g f (done.setIfInBounds i true) (a.put o.dst v) F X) ∨
       (∃ F' X', UpdX P ops C F X o F' X' a ∧ ∀ v, (∃ w, F' v w) → RunX P md ops Q C w0 x c tx z g f (done.setIfInBounds i true) (a.put o.dst v) (F' v) (X' v)))

variable {w0 : World} {x c tx : Nat} {z : Obj} {g : Nat} {ox : Oper}

/-- What waits for the variable waits for the last step, too. -/
def waitsB (md : Region.Mode) (ops : Array Oper) (x c : Nat) : Bool := (List.range ops.size).all fun t => !(Region.waitsFor md ops t x) || Region.waitsFor md ops t c
/-- All else that does not wait for it is apart from it. -/
def apartXB (md : Region.Mode) (ops : Array Oper) (x : Nat) : Bool := (List.range ops.size).all fun j => j == x || Region.waitsFor md ops j x || (match ops[x]?, ops[j]? with
  | some ox, some oj => ox.apart ops oj
  | _, _ => true)

theorem not_ready_waits {t i : Nat} {done : Array Bool} (hw : Region.waitsFor md ops t i = true) (hd : done.getD i false = false) : t ∉ Region.ready md ops done := fun h => by
  obtain ⟨_, o, ho, hall⟩ := mem_ready.1 h
  obtain ⟨o', ho', e, he, hb, hi⟩ := Region.waitsFor_spec hw
  obtain rfl : o' = o := Option.some.inj (ho'.symm.trans ho)
  have := hall e he hb
  rw [hi, hd] at this
  cases this
theorem not_waits {t i : Nat} {o : Oper} (ho : ops[t]? = some o) (hw : Region.waitsFor md ops t i = false) : ∀ e ∈ o.after, Region.binds md e = true → e.on ≠ i := fun e he hb hi => by
  unfold Region.waitsFor at hw
  simp only [ho] at hw
  rw [← Bool.not_eq_true, Array.any_eq_true'] at hw
  exact hw ⟨e, he, by simp [hb, hi]⟩
theorem ready_back {done : Array Bool} {i : Nat} (hW : waitsB md ops x c = true) (hc : done.getD c true = false) (hxc : x ≠ c) (hxs : x < done.size) (hi : i ∈ Region.ready md ops (done.setIfInBounds x true)) : i ∈ Region.ready md ops done ∧ i ≠ x := by
  obtain ⟨h0, o, ho, hall⟩ := mem_ready.1 hi
  have hix : i ≠ x := fun e => by
    subst e
    simp [hxs] at h0
  have hil : i < ops.size := (Array.getElem?_eq_some_iff.1 ho).1
  have hnw : Region.waitsFor md ops i x = false := by
    cases e : Region.waitsFor md ops i x with
    | false => rfl
    | true =>
      have h1 := List.all_eq_true.1 hW i (by simpa using hil)
      simp only [e, Bool.not_true, Bool.false_or] at h1
      exact absurd hi (not_ready_waits h1 (by rw [getD_set_ne false hxc]; exact getD_both hc))
  refine ⟨mem_ready.2 ⟨by rwa [getD_set_ne true (Ne.symm hix)] at h0, o, ho, fun e he hb => ?_⟩, hix⟩
  have h2 := hall e he hb
  have hx := not_waits ho hnw e he hb
  rwa [getD_set_ne false (Ne.symm hx)] at h2
theorem apart_of {done : Array Bool} {i : Nat} {oi : Oper} (hA : apartXB md ops x = true) (hox : ops[x]? = some ox) (hoi : ops[i]? = some oi) (hix : i ≠ x) (hr : i ∈ Region.ready md ops done) (hx : done.getD x false = false) : ox.apart ops oi = true := by
  have hil : i < ops.size := (Array.getElem?_eq_some_iff.1 hoi).1
  have h1 := List.all_eq_true.1 hA i (by simpa using hil)
  simp only [hox, hoi, Bool.or_eq_true, beq_iff_eq] at h1
  rcases h1 with (h1 | h1) | h1
  · exact absurd h1 hix
  · exact absurd hr (not_ready_waits h1 hx)
  · exact h1

/-- The variable is made already. -/
theorem runX_made (hox : ops[x]? = some ox) (hdx : ox.dst = some tx) (hsel : ∀ (j : Nat) (o : Oper) cs b, ops[j]? = some o → o.op ≠ .select cs b) (hW : waitsB md ops x c = true) (hA : apartXB md ops x = true) (hxc : x ≠ c) :
    ∀ (f : Nat) (done : Array Bool) (a : Act) (F : World → Prop) (X : Nat → Prop) (b : Nat), done.size = ops.size → w0.heap.size ≤ b → ¬ X b → (∀ w, F w → C w) → RunX P md ops Q C w0 x c tx z g f done a F X →
      Run P md ops Q C (f + g) (done.setIfInBounds x true) (a.put (some tx) (ptrTo b)) (fun w => F w ∧ w.heap[b]? = some z) := by
  intro f
  induction f with
  | zero => intro done a F X b _ hb hX _ h; rw [Nat.zero_add]; exact h.2 b hb hX
  | succ f ih =>
    intro done a F X b hds hb hX hC h
    obtain ⟨hc, hxr, ⟨i0, hi0, hi0x⟩, hall⟩ := h
    have hxs : x < done.size := by rw [hds]; exact (Array.getElem?_eq_some_iff.1 hox).1
    have hx0 : done.getD x false = false := getD_both (mem_ready.1 hxr).1
    rw [Nat.succ_add]
    refine ⟨List.ne_nil_of_mem (ready_mono hi0 hi0x), fun i hi => ?_⟩
    obtain ⟨hir, hix⟩ := ready_back hW hc hxc hxs hi
    obtain ⟨o, ho, hstep⟩ := hall i hir hix
    obtain ⟨p1, p2, p3⟩ := Oper.apart_spec (apart_of hA hox ho hix hir hx0)
    rw [hdx] at p1 p2
    have e1 := execOp_put o (fun cs b => hsel i o cs b ho) a (some tx) (ptrTo b) p1
    have e2 := wanted_put o a (some tx) (ptrTo b) p1
    refine ⟨o, ho, ?_⟩
    rcases hstep with ⟨v, hq, hK⟩ | ⟨F', X', ⟨hwt, hS, hC', hX', hrun⟩, hK⟩
    · refine .inl ⟨v, (hq.of_same e1 e2).mono (fun w hw => hw.1), ?_⟩
      have := ih _ _ F X b (by simpa using hds) hb hX hC hK
      rw [Act.put_comm a _ _ (fun d hd e => p2 d hd e), Array.setIfInBounds_comm _ _ hix.symm]
      exact this
    · refine .inr (.inr (.inr ⟨fun v w => F' v w ∧ w.heap[b]? = some z ∧ ¬ X' v b, ⟨by rw [e2]; exact hwt, fun v w w' h hb' => ⟨hS v w w' h.1 hb', (hb'.block b (heap_size_lt h.2.1)).trans h.2.1, h.2.2⟩, fun v w hw => hC' v w hw.1, fun w hw => ?_⟩, fun v hv => ?_⟩))
      · obtain ⟨v, w', e, hf, hkeep, hnew⟩ := hrun w hw.1
        rw [e1]
        refine ⟨v, w', e, hf, hkeep b z hX hw.2, fun hxb => ?_⟩
        rcases hnew b hxb with h1 | h1
        · exact hX h1
        · have := heap_size_lt hw.2
          omega
      · obtain ⟨w, hf, _, hnx⟩ := hv
        have := ih _ _ (F' v) (X' v) b (by simpa using hds) hb hnx (hC' v) (hK v ⟨w, hf⟩)
        rw [Act.put_comm a _ _ (fun d hd e => p2 d hd e), Array.setIfInBounds_comm _ _ hix.symm]
        exact run_mono _ _ _ _ _ (fun w hw => ⟨hw.1, hw.2.1⟩) this
/-- The variable is made at whatever moment. -/
theorem runX_float (hox : ops[x]? = some ox) (hgx : ox.guard = none) (hdx : ox.dst = some tx) (hal : ∀ (a : Act) (w : World), (execOp a.eval ox).run P w = .ok (.value (ptrTo w.heap.size)) (w.alloc z)) (hsel : ∀ (j : Nat) (o : Oper) cs b, ops[j]? = some o → o.op ≠ .select cs b) (hW : waitsB md ops x c = true) (hA : apartXB md ops x = true) (hxc : x ≠ c) (hC0 : ∀ w, C w → w0.heap.size ≤ w.heap.size) :
    ∀ (f : Nat) (done : Array Bool) (a : Act) (F : World → Prop) (X : Nat → Prop), done.size = ops.size → (∀ w, F w → C w) → (∀ w, F w → ∀ b, X b → b < w.heap.size) → RunX P md ops Q C w0 x c tx z g f done a F X → Run P md ops Q C (f + g + 1) done a F := by
  intro f
  induction f with
  | zero => intro done a F X _ _ _ h; rw [Nat.zero_add]; exact h.1
  | succ f ih =>
    intro done a F X hds hC hXs H
    have H' := H
    obtain ⟨hc, hxr, ⟨i0, hi0, hi0x⟩, hall⟩ := H
    refine ⟨List.ne_nil_of_mem hxr, fun i hi => ?_⟩
    by_cases hix : i = x
    · subst hix
      refine ⟨ox, hox, .inr (.inl ⟨fun v w => ∃ b, v = ptrTo b ∧ (w0.heap.size ≤ b ∧ ¬ X b) ∧ w.heap[b]? = some z, ⟨by simp [Region.wanted, hgx], fun v w w' h hb => ?_, fun w hw => ⟨_, _, hal a w, (Below.refl _ w).alloc (Nat.le_refl _) z, w.heap.size, rfl, ⟨hC0 w (hC w hw), fun hx => Nat.lt_irrefl _ (hXs w hw _ hx)⟩, World.alloc_heap_new w z⟩⟩, fun v hv => ?_⟩)⟩
      · obtain ⟨b, e, h1, h2⟩ := h
        exact ⟨b, e, h1, (hb.block b (heap_size_lt h2)).trans h2⟩
      obtain ⟨_, b, rfl, ⟨hb0, hbX⟩, _⟩ := hv
      rw [hdx]
      refine run_mono _ _ _ _ _ ?_ (runX_made hox hdx hsel hW hA hxc (f + 1) done a F X b hds hb0 hbX hC H')
      rintro w ⟨h1, b', e1, _, h2⟩
      have eb := ptr_inj e1
      subst eb
      exact ⟨h1, h2⟩
    · obtain ⟨o, ho, hstep⟩ := hall i hi hix
      refine ⟨o, ho, ?_⟩
      rcases hstep with ⟨v, hq, hK⟩ | ⟨F', X', ⟨hwt, hS, hC', hX', hrun⟩, hK⟩
      · refine .inl ⟨v, hq, ?_⟩
        have := ih _ _ F X (by simpa using hds) hC hXs hK
        rw [show f + 1 + g = f + g + 1 by omega]
        exact this
      · refine .inr (.inr (.inr ⟨F', ⟨hwt, hS, hC', fun w hw => ?_⟩, fun v hv => ?_⟩))
        · obtain ⟨v, w', e, hf, _, _⟩ := hrun w hw
          exact ⟨v, w', e, hf⟩
        · have := ih _ _ (F' v) (X' v) (by simpa using hds) (hC' v) (hX' v) (hK v hv)
          rw [show f + 1 + g = f + g + 1 by omega]
          exact this

/-- What may come up next beside the variable, one by one. -/
def RunXAt (P : Program) (md : Region.Mode) (ops : Array Oper) (Q : Exit → Act → World → Prop) (C : World → Prop) (w0 : World) (x c tx : Nat) (z : Obj) (g f : Nat) (done : Array Bool) (a : Act) (F : World → Prop) (X : Nat → Prop) (i : Nat) : Prop :=
  ∃ o, ops[i]? = some o ∧
      ((∃ v, QuietIn P ops F o v a ∧ RunX P md ops Q C w0 x c tx z g f (done.setIfInBounds i true) (a.put o.dst v) F X) ∨
       (∃ F' X', UpdX P ops C F X o F' X' a ∧ ∀ v, (∃ w, F' v w) → RunX P md ops Q C w0 x c tx z g f (done.setIfInBounds i true) (a.put o.dst v) (F' v) (X' v)))
theorem runX_each {f : Nat} {done : Array Bool} {a : Act} {F : World → Prop} {X : Nat → Prop} (rs : List Nat) (hc : done.getD c true = false) (hr : (Region.ready md ops done).filter (· != x) = rs) (hxr : (Region.ready md ops done).contains x = true) (hne : rs ≠ []) (h : ∀ i ∈ rs, RunXAt P md ops Q C w0 x c tx z g f done a F X i) : RunX P md ops Q C w0 x c tx z g (f + 1) done a F X := by
  subst hr
  refine ⟨hc, by simpa using hxr, ?_, fun i hi hix => h i (by simp [hi, hix])⟩
  cases e : (Region.ready md ops done).filter (· != x) with
  | nil => exact absurd e hne
  | cons i r =>
    have : i ∈ (Region.ready md ops done).filter (· != x) := by rw [e]; exact List.mem_cons_self
    simp only [List.mem_filter, bne_iff_ne, ne_eq] at this
    exact ⟨i, this.1, this.2⟩
theorem atX_upd {f i : Nat} {o : Oper} {done : Array Bool} {a : Act} {F : World → Prop} {X : Nat → Prop} (F' : Value → World → Prop) (X' : Value → Nat → Prop) (ho : ops[i]? = some o) (hg : o.guard = none) (hS : ∀ v, Stable (F' v)) (hC : ∀ v w, F' v w → C w) (hX : ∀ v w, F' v w → ∀ b, X' v b → b < w.heap.size)
    (hrun : ∀ w, F w → ∃ v w', (execOp a.eval o).run P w = .ok (.value v) w' ∧ F' v w' ∧ (∀ b z, ¬ X b → w.heap[b]? = some z → w'.heap[b]? = some z) ∧ ∀ b, X' v b → X b ∨ w.heap.size ≤ b)
    (h : ∀ v, (∃ w, F' v w) → RunX P md ops Q C w0 x c tx z g f (done.setIfInBounds i true) (a.put o.dst v) (F' v) (X' v)) : RunXAt P md ops Q C w0 x c tx z g f done a F X i :=
  ⟨o, ho, .inr ⟨F', X', ⟨by simp [Region.wanted, hg], hS, hC, hX, hrun⟩, h⟩⟩
theorem atX_quiet {f i : Nat} {o : Oper} {done : Array Bool} {a : Act} {F : World → Prop} {X : Nat → Prop} (v : Value) (ho : ops[i]? = some o) (hq : QuietIn P ops F o v a) (h : RunX P md ops Q C w0 x c tx z g f (done.setIfInBounds i true) (a.put o.dst v) F X) : RunXAt P md ops Q C w0 x c tx z g f done a F X i :=
  ⟨o, ho, .inl ⟨v, hq, h⟩⟩
theorem runX_mono : ∀ (f : Nat) (done : Array Bool) (a : Act) (F F' : World → Prop) (X X' : Nat → Prop), (∀ w, F' w → F w) → (∀ b, X b → X' b) → (∀ b, X' b → X b) → RunX P md ops Q C w0 x c tx z g f done a F X → RunX P md ops Q C w0 x c tx z g f done a F' X' := by
  intro f
  induction f with
  | zero => intro done a F F' X X' hF hX _ h; exact ⟨run_mono _ _ _ _ _ hF h.1, fun b hb hb' => run_mono _ _ _ _ _ (fun w hw => ⟨hF w hw.1, hw.2⟩) (h.2 b hb fun hh => hb' (hX b hh))⟩
  | succ f ih =>
    intro done a F F' X X' hF hX hX2 h
    refine ⟨h.1, h.2.1, h.2.2.1, fun i hi hix => ?_⟩
    obtain ⟨o, ho, hs⟩ := h.2.2.2 i hi hix
    refine ⟨o, ho, ?_⟩
    rcases hs with ⟨v, hq, hK⟩ | ⟨F2, X2, ⟨hwt, hS, hC, hXs, hrun⟩, hK⟩
    · exact .inl ⟨v, hq.mono hF, ih _ _ _ _ _ _ hF hX hX2 hK⟩
    · refine .inr ⟨F2, X2, ⟨hwt, hS, hC, hXs, fun w hw => ?_⟩, hK⟩
      obtain ⟨v, w', e, h1, h2, h3⟩ := hrun w (hF w hw)
      exact ⟨v, w', e, h1, fun b z hb => h2 b z fun hh => hb (hX b hh), fun b hb => (h3 b hb).imp (hX b) id⟩

end

end Go.Proofs.Ytbjgbgchagfokaa

namespace Go.Proofs.Ytbjgbgchagfokaa
open Go Go.RowKit

abbrev sl (b n c : Nat) : Value := .slice (some ⟨b, 0, none⟩) n c
theorem sl_inj {b n c b' n' c' : Nat} (h : sl b n c = sl b' n' c') : b = b' ∧ n = n' ∧ c = c' := by
  unfold sl at h
  injection h with h1 h2 h3
  injection h1 with h1
  injection h1 with h1
  exact ⟨h1, h2, h3⟩
/-- The call's own list, at block g. -/
def OwnR (e : TypeId) (size B : Nat) (w : World) (n : Nat) (xs : List Value) (g c : Nat) : Prop := w.ownsRow B e size (sl g n c) n xs
theorem OwnR.below {e : TypeId} {size B n g c : Nat} {xs : List Value} {w w' : World} (h : OwnR e size B w n xs g c) (hb : Below w.heap.size w w') : OwnR e size B w' n xs g c := by
  refine ⟨h.1, ?_⟩
  rcases h.2 with h2 | ⟨g', cap, cur, hv, hbg, hg, h3⟩
  · exact .inl h2
  · exact .inr ⟨g', cap, cur, hv, hbg, (hb.block g' (Array.getElem?_eq_some_iff.1 hg).1).trans hg, h3⟩
theorem OwnR.st {e : TypeId} {size B n g c : Nat} {xs : List Value} : Stable fun w => OwnR e size B w n xs g c := fun _ _ h hb => h.below hb
theorem OwnR.lt {e : TypeId} {size B n g c : Nat} {xs : List Value} {w : World} (h : OwnR e size B w n xs g c) : B ≤ g ∧ g < w.heap.size := World.ownsRow.lt h g rfl
theorem OwnR.cap {e : TypeId} {size B n g c : Nat} {xs : List Value} {w : World} (h : OwnR e size B w n xs g c) : n ≤ c ∧ c ≤ maxLen := by
  rcases h.2 with ⟨h2, _⟩ | ⟨g', cap, cur, hv, hbg, hg, h3, h4, _⟩
  · cases h2
  · obtain ⟨-, -, rfl⟩ := sl_inj hv
    exact ⟨h3, h4⟩
theorem lit_owns {e : TypeId} {size B : Nat} {w : World} (hB : B ≤ w.heap.size) : OwnR e size B (w.alloc (.cells #[] e)) 0 [] w.heap.size 0 := by
  have h := World.ownsRow_lit (base := B) (e := e) (size := size) w #[] 0 hB (by unfold maxLen; omega) (by simp)
  exact h
theorem OwnR.ne {e e' : TypeId} {size B n g c b : Nat} {xs : List Value} {w : World} {cs : Array Value} (h : OwnR e size B w n xs g c) (hb : w.heap[b]? = some (.cells cs e' (0, 0))) (he : e ≠ e') : g ≠ b := fun hgb => by
  subst hgb
  rcases h.2 with ⟨h2, _⟩ | ⟨g', cap, cur, hv, hbg, hg, _⟩
  · cases h2
  · obtain ⟨rfl, -, -⟩ := sl_inj hv
    rw [hb] at hg
    injection hg with hg
    injection hg with _ h3 _
    exact he h3.symm
theorem OwnR.keep {e : TypeId} {size B n g c : Nat} {xs : List Value} {w w' : World} (h : OwnR e size B w n xs g c) (hg : w'.heap[g]? = w.heap[g]?) : OwnR e size B w' n xs g c := by
  refine ⟨h.1, ?_⟩
  rcases h.2 with h2 | ⟨g', cap, cur, hv, hbg, hg', h3⟩
  · exact .inl h2
  · obtain ⟨rfl, -, -⟩ := sl_inj hv
    exact .inr ⟨g, cap, cur, hv, hbg, hg.trans hg', h3⟩
/-- One new block with these cells. -/
def RowK (ks : Array Value) (e : TypeId) (w : World) (d : Nat) : Prop := w.heap[d]? = some (.cells ks e (0, 0))
theorem RowK.st {ks : Array Value} {e : TypeId} {d : Nat} : Stable fun w => RowK ks e w d := fun _ _ h hb => (hb.block d (heap_size_lt h)).trans h

section
variable {P : Program} {ts e : TypeId} {i0 : TypeInfo} {z : Value} {size bytes : Nat} (ht : P.underlying ts = some (.slice e)) (hi : P.info? e = some i0) (hz : i0.zero = some z) (hs : i0.size = size) (hby : i0.bytes = bytes) (hzs : z.cells.size = size) (hsz : 0 < size)
include ht hi hz hs hby hzs hsz
/-- A list is appended to one of one's own. -/
theorem app_list {ty : TypeId} {B b c m n cap : Nat} {w0 w : World} {xs news : List Value} {a : Option Addr} (hC : Below B w0 w) (hB : B = w0.heap.size) (h : OwnR e size B w m xs b c)
    (hsrc : (n = 0 ∧ news = []) ∨ ∃ ad, a = some ad ∧ news.length = n * size ∧ ∀ j u, news[j]? = some u → w.cell? (ad.add j) = some u) (h1 : ∀ u ∈ news, u.oneCell' = true) (hm : m + n ≤ maxLen) (hbytes : (m + n) * bytes ≤ 140737488355328) :
    ∃ g c' w', (Builtin.append_ #[ts, ts] ty #[sl b m c, .slice a n cap]).run P w = .ok (sl g (m + n) c') w' ∧ OwnR e size B w' (m + n) (xs ++ news) g c' ∧ Below B w0 w' ∧ (∀ q o, q ≠ b → w.heap[q]? = some o → w'.heap[q]? = some o) ∧ (g = b ∨ w.heap.size ≤ g) := by
  by_cases h0 : n = 0
  · subst h0
    have hn0 : news = [] := by
      rcases hsrc with ⟨-, h2⟩ | ⟨ad, -, h2, -⟩
      · exact h2
      · exact List.length_eq_zero_iff.1 (by omega)
    subst hn0
    refine ⟨b, c, w, ?_, by simpa using h, hC, fun _ _ _ h => h, .inl rfl⟩
    have hfc : ∀ w : World, (Builtin.firstCells i0.size 0 (.slice a 0 cap)).run P w = .ok #[] w := fun w => by
      cases a <;> simp [Builtin.firstCells, loadCells, loadCellsFrom]
    exact run_append_nothing w ts ts ty e i0 ht hi (some ⟨b, 0, none⟩) m c h.cap.1 (.slice a 0 cap) ⟨.inl ⟨e, ht⟩, fun w' => rfl, hfc _, hfc _, by simp, by simp⟩
  · obtain ⟨ad, rfl, hl, hnews⟩ : ∃ ad, a = some ad ∧ news.length = n * size ∧ ∀ j u, news[j]? = some u → w.cell? (ad.add j) = some u := by
      rcases hsrc with ⟨h2, -⟩ | h2
      · exact absurd h2 h0
      · exact h2
    obtain ⟨v', w', hr, h2, h3, -, h5⟩ := run_append_own_at (P := P) w B ts ty e i0 z size bytes ht hi hz hs hby hzs hsz _ m xs h ad n cap news hl hnews h1 hm hbytes (by rw [hB]; exact hC.size)
    have hf : ∃ g cap, v' = sl g (m + n) cap := by
      rcases h2.2 with ⟨_, e0⟩ | ⟨g, cap, cur, rfl, _⟩
      · omega
      · exact ⟨g, cap, rfl⟩
    obtain ⟨g, c', rfl⟩ := hf
    refine ⟨g, c', w', hr, h2, hC.grown h3 (by rw [hB]; exact hC.size) (fun j hj => by cases hj; exact h.lt.1), fun q o hq ho => ?_, ?_⟩
    · rw [h3.block q (heap_size_lt ho) (fun e => hq (by cases e; rfl))]
      exact ho
    · rcases h5 with h5 | h5
      · left
        have := Option.some.inj h5
        exact this
      · right
        have := Option.some.inj h5
        exact Nat.le_of_eq this.symm
end

end Go.Proofs.Ytbjgbgchagfokaa

namespace Go.Proofs.Ytbjgbgchagfokaa
open Go Go.RowKit

/-- The best one of those that go on a list, of r indexes that are left. -/
def refL (F : List Nat → Nat → Bool) (n : Nat) : Nat → List Nat → List Nat → List Nat
  | 0, _, best => best
  | r + 1, b, best => refL F n r b (if F b (n - (r + 1)) then pick best (refL F n r (b ++ [n - (r + 1)]) (b ++ [n - (r + 1)])) else best)
theorem refL_best (F : List Nat → Nat → Bool) (n : Nat) : ∀ r b best, refL F n r b best = bestL best (tailsL F n r b)
  | 0, _, _ => rfl
  | r + 1, b, best => by
    rw [refL, tailsL, refL_best F n r b, refL_best F n r, bestL_app]
    congr 1
    by_cases h : F b (n - (r + 1)) = true
    · rw [if_pos h, if_pos h, bestL_step]
    · rw [if_neg h, if_neg h]
      rfl
theorem tails_congr {F G : List Nat → Nat → Bool} {n : Nat} {P : List Nat → Prop} (hs : ∀ b j, P b → j < n → (∀ k, k ∈ b → k < j) → F b j = true → P (b ++ [j])) (hFG : ∀ b j, P b → j < n → (∀ k, k ∈ b → k < j) → F b j = G b j) :
    ∀ r b, r ≤ n → P b → (∀ k, k ∈ b → k < n - r) → tailsL F n r b = tailsL G n r b
  | 0, _, _, _, _ => rfl
  | r + 1, b, hr, hb, hlt => by
    have e := hFG b (n - (r + 1)) hb (by omega) hlt
    rw [tailsL, tailsL, ← e, tails_congr hs hFG r b (by omega) hb fun k hk => by have := hlt k hk; omega]
    congr 1
    by_cases h : F b (n - (r + 1)) = true
    · rw [if_pos h, if_pos h, tails_congr hs hFG r (b ++ [n - (r + 1)]) (by omega) (hs b _ hb (by omega) hlt h) fun k hk => by
        rcases List.mem_append.1 hk with hk | hk
        · have := hlt k hk; omega
        · rw [List.mem_singleton] at hk; omega]
    · rw [if_neg h, if_neg h]
/-- Is a list with one more a day's list, as the document asks. -/
def dayF (f : Nat → W2) (b : List Nat) (j : Nat) : Bool := dayB f (natG (b ++ [j])) (b ++ [j]).length
theorem listB_more {n : Nat} {b : List Nat} {j : Nat} (h : listB (natG b) n b.length = true) (hj : j < n) (hlt : ∀ k, k ∈ b → k < j) : listB (natG (b ++ [j])) n (b ++ [j]).length = true := by
  have hlen : (b ++ [j]).length = b.length + 1 := by simp
  rw [hlen, listB_iff]
  intro i hi
  by_cases e : i = b.length
  · subst e
    rw [natG_hi]
    refine ⟨by omega, fun h0 => ?_⟩
    rw [natG_lo b j (by omega)]
    have := hlt _ (natG_mem (b := b) (i := b.length - 1) (by omega))
    unfold natG
    omega
  · have h1 := (listB_iff _ _ _).1 h i (by omega)
    rw [natG_lo b j (by omega)]
    refine ⟨h1.1, fun h0 => ?_⟩
    rw [natG_lo b j (by omega)]
    exact h1.2 h0
theorem dayF_apart {f : Nat → W2} {n : Nat} {b : List Nat} {j : Nat} (h : GoodL f n b) (hj : j < n) (hlt : ∀ k, k ∈ b → k < j) : apartL f n b j = dayF f b j := by
  have hl := listB_more h.1 hj hlt
  have hlen : (b ++ [j]).length = b.length + 1 := by simp
  rw [dayF, ← apart_day hl, hlen, apartAll, natG_hi, Int.toNat_natCast]
  have h1 : apartAll f n (natG (b ++ [j])) b.length = true := by
    rw [apartAll_iff]
    intro k hk
    rw [natG_lo b j hk]
    exact apartB_same (fun i hi => (natG_lo b j (by omega)).symm) ((apartAll_iff _ _ _ _).1 h.2 k hk)
  rw [h1, Bool.true_and]
  apply Bool.eq_iff_iff.2
  exact ⟨fun h => apartB_same (fun i hi => (natG_lo b j hi).symm) h, fun h => apartB_same (fun i hi => natG_lo b j hi) h⟩
theorem refL_is (f : Nat → W2) (n : Nat) : refL (dayF f) n n [] [] = bestOf f n := by
  rw [refL_best, bestOf_best]
  congr 1
  exact (tails_congr (F := apartL f n) (G := dayF f) (P := GoodL f n) (fun b j hb hj hlt ha => goodL_more hb hj hlt ha) (fun b j hb hj hlt => dayF_apart hb hj hlt) n [] (Nat.le_refl _) (goodL_nil f n) fun k hk => absurd hk List.not_mem_nil).symm

end Go.Proofs.Ytbjgbgchagfokaa

namespace Go.Proofs.Ytbjgbgchagfokaa
open Go Go.RowKit Go.Shelf

/-- A list of one's own with one more, out of any list. -/
theorem copy_one {w : World} {b : List Nat} {p : Option Addr} {c k : Nat} (hL : Lst w b p c) (hlen : b.length ≤ 1048576) :
    ∃ g1 c1 w2, (Builtin.append_ #[25, 25] 25 #[.slice (some ⟨w.heap.size, 0, none⟩) 0 0, .slice p b.length c]).run Try.prog (w.alloc (.cells #[] 3)) = .ok (.slice (some ⟨g1, 0, none⟩) b.length c1) w2 ∧
      ∃ g2 c2 w4, (Builtin.append_ #[25, 25] 25 #[.slice (some ⟨g1, 0, none⟩) b.length c1, .slice (some ⟨w2.heap.size, 0, none⟩) 1 1]).run Try.prog (w2.alloc (.cells #[.int .i64 (k : Int)] 3)) = .ok (.slice (some ⟨g2, 0, none⟩) (b.length + 1) c2) w4 ∧
        Lst w4 (b ++ [k]) (some ⟨g2, 0, none⟩) c2 ∧ Below w.heap.size w w4 := by
  obtain ⟨i0, hi, hi0, hi1, hi2⟩ := info_parts1 infoInt
  have hB1 : Below w.heap.size w (w.alloc (.cells #[] 3)) := (Below.refl _ w).alloc (Nat.le_refl _) _
  have hsrc : (b.length = 0 ∧ natL b = []) ∨ ∃ ad, p = some ad ∧ (natL b).length = b.length * 1 ∧ ∀ j u, (natL b)[j]? = some u → (w.alloc (.cells #[] 3)).cell? (ad.add j) = some u := by
    rcases (Cells.below hL.cells hB1) with h | ⟨bb, off, rfl, hlt, hc⟩
    · exact .inl ⟨h, by rw [natL, List.length_eq_zero_iff.1 h]; rfl⟩
    · refine .inr ⟨_, rfl, by simp [natL], fun j u hj => ?_⟩
      have hjl : j < b.length := by have := (List.getElem?_eq_some_iff.1 hj).1; simpa [natL] using this
      have e : (natL b)[j]? = some (.int .i64 ((b.getD j 0 : Nat) : Int)) := by simp [natL, List.getD_eq_getElem?_getD, List.getElem?_eq_getElem hjl]
      rw [e] at hj
      rw [← Option.some.inj hj]
      unfold Addr.add
      split
      · rename_i h0; subst h0; exact hc 0 hjl
      · exact hc j hjl
  have hone : ∀ u ∈ natL b, u.oneCell' = true := fun u hu => by
    simp only [natL, List.mem_map] at hu
    obtain ⟨x, -, rfl⟩ := hu
    rfl
  obtain ⟨g1, c1, w2, hr1, ho1, hb1, -, -⟩ := app_list (P := Try.prog) Try.underlying25 hi hi0 hi1 hi2 rfl (by decide) (ty := 25) (cap := c) hB1 rfl (lit_owns (e := 3) (size := 1) (Nat.le_refl _)) hsrc hone (by unfold maxLen; omega) (by omega)
  simp only [Nat.zero_add, List.nil_append] at hr1 ho1
  have hb3 : Below w.heap.size w (w2.alloc (.cells #[.int .i64 (k : Int)] 3)) := hb1.alloc hb1.size _
  have ho3 : OwnR 3 1 w.heap.size (w2.alloc (.cells #[.int .i64 (k : Int)] 3)) b.length (natL b) g1 c1 := ho1.below ((Below.refl _ w2).alloc (Nat.le_refl _) _)
  obtain ⟨g2, c2, w4, hr2, ho4, hb4, -, -⟩ := app_list (P := Try.prog) Try.underlying25 hi hi0 hi1 hi2 rfl (by decide) (ty := 25) (n := 1) (cap := 1) (a := some ⟨w2.heap.size, 0, none⟩) (news := [.int .i64 (k : Int)]) hb3 rfl ho3 (.inr ⟨_, rfl, rfl, World.news_of_block (cs := #[.int .i64 (k : Int)]) (World.alloc_heap_new w2 _)⟩) (by simp [Value.oneCell']) (by unfold maxLen; omega) (by omega)
  have hown : Own w4 w.heap.size (b ++ [k]) (.slice (some ⟨g2, 0, none⟩) (b.length + 1) c2) := by
    unfold Own
    rw [show natL (b ++ [k]) = natL b ++ [.int .i64 (k : Int)] by simp [natL], show (b ++ [k]).length = b.length + 1 by simp]
    exact ho4
  obtain ⟨p', c', e, hL', -⟩ := hown.lst
  rw [show (b ++ [k]).length = b.length + 1 by simp] at e
  injection e with e1 _ e3
  subst e1 e3
  exact ⟨g1, c1, w2, hr1, g2, c2, w4, hr2, hL', hb4⟩

set_option maxRecDepth 100000 in
set_option maxHeartbeats 16000000 in
theorem ListOf_c (S M : Int) (a : Option Addr) (n cap : Nat) (f : Nat → W2) (hn : n ≤ 1000) : ∀ (r : Nat) (b : List Nat) (p : Option Addr) (c : Nat) (w : World), r ≤ n → b.length + r ≤ n → (∀ k, k ∈ b → k < n) → Wants w a n f → Lst w b p c →
    Calls Try.prog 60 #[bookV S M a n cap, .slice p b.length c, .int .i64 ((n - r : Nat) : Int)] w fun e w' => ∃ p' c', e = .returned (.slice p' (refL (dayF f) n r b b).length c') ∧ Lst w' (refL (dayF f) n r b b) p' c' ∧ Below w.heap.size w w' := by
  intro r
  induction r using Nat.strongRecOn with
  | ind r ih =>
  intro b p c w hr hbr hbn hf hL
  obtain ⟨W, hW⟩ : ∃ W, w.alloc (.cells #[.int .i64 S, .int .i64 M, .slice a n cap] 24) = W := ⟨_, rfl⟩
  have hB : Below w.heap.size w W := by rw [← hW]; exact Below.alloc1 (Below.refl _ _) _ (Nat.le_refl _)
  have hR : RowIs W w.heap.size #[.int .i64 S, .int .i64 M, .slice a n cap] 24 := by rw [← hW]; exact heap_new_at _ _ _ rfl
  have HR := Lib.hid hR
  have HF := Lib.hid (hf.below hB)
  have HL := Lib.hid (hL.below hB)
  have HB := Lib.hid hB
  have IH := Lib.hid ih
  have Hbn := Lib.hid hbn
  clear hR hf hL hB ih hbn
  go_enter Try.func60, Try.ntmps60
  go_wp2_with fail
  clear hW
  go_loopw [7, 8, 9, 10] (fun best i _ _ wr => ∃ (q : Nat) (L : List Nat) (p' : Option Addr) (c' : Nat), q ≤ r ∧ i = .int .i64 ((n - q : Nat) : Int) ∧ best = .slice p' L.length c' ∧ Lst wr L p' c' ∧ refL (dayF f) n q b L = refL (dayF f) n r b b ∧ Below W.heap.size W wr) (fun _ i _ _ _ => n - (intOf i).toNat)
  case atStart => exact ⟨r, b, p, c, Nat.le_refl _, rfl, rfl, HL.out, rfl, Below.refl _ _⟩
  case round =>
    obtain ⟨q, L, p', c', hq, rfl, rfl, hLL, hE, hbw⟩ := hrel
    have hr := RowIs.below HR.out hbw
    have r0 : wr.cell? ⟨w.heap.size, 0, none⟩ = some (.int .i64 S) := hr.cell 0
    have r1 : wr.cell? ⟨w.heap.size, 1, none⟩ = some (.int .i64 M) := hr.cell 1
    have r2 : wr.cell? ⟨w.heap.size, 2, none⟩ = some (.slice a n cap) := hr.cell 2
    have rz := hr.lt
    have LL := Lib.hid hLL
    have HE := Lib.hid hE
    have Hbw := Lib.hid hbw
    clear hr hLL hE hbw
    cases q with
    | zero =>
      rw [Nat.sub_zero]
      have HE' : Hid (refL (dayF f) n r b b = L) := Lib.hid HE.out.symm
      go_wp2_with fail
      go_ret
      rw [HE'.out]
      exact ⟨_, _, rfl, LL.out, bup HB.out Hbw.out⟩
    | succ q =>
      obtain ⟨k, hk⟩ : ∃ k, n - (q + 1) = k := ⟨_, rfl⟩
      have hkn : k < n := by omega
      have hk1 : ((n - q : Nat) : Int) = (k : Int) + 1 := by omega
      have hw1 : IntKind.i64.wrap ((k : Int) + 1) = (k : Int) + 1 := IntWalk.i64_in _ (by omega)
      have HK := Lib.hid hk
      have HK1 := Lib.hid hk1
      rw [hk]
      clear hk hk1
      obtain ⟨g1, c1, w2, hrun1, g2, c2, w4, hrun2, hL4, hb4⟩ := copy_one (k := k) (HL.out.below Hbw.out) (by omega)
      have L4 := Lib.hid hL4
      have q0 := (hb4.cell (p := ⟨w.heap.size, 0, none⟩) rz).trans r0
      have q1 := (hb4.cell (p := ⟨w.heap.size, 1, none⟩) rz).trans r1
      have q2 := (hb4.cell (p := ⟨w.heap.size, 2, none⟩) rz).trans r2
      have qz := Nat.lt_of_lt_of_le rz hb4.size
      have Hb4 := Lib.hid (bup Hbw.out hb4)
      have LL4 := Lib.hid (LL.out.below hb4)
      clear hL4 hb4
      go_wp2_with (at_builtin; first | (refine wpList_append_run rfl _ _ 25 rfl rfl rfl hrun1 ?_) | (refine wpList_append_run rfl _ _ 25 rfl rfl rfl hrun2 ?_))
      clear r0 r1 r2 rz hrun1 hrun2
      have hlen : (b ++ [k]).length = b.length + 1 := by simp
      have hcells : Ints w4 (some ⟨g2, 0, none⟩) (b.length + 1) (natG (b ++ [k])) := by rw [← hlen]; exact L4.out.cells
      have hlt : ∀ j, j ∈ b ++ [k] → j < n := fun j hj => by
        rcases List.mem_append.1 hj with h | h
        · exact Hbn.out j h
        · rw [List.mem_singleton] at h; omega
      have hrange : ∀ i, i < b.length + 1 → 0 ≤ natG (b ++ [k]) i ∧ natG (b ++ [k]) i < n := fun i hi => by
        have := hlt _ (natG_mem (b := b ++ [k]) (i := i) (by omega))
        unfold natG
        omega
      have hday : dayB f (natG (b ++ [k])) (b.length + 1) = dayF f b k := by rw [dayF, hlen]
      have HD := Lib.hid (fun (x : World) (h : Below w4.heap.size w4 x) => IsDay_c S M a n cap f (some ⟨g2, 0, none⟩) (b.length + 1) c2 (natG (b ++ [k])) x ((HF.out.below Hb4.out).below h) (Cells.below hcells h) (by omega) hrange)
      rw [hday] at HD
      have Hlt := Lib.hid hlt
      have hq1 : q < r := by omega
      have hrec : ∀ x, Below w4.heap.size w4 x → Calls Try.prog 60 #[bookV S M a n cap, .slice (some ⟨g2, 0, none⟩) (b.length + 1) c2, .int .i64 ((k : Int) + 1)] x fun e w' => ∃ p' c', e = .returned (.slice p' (refL (dayF f) n q (b ++ [k]) (b ++ [k])).length c') ∧ Lst w' (refL (dayF f) n q (b ++ [k]) (b ++ [k])) p' c' ∧ Below x.heap.size x w' := fun x h => by
        have h1 := IH.out q hq1 (b ++ [k]) (some ⟨g2, 0, none⟩) c2 x (by omega) (by omega) hlt ((HF.out.below Hb4.out).below h) (L4.out.below h)
        rw [hlen, HK1.out] at h1
        exact h1
      obtain ⟨X, hX⟩ : ∃ X, refL (dayF f) n q (b ++ [k]) (b ++ [k]) = X := ⟨_, rfl⟩
      rw [hX] at hrec
      have HREC := Lib.hid hrec
      have HX := Lib.hid hX
      have hE' := HE.out
      rw [refL, HK.out, hX] at hE'
      have HE' := Lib.hid hE'
      clear hcells hlt hrange hday hrec hX hE'
      cases hd : dayF f b k with
      | false =>
        have HDF := Lib.hid hd
        rw [hd] at HD
        clear hd
        refine (HD.out _ (Below.refl _ _)).mono ?_
        rintro e w5 ⟨rfl, hb5⟩
        have Hb5 := Lib.hid (bup Hb4.out hb5)
        have LL5 := Lib.hid (LL4.out.below hb5)
        clear hb5
        go_wp2_with fail
        go_roundw
        case rel => exact ⟨q, L, p', c', by omega, by rw [HK1.out], rfl, LL5.out, by have := HE'.out; rw [HDF.out] at this; exact this, Hb5.out⟩
        case measure => simp [intOf]; omega
      | true =>
        have HDF := Lib.hid hd
        rw [hd] at HD
        clear hd
        refine (HD.out _ (Below.refl _ _)).mono ?_
        rintro e w5 ⟨rfl, hb5⟩
        have r0 := (hb5.cell (p := ⟨w.heap.size, 0, none⟩) qz).trans q0
        have r1 := (hb5.cell (p := ⟨w.heap.size, 1, none⟩) qz).trans q1
        have r2 := (hb5.cell (p := ⟨w.heap.size, 2, none⟩) qz).trans q2
        have HREC5 := Lib.hid (HREC.out w5 hb5)
        have Hb5 := Lib.hid (bup Hb4.out hb5)
        have LL5 := Lib.hid (LL4.out.below hb5)
        clear hb5 q0 q1 q2 qz
        go_wp2_with fail
        refine (HREC5.out).mono ?_
        rintro e w6 ⟨px, cx, rfl, hLx, hb6⟩
        have LX := Lib.hid hLx
        have Hb6 := Lib.hid (bup Hb5.out hb6)
        have LL6 := Lib.hid (LL5.out.below hb6)
        clear hLx hb6 r0 r1 r2
        by_cases hlo : L.length < X.length
        · have hpk : pick L X = X := pick_lt hlo
          have t0 : decide ((L.length : Int) < (X.length : Int)) = true := by simp; omega
          have Hpk := Lib.hid hpk
          clear hpk
          go_wp2_with fail
          go_roundw
          case rel => exact ⟨q, X, px, cx, by omega, by rw [HK1.out], rfl, LX.out, by have := HE'.out; rw [HDF.out, if_pos rfl, Hpk.out] at this; exact this, Hb6.out⟩
          case measure => simp [intOf]; omega
        · have hpk : pick L X = L := pick_le (by omega)
          have t0 : decide ((L.length : Int) < (X.length : Int)) = false := by simp; omega
          have Hpk := Lib.hid hpk
          clear hpk
          go_wp2_with fail
          go_roundw
          case rel => exact ⟨q, L, p', c', by omega, by rw [HK1.out], rfl, LL6.out, by have := HE'.out; rw [HDF.out, if_pos rfl, Hpk.out] at this; exact this, Hb6.out⟩
          case measure => simp [intOf]; omega

end Go.Proofs.Ytbjgbgchagfokaa
