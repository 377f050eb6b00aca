/- Contracts: maps.Keys at a map of proofs, and its iterator. -/
import Derived.Shelf.AbstractIn
import Derived.RangeFuncGives
import Derived.Sort.MapsRangeIn
import Derived.Maps.OwnIn
import Derived.WalkKit
import Derived.OwnWalkIn
import Derived.TacticsInMore
import Derived.LoopNIn
import Derived.LoopIn
import Derived.Test.YtfjepnpnphoobaaGreatProg
import Derived.Test.YtfjepnpnphoobaaGreatMetaa
import Derived.Test.YtfjepnpnphoobaaGreatMetab
import Derived.Test.YtfjepnpnphoobaaGreatMetai
import Derived.Test.YtfjepnpnphoobaaGreatMetan
import Derived.Test.YtfjepnpnphoobaaGreatMetao
import Derived.Deep.QuietTactic
import Derived.Shelf.SlSortCmp.WholeK
import Derived.RangeFuncFrom
import Derived.Test.YtfjepnpnphoobaaGreatMetaj
import Derived.Shelf.SlIter.Collect
namespace Go.Proofs.YtfjepnpnphoobaaGreat
open Go Go.RowKit Go.Maps Go.Shelf
attribute [local go_sem] Oper.semAt_some

/-- What has come of the proofs of S, the others being still to come. -/
def Come (S : P4 → Prop) (left : Lit → Bool) (ss : List P4) : Prop :=
  (∀ p, p ∈ ss → S p) ∧ (∀ p, S p → p ∈ ss ∨ left (keyL p) = true) ∧ (∀ p, p.ok → left (keyL p) = true → S p)

theorem come_step {S : P4 → Prop} {left : Lit → Bool} {ss : List P4} {q : P4} (h1 : ∀ p, S p → p.ok) (h : Come S left ss) (hq : q.ok) (hl : left (keyL q) = true) : Come S (fun z => left z && !z.sameKey (keyL q)) (ss ++ [q]) := by
  obtain ⟨a1, a2, a3⟩ := h
  refine ⟨fun p hp => ?_, fun p hp => ?_, fun p hp hl' => a3 p hp ((left_cut hp hq).1 hl').1⟩
  · rcases List.mem_append.1 hp with hp | hp
    · exact a1 p hp
    · obtain rfl : p = q := by simpa using hp
      exact a3 p hq hl
  · by_cases e : p = q
    · exact .inl (by simp [e])
    · rcases a2 p hp with h | h
      · exact .inl (List.mem_append.2 (.inl h))
      · exact .inr ((left_cut (h1 p hp) hq).2 ⟨h, e⟩)

set_option maxHeartbeats 1000000 in
theorem keys_c (b : Nat) (w : World) :
    Calls Tryz.prog 115 #[.map (some b)] w fun e w' => e = .returned (.func (.func 122) #[] #[.pointer (some ⟨w.heap.size, 0, none⟩)]) ∧ w.alloc (.cells #[.map (some b)] 142) = w' := by
  go_enter Tryz.func115, Tryz.ntmps115
  go_wp2_with fail
  go_ret
  exact ⟨rfl, rfl⟩

set_option maxRecDepth 100000 in
set_option maxHeartbeats 4000000 in
theorem keys_gives (Bm b N : Nat) (S : P4 → Prop) (val : P4 → Int) (w : World) (hm : RowIs w Bm #[.map (some b)] 142) (hV : Vals w b N S val) :
    SeqGives Fence.wide 1 Tryz.prog 122 #[.pointer (some ⟨Bm, 0, none⟩)] proofV (fun ss => (∀ p, p ∈ ss ↔ S p) ∧ ss.length ≤ N) N w := by
  intro l J W hW hJ hY h0
  obtain ⟨D, hown, s1, s2, s3⟩ := hV.below hW
  have hsz := hown.size_le
  have hm0 : W.cell? ⟨Bm, 0, none⟩ = some (.map (some b)) := (RowIs.below hm hW).cell 0
  have HJ := Lib.hid hJ
  have HY := Lib.hid hY
  have H1 := Lib.hid s1
  have H2 := Lib.hid s2
  have H0 := Lib.hid h0
  clear hJ hY s1 s2 s3 h0 hV hm hW
  show CallsIn Fence.wide 1 Tryz.prog 122 #[.func (.yield l) #[] #[], .pointer (some ⟨Bm, 0, none⟩)] W _
  refine callsIn_of_wp Tryz.func122 rfl trivial ?_ rfl
  simp only [Tryz.ntmps122, List.size_toArray, List.length_cons, List.length_nil, Nat.reduceAdd, Nat.reduceSub, Array.replicate_succ, Array.replicate_zero, List.push_toArray, List.append_toArray, List.nil_append, List.cons_append]
  gi_wp2_with (first
    | (gi_at_range; refine wpListIn_range_own _ rfl _ 142 rfl 45 2 keyedP Tryz.underlying142 (plainElem Tryz.prog 2) b N _ rfl hown ?_; intro w0 hrg0 hg0 hs0)
    | fail)
  go_frame
  gi_loopw [6] (fun _ wr => ∃ (left : Lit → Bool) (cnt : Nat) (ss : List P4), wr.ranges Tryz.prog 45 (plainElem Tryz.prog 2) b W.heap.size N D left cnt ∧ ss.length + cnt ≤ N ∧ Come S left ss ∧ J ss wr)
    (fun _ wr => wr.rangeLeft b W.heap.size)
  case atStart =>
    exact ⟨_, _, [], hrg0, by simpa using hsz, ⟨fun p hp => by simp at hp, fun p hp => .inr ((H2.out p (H1.out p hp)).2 hp), fun p hp h => (H2.out p hp).1 h⟩, HJ.out [] W w0 none H0.out hg0 (fun r e => by cases e)⟩
  case round =>
    obtain ⟨left, cnt, ss, hrg, hcs, hC, hJs⟩ := hrel
    gi_wp2_with (first
      | (gi_at_next; refine wpListIn_next_ranges _ rfl _ rfl 45 keyedP (plainElem Tryz.prog 2) proofV (Value.int .i64) (fun key kl hk => by obtain ⟨p, hp, _⟩ := keyOf_inv hk; exact ⟨p, hp⟩) (fun v y hy => by obtain ⟨c, hc, _⟩ := plainElem_int_inv Tryz.underlying2 hy; exact ⟨c, hc⟩) b W.heap.size N _ _ _ rfl hrg ?_ ?_)
      | fail)
    · intro hc0 hl0
      gi_wp2
      go_end0
      refine ⟨⟨_, rfl⟩, ss, ⟨fun p => ⟨hC.1 p, fun hp => ?_⟩, by omega⟩, hJs⟩
      rcases hC.2.1 p hp with h | h
      · exact h
      · rw [hl0] at h; cases h
    · intro x c kl yd yp w1 cnt1 hkey hlk hv hat hrg1 hlt hg1 hs1 hen
      obtain ⟨q, hq, hok, rfl⟩ := keyOf_inv hkey
      obtain rfl := P4.ext' hq
      have hJ1 : J ss w1 := HJ.out ss wr w1 (some W.heap.size) hJs hg1 (fun r e => by cases e; exact ⟨Nat.le_refl _, hrg.iter_walk⟩)
      obtain ⟨W2, hW2⟩ : ∃ W2, w1.alloc (.cells #[.int .i64 x.d, .int .i64 x.b, .int .i64 x.l, .int .i64 x.c] 45) = W2 := ⟨_, rfl⟩
      have hrg2 : W2.ranges Tryz.prog 45 (plainElem Tryz.prog 2) b W.heap.size N D (fun z => left z && !z.sameKey (keyL x)) cnt1 := by rw [← hW2]; exact hrg1.alloc _
      have hJ2 : J ss W2 := by rw [← hW2]; exact HJ.out ss w1 _ none hJ1 (World.grownBy_alloc w1 _ none) (fun r e => by cases e)
      have hrow : RowIs W2 w1.heap.size #[.int .i64 x.d, .int .i64 x.b, .int .i64 x.l, .int .i64 x.c] 45 := by rw [← hW2]; exact heap_new_at _ _ _ rfl
      obtain ⟨fn, tmps, assign, body, hy, hR⟩ := HY.out ss x W2 hJ2 (by omega)
      obtain ⟨d0, d1, d2, d3, dz⟩ := prow hrow
      have HC := Lib.hid hC
      have Hrg2 := Lib.hid hrg2
      have Hlt := Lib.hid (show cnt1 < wr.rangeLeft b W.heap.size by rw [hrg.left_eq]; exact hlt)
      have Hlk := Lib.hid hlk
      have Hcs := Lib.hid (show (ss ++ [x]).length + cnt1 ≤ N by simp; omega)
      clear hq hg1 hat hrow hrg2 hrg hlt hrg1 hkey hv hrg0 hg0 hown hs1 hs0 hlk hJ1 hJ2 hJs hC hcs
      try dsimp only at hy
      gi_wp2
      refine hR.mono ?_
      rintro e W3 ⟨rfl, hJ3, hk3⟩
      clear d0 d1 d2 d3 dz hW2
      gi_wp2
      have hrg3 := Hrg2.out.of_walks hk3
      go_roundw
      case rel => exact ⟨_, cnt1, ss ++ [x], hrg3, Hcs.out, come_step H1.out HC.out hok Hlk.out, hJ3⟩
      case measure => rw [hrg3.left_eq]; exact Hlt.out

end Go.Proofs.YtfjepnpnphoobaaGreat

namespace Go.Proofs.YtfjepnpnphoobaaGreat
open Go Go.RowKit

section
variable {P : Program}
/-- A region that draws its order, whose last operations come one behind the other; those before read, and their callees draw at most. -/
theorem wp_region_draws_tail {id : Nat} {Q : Exit → Act → World → Prop} {a : Act} {w : World} {l : List Oper} (n : Nat) (hm : P.follows .mixedOrders = true) (hB : Region.lexTailB .any l.toArray n = true)
    (h : wpQuiet P l.toArray (fun w' => ∃ x, w' = w.drewN x) (fun a' => ∀ x, wpList P l.toArray Q (l.drop n) a' (w.drewN x)) (l.take n) a) : (Code.region id l.toArray true).wp P Q a w := by
  simp only [Region.lexTailB, Bool.and_eq_true, decide_eq_true_eq] at hB
  obtain ⟨⟨⟨⟨hsel, hn⟩, hs⟩, hc⟩, hlex⟩ := hB
  have hn' : n < l.length := by simpa using hn
  have htl : (l.take n).length = n := by simp; omega
  have hdl : (l.drop n).length = l.toArray.size - n := by simp
  have inv0 : HeadInv .any l.toArray n (Array.replicate l.toArray.size false) :=
    ⟨by simp, fun j oj _ hl => (by rw [getD_replicate_false] at hl; cases hl), fun t _ ht => getD_in (by simpa using ht) (getD_replicate_false _ _)⟩
  have H := headQ_lex (md := .any) (g := l.toArray.size - n) hsel hs hc hn (l.take n) 0 _ a (fun j hj => by
    rw [htl] at hj
    simp [hj]) (by simpa using htl) inv0 (by rw [htl]; exact hlex) h
  refine wp_region_any hm ?_
  have := headQ_any (Q := Q) (g := l.toArray.size - n) (fun done a' w' hw' hL => by
    obtain ⟨x, rfl⟩ := hw'
    have := wpAny_of_seq (md := .any) (Q' := Q) (l.drop n) n done a' (w.drewN x) (fun j => by simp [List.getElem?_drop]) (by rw [hdl]; exact hL.1) (hL.2 x)
    rwa [hdl] at this) _ _ _ { w with drawn := w.drawn + 1 } ⟨1, rfl⟩ H
  rw [htl, show n + (l.toArray.size - n) = l.toArray.size by omega] at this
  exact this
end

theorem calls_draws_same {P : Program} {f : FuncId} {args : Array Value} {w0 : World} {x : Nat} {v : Value} (h : Calls P f args (w0.drewN x) fun e w' => e = .returned v ∧ w0.drewN x = w') :
    Calls P f args (w0.drewN x) (fun e w'' => e = .returned v ∧ ∃ y, w'' = w0.drewN y) :=
  h.mono fun _ _ ⟨he, hb⟩ => ⟨he, x, hb.symm⟩

def cmpI (x y : Int) : Int := if x < y then -1 else if y < x then 1 else 0

set_option maxHeartbeats 1000000 in
theorem isNaN_c (x : Int) (w : World) : Calls Tryz.prog 129 #[.int .i64 x] w fun e w' => e = .returned (.bool false) ∧ w = w' := by
  go_enter Tryz.func129, Tryz.ntmps129
  go_wp2
  go_ret
  exact ⟨by simp, rfl⟩

set_option maxHeartbeats 1000000 in
theorem compare_c (x y : Int) (w : World) : Calls Tryz.prog 124 #[.int .i64 x, .int .i64 y] w fun e w' => e = .returned (.int .i64 (cmpI x y)) ∧ w = w' := by
  by_cases h1 : x < y
  · have e : cmpI x y = -1 := by simp [cmpI, h1]
    rw [e]
    clear e
    go_enter Tryz.func124, Tryz.ntmps124
    go_wp2_with (go_at_call 129; refine (isNaN_c _ _).mono ?_; rintro e w' ⟨rfl, rfl⟩)
    go_ret
    exact ⟨rfl, rfl⟩
  · by_cases h2 : y < x
    · have e : cmpI x y = 1 := by simp [cmpI, h1, h2]
      rw [e]
      clear e
      go_enter Tryz.func124, Tryz.ntmps124
      go_wp2_with (go_at_call 129; refine (isNaN_c _ _).mono ?_; rintro e w' ⟨rfl, rfl⟩)
      go_ret
      exact ⟨rfl, rfl⟩
    · have e : cmpI x y = 0 := by simp [cmpI, h1, h2]
      rw [e]
      clear e
      go_enter Tryz.func124, Tryz.ntmps124
      go_wp2_with (go_at_call 129; refine (isNaN_c _ _).mono ?_; rintro e w' ⟨rfl, rfl⟩)
      go_ret
      exact ⟨rfl, rfl⟩

def orF (f : Nat → Int) : Nat → Nat → Int
  | _, 0 => 0
  | i, k + 1 => if f i = 0 then orF f (i + 1) k else f i

set_option maxHeartbeats 1000000 in
theorem or_c (a : Option Addr) (n cap : Nat) (f : Nat → Int) (w : World) (hf : Ints w a n f) (hn : n ≤ 1048576) : Calls Tryz.prog 123 #[.slice a n cap] w fun e w' => e = .returned (.int .i64 (orF f 0 n)) ∧ w = w' := by
  go_enter Tryz.func123, Tryz.ntmps123
  go_wp2
  go_loopw [8] (fun i wr => ∃ k : Nat, k ≤ n ∧ i = .int .i64 k ∧ orF f k (n - k) = orF f 0 n ∧ w = wr) (fun i _ => n - (intOf i).toNat)
  case atStart => exact ⟨0, Nat.zero_le _, rfl, rfl, rfl⟩
  case round =>
    obtain ⟨k, hk, rfl, hO, rfl⟩ := hrel
    by_cases hlt : k < n
    · obtain ⟨b, off, rfl, hbs, hc⟩ := Cells.at hf k hlt
      have hk0 := hc k hlt
      have hstep : orF f k (n - k) = if f k = 0 then orF f (k + 1) (n - (k + 1)) else f k := by
        rw [show n - k = (n - (k + 1)) + 1 by omega]
        rfl
      by_cases h0 : f k = 0
      · rw [if_pos h0] at hstep
        have hO' := hstep.symm.trans hO
        have h0' : (f k != 0) = false := by simp [h0]
        have HO := Lib.hid hO'
        clear hO hO' hstep h0
        go_wp2
        go_roundw
        case rel => exact ⟨k + 1, by omega, by go_num, HO.out, trivial⟩
        case measure => simp [intOf]; omega
      · rw [if_neg h0] at hstep
        have hO' := hstep.symm.trans hO
        have h0' : (f k != 0) = true := by simp [h0]
        have HO := Lib.hid hO'
        clear hO hO' hstep h0
        go_wp2
        go_ret
        exact ⟨ret_i HO.out, rfl⟩
    · obtain rfl : k = n := by omega
      have hO' : (0 : Int) = orF f 0 k := by rw [← hO, Nat.sub_self]; rfl
      have HO := Lib.hid hO'
      clear hO hO'
      go_wp2
      go_ret
      exact ⟨ret_i HO.out, rfl⟩

/-- How two proofs are ordered. -/
def cmpP (p q : P4) : Int := orF (fun i => [cmpI p.d q.d, cmpI p.b q.b, cmpI p.l q.l, cmpI p.c q.c].getD i 0) 0 4

theorem grow_of {w w' : World} (h : Below w.heap.size w w') (hd : w.drawn ≤ w'.drawn) : ∃ q os, w' = Sort.grow (w.drewN q) os := by
  refine ⟨w'.drawn - w.drawn, w'.heap.extract w.heap.size w'.heap.size, ?_⟩
  have e : w'.heap = w.heap ++ w'.heap.extract w.heap.size w'.heap.size := by
    apply Array.ext_getElem?
    intro i
    by_cases hi : i < w.heap.size
    · rw [Array.getElem?_append_left hi]
      exact h.block i hi
    · rw [Array.getElem?_append_right (by omega)]
      simp only [Array.getElem?_extract]
      have := h.size
      split
      · rw [show w.heap.size + (i - w.heap.size) = i by omega]
      · rw [Array.getElem?_eq_none (by omega)]
  cases w'
  simp only [Sort.grow, World.drewN] at *
  obtain ⟨h1, h2, h3, _, _⟩ := h
  simp only at h1 h2 h3
  subst h1; subst h2; subst h3
  congr 1
  omega

set_option maxRecDepth 100000 in
set_option maxHeartbeats 4000000 in
theorem compareProofs_c (p q : P4) (w : World) : Calls Tryz.prog 116 #[proofV p, proofV q] w fun e w' => e = .returned (.int .i64 (cmpP p q)) ∧ ∃ k os, w' = Sort.grow (w.drewN k) os := by
  obtain ⟨W, hW⟩ : ∃ W, (w.alloc (.cells #[.int .i64 p.d, .int .i64 p.b, .int .i64 p.l, .int .i64 p.c] 45)).alloc (.cells #[.int .i64 q.d, .int .i64 q.b, .int .i64 q.l, .int .i64 q.c] 45) = W := ⟨_, rfl⟩
  have hB0 : Below w.heap.size w W := by rw [← hW]; exact Below.alloc1 (Below.alloc1 (Below.refl _ _) _ (Nat.le_refl _)) _ (Nat.le_refl _)
  have hd0 : W.drawn = w.drawn := by rw [← hW]; rfl
  have hP : RowIs W w.heap.size #[.int .i64 p.d, .int .i64 p.b, .int .i64 p.l, .int .i64 p.c] 45 := by rw [← hW]; exact RowIs.alloc (heap_new_at _ _ _ rfl) _
  have hQ : RowIs W (w.heap.size + 1) #[.int .i64 q.d, .int .i64 q.b, .int .i64 q.l, .int .i64 q.c] 45 := by rw [← hW]; exact heap_new_at _ _ _ (by simp)
  obtain ⟨d0, d1, d2, d3, dz⟩ := prow hP
  obtain ⟨e0, e1, e2, e3, ez⟩ := prow hQ
  clear hP hQ
  go_enter Tryz.func116, Tryz.ntmps116
  go_wp2_with fail
  refine wp_region_draws_tail 20 (by kernel_rfl) (by kernel_rfl) ?_
  simp only [List.take_succ_cons, List.take_zero, List.drop_succ_cons, List.drop_zero]
  repeat (go_big_quiet_step ((refine calls_draws_same (compare_c _ _ _))))
  refine wpQuiet_nil ?_
  intro x
  clear d0 d1 d2 d3 dz e0 e1 e2 e3 ez hW
  obtain ⟨V, hV⟩ : ∃ V, W.drewN x = V := ⟨_, rfl⟩
  have hBV : Below w.heap.size w V := by rw [← hV]; exact below_drewN hB0 x
  have hdV : w.drawn ≤ V.drawn := by rw [← hV, ← hd0]; exact Nat.le_add_right _ _
  rw [hV]
  clear hV hB0 hd0
  go_wp2_with fail
  refine (or_c _ 4 4 (fun i => [cmpI p.d q.d, cmpI p.b q.b, cmpI p.l q.l, cmpI p.c q.c].getD i 0) _ (ints_new V _ (0, 0) [cmpI p.d q.d, cmpI p.b q.b, cmpI p.l q.l, cmpI p.c q.c]) (by decide)).mono ?_
  rintro e w' ⟨rfl, rfl⟩
  go_wp2
  go_ret
  exact ⟨rfl, grow_of (Below.alloc1 hBV _ (Nat.le_refl _)) hdV⟩

theorem cmpI_lt (x y : Int) : cmpI x y < 0 ↔ x < y := by
  unfold cmpI
  split
  · simp [*]
  · split
    · simp; omega
    · simp; omega

theorem cmpI_zero (x y : Int) : cmpI x y = 0 ↔ x = y := by
  unfold cmpI
  split
  · simp; omega
  · split
    · simp; omega
    · simp; omega

theorem cmpP_lt (p q : P4) : cmpP p q < 0 ↔ (p.d < q.d ∨ p.d = q.d ∧ (p.b < q.b ∨ p.b = q.b ∧ (p.l < q.l ∨ p.l = q.l ∧ p.c < q.c))) := by
  have e : cmpP p q = if cmpI p.d q.d = 0 then (if cmpI p.b q.b = 0 then (if cmpI p.l q.l = 0 then (if cmpI p.c q.c = 0 then 0 else cmpI p.c q.c) else cmpI p.l q.l) else cmpI p.b q.b) else cmpI p.d q.d := rfl
  rw [e]
  have a1 := cmpI_lt p.d q.d
  have a2 := cmpI_lt p.b q.b
  have a3 := cmpI_lt p.l q.l
  have a4 := cmpI_lt p.c q.c
  have b1 := cmpI_zero p.d q.d
  have b2 := cmpI_zero p.b q.b
  have b3 := cmpI_zero p.l q.l
  have b4 := cmpI_zero p.c q.c
  split
  · rename_i h
    have := b1.1 h
    split
    · rename_i h
      have := b2.1 h
      split
      · rename_i h
        have := b3.1 h
        split
        · rename_i h
          have := b4.1 h
          omega
        · rw [a4]; omega
      · rename_i h
        have : p.l ≠ q.l := fun e => h (b3.2 e)
        rw [a3]; omega
    · rename_i h
      have : p.b ≠ q.b := fun e => h (b2.2 e)
      rw [a2]; omega
  · rename_i h
    have : p.d ≠ q.d := fun e => h (b1.2 e)
    rw [a1]; omega

theorem cmpP_swo : Sort.SWO (ltOf cmpP) where
  irrefl x := by
    simp only [ltOf, decide_eq_false_iff_not, cmpP_lt]
    omega
  trans x y z h1 h2 := by
    simp only [ltOf, decide_eq_true_eq, cmpP_lt] at *
    omega
  ntrans x y z h1 h2 := by
    simp only [ltOf, decide_eq_false_iff_not, cmpP_lt] at *
    omega

end Go.Proofs.YtfjepnpnphoobaaGreat

namespace Go.Proofs.YtfjepnpnphoobaaGreat
open Go Go.Shelf

def sortRen : Ren := ⟨fun | 6 => 121 | 15 => 128 | 14 => 127 | 28 => 138 | 29 => 139 | 20 => 130 | 21 => 131 | 22 => 132 | 23 => 133 | 24 => 134 | 25 => 135 | 26 => 136 | 27 => 137 | 46 => 140 | 47 => 141 | 48 => 142 | 49 => 143 | 50 => 144 | 57 => 145 | n => n, fun | 22 => 153 | 24 => 45 | 25 => 158 | 3 => 3 | 39 => 170 | 0 => 0 | 53 => 181 | 55 => 183 | 4 => 4 | 46 => 174 | 45 => 173 | 50 => 178 | 5 => 5 | 9 => 9 | 66 => 184 | 70 => 188 | 76 => 190 | 77 => 191 | n => n, fun n => n⟩

theorem sortLays : SlLaysF0.n6 Tryz.prog sortRen := {
  mixed := (by kernel_rfl),
  f6 := ⟨Tryz.f121.name, by decide, Tryz.func121.trans (congrArg some (by kernel_rfl))⟩,
  f14 := ⟨Tryz.f127.name, by decide, Tryz.func127.trans (congrArg some (by kernel_rfl))⟩,
  f15 := Tryz.func128.trans (congrArg some (by kernel_rfl)),
  f20 := ⟨Tryz.f130.name, by decide, Tryz.func130.trans (congrArg some (by kernel_rfl))⟩,
  f21 := ⟨Tryz.f131.name, by decide, Tryz.func131.trans (congrArg some (by kernel_rfl))⟩,
  f22 := ⟨Tryz.f132.name, by decide, Tryz.func132.trans (congrArg some (by kernel_rfl))⟩,
  f23 := ⟨Tryz.f133.name, by decide, Tryz.func133.trans (congrArg some (by kernel_rfl))⟩,
  f24 := ⟨Tryz.f134.name, by decide, Tryz.func134.trans (congrArg some (by kernel_rfl))⟩,
  f25 := ⟨Tryz.f135.name, by decide, Tryz.func135.trans (congrArg some (by kernel_rfl))⟩,
  f26 := ⟨Tryz.f136.name, by decide, Tryz.func136.trans (congrArg some (by kernel_rfl))⟩,
  f27 := ⟨Tryz.f137.name, by decide, Tryz.func137.trans (congrArg some (by kernel_rfl))⟩,
  f28 := Tryz.func138.trans (congrArg some (by kernel_rfl)),
  f29 := Tryz.func139.trans (congrArg some (by kernel_rfl)),
  f46 := ⟨Tryz.f140.name, by decide, Tryz.func140.trans (congrArg some (by kernel_rfl))⟩,
  f47 := Tryz.func141.trans (congrArg some (by kernel_rfl)),
  f48 := Tryz.func142.trans (congrArg some (by kernel_rfl)),
  f49 := ⟨Tryz.f143.name, by decide, Tryz.func143.trans (congrArg some (by kernel_rfl))⟩,
  f50 := ⟨Tryz.f144.name, by decide, Tryz.func144.trans (congrArg some (by kernel_rfl))⟩,
  f57 := ⟨Tryz.f145.name, by decide, Tryz.func145.trans (congrArg some (by kernel_rfl))⟩,
  t0 := Tryz.underlying0,
  a0 := Tryz.isAgg0,
  z0 := Tryz.sizeOf0,
  v0 := Tryz.zeroValue0,
  t3 := Tryz.underlying3,
  a3 := Tryz.isAgg3,
  z3 := Tryz.sizeOf3,
  v3 := Tryz.zeroValue3,
  t4 := Tryz.underlying4,
  a4 := Tryz.isAgg4,
  z4 := Tryz.sizeOf4,
  v4 := Tryz.zeroValue4,
  t5 := Tryz.underlying5,
  a5 := Tryz.isAgg5,
  z5 := Tryz.sizeOf5,
  v5 := Tryz.zeroValue5,
  t9 := Tryz.underlying9,
  a9 := Tryz.isAgg9,
  z9 := Tryz.sizeOf9,
  v9 := Tryz.zeroValue9,
  t22 := Tryz.underlying153,
  a22 := Tryz.isAgg153,
  z22 := Tryz.sizeOf153,
  v22 := Tryz.zeroValue153,
  t25 := Tryz.underlying158,
  a25 := Tryz.isAgg158,
  z25 := Tryz.sizeOf158,
  v25 := Tryz.zeroValue158,
  t39 := Tryz.underlying170,
  a39 := Tryz.isAgg170,
  z39 := Tryz.sizeOf170,
  v39 := Tryz.zeroValue170,
  t45 := Tryz.underlying173,
  a45 := Tryz.isAgg173,
  z45 := Tryz.sizeOf173,
  v45 := Tryz.zeroValue173,
  t46 := Tryz.underlying174,
  a46 := Tryz.isAgg174,
  z46 := Tryz.sizeOf174,
  v46 := Tryz.zeroValue174,
  t50 := Tryz.underlying178,
  a50 := Tryz.isAgg178,
  z50 := Tryz.sizeOf178,
  v50 := Tryz.zeroValue178,
  t53 := Tryz.underlying181,
  a53 := Tryz.isAgg181,
  z53 := Tryz.sizeOf181,
  v53 := Tryz.zeroValue181,
  t55 := Tryz.underlying183,
  a55 := Tryz.isAgg183,
  z55 := Tryz.sizeOf183,
  v55 := Tryz.zeroValue183,
  t66 := Tryz.underlying184,
  a66 := Tryz.isAgg184,
  z66 := Tryz.sizeOf184,
  v66 := Tryz.zeroValue184,
  t70 := Tryz.underlying188,
  a70 := Tryz.isAgg188,
  z70 := Tryz.sizeOf188,
  v70 := Tryz.zeroValue188,
  t76 := Tryz.underlying190,
  a76 := Tryz.isAgg190,
  z76 := Tryz.sizeOf190,
  v76 := Tryz.zeroValue190,
  t77 := Tryz.underlying191,
  a77 := Tryz.isAgg191,
  z77 := Tryz.sizeOf191,
  v77 := Tryz.zeroValue191 }

end Go.Proofs.YtfjepnpnphoobaaGreat

namespace Go.Proofs.YtfjepnpnphoobaaGreat
open Go Go.RowKit

/-- How the body of a round is left. -/
def goesOn {α : Type} (I : List α → World → Prop) (xs : List α) (A : World) : Exit → Act → World → Prop
  | .normal, _, B => KeepsOthers A B ∧ I xs B
  | _, _, _ => False

theorem wpIn_rangeG {α : Type} {n : Nat} {P : Program} {g : Operand} {ps : Array Tmp} {assign body : Code} {Q : Exit → Act → World → Prop} {a : Act} {w : World} {gf : Nat} {lb : Array Value} {enc : α → Value} {S : List α → Prop} {N : Nat}
    (hg : a.eval g = .func (.func gf) #[] lb) (eg : ∀ args w, (callFunc gf args).run P w = .ok (.enter gf args) w)
    (hseq : SeqGives Fence.wide 1 P gf lb enc S N w) (hps : ps.size = 1)
    (I : List α → World → Prop) (hI : OwnFrom w.heap.size I) (h0 : I [] w)
    (Ax : α → Act → World → Prop) (hAx : ∀ x a' A o, w.heap.size + 2 ≤ A.heap.size → Ax x a' A → Ax x a' (A.putObj (w.heap.size + 1) o))
    (hassign : ∀ (l : Nat) (x : α) (A : World) (T : Act → World → Prop), w.heap.size + 2 ≤ A.heap.size → (∀ a' A', A.grownBy A' none → Ax x a' A' → T a' A') →
      assign.wpIn (Fence.wide.inRound l) n P (Exit.then T (fun _ _ _ => False)) { tmps := (ps.zip #[enc x]).foldl (fun t (p, v) => t.setIfInBounds p v) a.tmps, defers := [] } A)
    (hbody : ∀ (l : Nat) (pre : List α) (x : α) (a' : Act) (A : World), w.heap.size + 2 ≤ A.heap.size → I pre A → Ax x a' A → pre.length < N → body.wpIn (Fence.wide.inRound l) n P (goesOn I (pre ++ [x]) A) a' A)
    (hdone : ∀ (L : List α) (B : World), w.heap.size + 2 ≤ B.heap.size → S L → I L B → B.heap[w.heap.size]? = some (.deferred (some [])) → Q .normal { a with defers := { target := .collected w.heap.size, args := #[] } :: a.defers } B) :
    (Code.rangeFunc g ps assign body).wpIn Fence.wide n P Q a w := by
  refine wpIn_rangeFunc fun fn _ => ?_
  obtain ⟨b, hb⟩ : ∃ b, w.heap.size = b := ⟨_, rfl⟩
  obtain ⟨record, hrec⟩ : ∃ record : LoopState → Option Code → Loop, record = fun st pe => { state := st, pending := pe, fn, tmps := a.tmps, params := ps, assign, body, defers := b } := ⟨_, rfl⟩
  obtain ⟨W, hW⟩ : ∃ W, (w.alloc (.deferred (some []))).alloc (.loop (record .ready none)) = W := ⟨_, rfl⟩
  have hWl : W.heap[b + 1]? = some (.loop (record .ready none)) := by
    rw [← hW, ← hb]
    have := World.alloc_heap_new (w.alloc (.deferred (some []))) (.loop (record .ready none))
    rwa [World.size_alloc] at this
  have hWd : W.heap[b]? = some (.deferred (some [])) := by
    rw [← hW, ← hb]
    exact (Below.heap_alloc _ _ _ (by simp)).trans (World.alloc_heap_new w _)
  have hWz : W.heap.size = b + 2 := by rw [← hW]; simp [hb]
  have hWb : Below w.heap.size w W := by
    rw [← hW]
    exact ((Below.refl _ w).alloc (Nat.le_refl _) _).alloc (by simp) _
  have hWI : I [] W := by rw [← hW]; exact hI.alloc _ (hI.alloc _ h0)
  rw [hb] at hI hAx hassign hbody hdone
  let J : List α → World → Prop := fun k A => I k A ∧ A.heap[b + 1]? = some (.loop (record .ready none)) ∧ A.heap[b]? = some (.deferred (some [])) ∧ b + 2 ≤ A.heap.size
  refine ⟨b + 1, [{ target := .collected b, args := #[] }], W, { target := .fn (.func gf) lb, args := #[.func (.yield (b + 1)) #[] #[]] }, W, gf, #[.func (.yield (b + 1)) #[] #[]] ++ lb, W, ?_, ?_, fun _ _ => trivial, ?_, fun h => by simp [Fence.wide] at h, ?_⟩
  · rw [← hW, hrec, ← hb]
    exact run_enterLoop_outer _ _ _ _ _
  · simp only [resolve, hg]
    simp [go_sem]
  · simp [invoke, go_sem, eg]
  refine callsIn_wide.2 ((callsIn_wide.1 (hseq (b + 1) J W hWb ?_ ?_ ⟨hWI, hWl, hWd, by omega⟩)).mono ?_)
  · rintro k A B row ⟨h1, h2, h3, h4⟩ hAB hr
    have hw : ∀ r, row = some r → ∃ o : Obj, A.heap[r]? = some o ∧ o.isWalk = true := fun r e => (hr r e).2
    exact ⟨hI k A B row h1 hAB (fun r e => by obtain ⟨q, o, ho, hw⟩ := hr r e; exact ⟨by omega, o, ho, Obj.not_cells_of_walk hw⟩), (grownBy_keeps hAB hw h2 rfl).trans h2, (grownBy_keeps hAB hw h3 rfl).trans h3, Nat.le_trans h4 hAB.size⟩
  · rintro pre x A ⟨h1, h2, h3, h4⟩ hlen
    have hy := run_yield (P := P) (args := #[enc x]) h2 (by rw [hrec]; simp [hps])
    rw [hrec] at hy
    refine ⟨fn, _, assign, body, hy, round_any (n := n) rfl (roundIn_of_wpIn trivial (hassign _ x A _ h4 ?_))⟩
    intro a' A' hAA hax
    have hno : ∀ r, (none : Option Nat) = some r → ∃ o : Obj, A.heap[r]? = some o ∧ o.isWalk = true := fun r e => by cases e
    have hz' := hAA.size
    have h2' : A'.heap[b + 1]? = some (.loop (record .ready none)) := (grownBy_keeps hAA hno h2 rfl).trans h2
    have h3' : A'.heap[b]? = some (.deferred (some [])) := (grownBy_keeps hAA hno h3 rfl).trans h3
    have h1' : I pre A' := hI pre A A' none h1 hAA (fun r e => by cases e)
    refine ⟨_, run_beginRound h2' (by rw [hrec]), ?_⟩
    obtain ⟨C, hC⟩ : ∃ C, A'.putObj (b + 1) (.loop { record .ready none with state := .busy }) = C := ⟨_, rfl⟩
    have hC2 : C.heap[b + 1]? = some (.loop { record .ready none with state := .busy }) := by rw [← hC]; exact World.putObj_heap_same (by omega)
    have hC3 : C.heap[b]? = some (.deferred (some [])) := by rw [← hC]; exact (World.putObj_heap_other (by omega)).trans h3'
    have hCz : C.heap.size = A'.heap.size := by rw [← hC]; simp
    have hCI : I pre C := by rw [← hC]; exact hI.putObj _ h1' (by omega) h2' rfl
    have hCx : Ax x a' C := by rw [← hC]; exact hAx x a' A' _ (by omega) hax
    have hAC : KeepsWalks A C := by
      rw [← hC]
      exact (KeepsWalks.of_grownBy hAA (fun j o e => by cases e)).trans (KeepsWalks.putObj _ h2' rfl)
    rw [hC]
    refine wpIn_mono (hbody _ pre x a' C (by omega) hCI hCx hlen) ?_
    intro e a3 B hp
    cases e with
    | normal =>
      obtain ⟨hs, hi⟩ := hp
      have g2 := hs.same _ _ hC2 rfl
      have g3 := hs.same _ _ hC3 rfl
      have hBz := hs.size
      have hr := run_endRound (P := P) none g2
      rw [hrec] at hr
      refine ⟨_, _, hr, rfl, ⟨hI.putObj _ hi (by omega) g2 rfl, ?_, (World.putObj_heap_other (by omega)).trans g3, by simp; omega⟩, (hAC.trans hs.walks).trans (KeepsWalks.putObj _ g2 rfl)⟩
      rw [World.putObj_heap_same (by omega), hrec]
      rfl
    | ret => exact hp.elim
    | exit id => exact hp.elim
    | goto t => exact hp.elim
    | panic ch => exact hp.elim
    | outgrown => exact hp.elim
  · rintro e B ⟨⟨v, rfl⟩, L, hS, h1, h2, h3, h4⟩
    refine ⟨none, _, (by have := run_endLoop (P := P) h2 (by rw [hrec]; simp); rw [hrec] at this; exact this), ?_⟩
    have := hdone L (B.putObj (b + 1) (.loop (record .exhausted none))) (by simp; omega) hS (hI.putObj _ h1 (by omega) h2 rfl) ((World.putObj_heap_other (by omega)).trans h3)
    rw [hrec] at this
    exact this

end Go.Proofs.YtfjepnpnphoobaaGreat

namespace Go.Proofs.YtfjepnpnphoobaaGreat
open Go Go.RowKit Go.Shelf
attribute [local go_sem] Oper.semAt_some

def prfCells (p : P4) : List Value := [.int .i64 p.d, .int .i64 p.b, .int .i64 p.l, .int .i64 p.c]

theorem infoPrf : (Tryz.prog.info? 45).map (fun i => (i.zero, i.size, i.bytes)) = some (some (.agg #[.int .i64 0, .int .i64 0, .int .i64 0, .int .i64 0]), 4, 32) := by kernel_rfl

theorem ownsRow_own {W W' : World} {row : Option Nat} {base : Nat} {e : TypeId} {size : Nat} {v : Value} {k : Nat} {xs : List Value} (h : W.ownsRow base e size v k xs) (hg : W.grownBy W' row)
    (hrow : ∀ r, row = some r → ∃ o : Obj, W.heap[r]? = some o ∧ o.isCells = false) : W'.ownsRow base e size v k xs := by
  refine h.kept hg ?_
  rcases h.2 with ⟨rfl, _⟩ | ⟨g, cap, cur, rfl, _, hgb, _⟩
  · exact .inl rfl
  · refine .inr fun e' => ?_
    obtain ⟨o, ho, hw⟩ := hrow g (by simpa [Value.ownBlock] using e'.symm)
    rw [hgb] at ho; cases ho; cases hw

theorem row_form {w : World} {base : Nat} {e : TypeId} {size n : Nat} {v : Value} {xs : List Value} (h : w.ownsRow base e size v (n + 1) xs) : ∃ g cap, v = .slice (some ⟨g, 0, none⟩) (n + 1) cap ∧ g < w.heap.size := by
  rcases h.2 with ⟨_, h0⟩ | ⟨g, cap, cur, hv, hb, hg, _⟩
  · omega
  · exact ⟨g, cap, hv, (Array.getElem?_eq_some_iff.1 hg).1⟩

theorem row_box {w : World} {base : Nat} {e t : TypeId} {size n b : Nat} {v : Value} {xs : List Value} {cs : Array Value} (h : w.ownsRow base e size v n xs) (hb : RowIs w b cs t) (hne : t ≠ e := by decide) : some b ≠ v.ownBlock := by
  intro e'
  rcases h.2 with ⟨rfl, _⟩ | ⟨g, cap, cur, rfl, _, hgb, _⟩
  · simp [Value.ownBlock] at e'
  · have : b = g := by simpa [Value.ownBlock] using e'
    subst this
    rw [hb] at hgb
    cases hgb
    exact hne rfl

theorem row_cells {w : World} {base : Nat} {e : TypeId} {size n : Nat} {v : Value} {xs : List Value} (h : w.ownsRow base e size v n xs) (j : Nat) (o : Obj) (hj : v.ownBlock = some j) (ho : w.heap[j]? = some o) : o.isCells = true := by
  rcases h.2 with ⟨rfl, _⟩ | ⟨g, cap, cur, rfl, _, hgb, _⟩
  · simp [Value.ownBlock] at hj
  · have : g = j := by simpa [Value.ownBlock] using hj
    subst this
    rw [hgb] at ho
    cases ho
    rfl

/-- What lies in the box of the slice that is being made. -/
def Making (w0 : World) (Bs : Nat) (pre : List P4) (A : World) : Prop :=
  (∃ v, RowIs A Bs #[v] 153 ∧ A.ownsRow w0.heap.size 45 4 v pre.length (pre.flatMap prfCells)) ∧ Below w0.heap.size w0 A

theorem making_own (w0 : World) (Bs B : Nat) (hB : w0.heap.size ≤ B) : OwnFrom B (Making w0 Bs) := by
  rintro s W W' row ⟨⟨v, hv, hr⟩, hb⟩ hg hrow
  have hrow' : ∀ r, row = some r → ∃ o : Obj, W.heap[r]? = some o ∧ o.isCells = false := fun r e => (hrow r e).2
  exact ⟨⟨v, (grownBy_keeps_cells hg hrow' hv rfl).trans hv, ownsRow_own hr hg hrow'⟩, hb.grown hg hb.size (fun k e => Nat.le_trans hB (hrow k e).1)⟩

set_option maxRecDepth 100000 in
set_option maxHeartbeats 4000000 in
theorem appendSeq_c (gf : Nat) (lb : Array Value) (S : List P4 → Prop) (N : Nat) (w : World) (hN : N ≤ 1048576) (eg : ∀ args w, (callFunc gf args).run Tryz.prog w = .ok (.enter gf args) w) (hseq : SeqGives Fence.wide 1 Tryz.prog gf lb proofV S N w) :
    Calls Tryz.prog 126 #[.slice none 0 0, .func (.func gf) #[] lb] w fun e w' => ∃ v ss, e = .returned v ∧ S ss ∧ w'.ownsRow w.heap.size 45 4 v ss.length (ss.flatMap prfCells) ∧ Below w.heap.size w w' := by
  obtain ⟨W0, hW0⟩ : ∃ W0, w.alloc (.cells #[.slice none 0 0] 153) = W0 := ⟨_, rfl⟩
  have hB0 : Below w.heap.size w W0 := by rw [← hW0]; exact Below.alloc1 (Below.refl _ _) _ (Nat.le_refl _)
  have hr0 : RowIs W0 w.heap.size #[.slice none 0 0] 153 := by rw [← hW0]; exact heap_new_at _ _ _ rfl
  have hz0 : W0.heap.size = w.heap.size + 1 := by rw [← hW0]; simp
  have hs0 := hseq.later hB0
  have hM0 : Making w w.heap.size [] W0 := ⟨⟨_, hr0, World.ownsRow_nil _ _ _ _⟩, hB0⟩
  have HM := Lib.hid hM0
  have HS := Lib.hid hs0
  obtain ⟨i0, hi, hi0, hi1, hi2⟩ := info_parts infoPrf
  clear hseq hr0 hs0 hM0 hB0
  refine (callsIn_wide (n := 1)).1 ?_
  refine callsIn_of_wp_marks Tryz.func126 rfl trivial ?_ rfl
  simp only [Tryz.ntmps126, List.size_toArray, List.length_cons, List.length_nil, Nat.reduceAdd, Nat.reduceSub, Array.replicate_succ, Array.replicate_zero, List.push_toArray, List.append_toArray, List.nil_append, List.cons_append]
  gi_wp2_with fail
  clear hW0
  refine wpIn_rangeG (gf := gf) (lb := lb) rfl eg HS.out rfl (Making w w.heap.size) (making_own _ _ _ (by omega)) HM.out
    (fun x a' A => ∃ Bx, W0.heap.size + 2 ≤ Bx ∧ RowIs A Bx #[.int .i64 x.d, .int .i64 x.b, .int .i64 x.l, .int .i64 x.c] 45 ∧
      a' = { tmps := #[.slice none 0 0, .func (.func gf) #[] lb, .pointer (some ⟨w.heap.size, 0, none⟩), undef, .slice none 0 0, .pointer (some ⟨Bx, 0, none⟩), .func (.func gf) #[] lb, proofV x, undef, undef, undef, undef, undef], defers := [] })
    (fun x a' A o hA h => by
      obtain ⟨Bx, h1, h2, h3⟩ := h
      exact ⟨Bx, h1, (World.putObj_heap_other (by omega)).trans h2, h3⟩)
    ?assign ?body ?done
  case assign =>
    intro lx x A T hA hT
    gi_wp2
    exact hT _ _ (World.grownBy_alloc A _ none) ⟨A.heap.size, hA, heap_new_at _ _ _ rfl, rfl⟩
  case body =>
    rintro lx pre x a' A hA ⟨⟨v, hv, hrow⟩, hB⟩ ⟨Bx, hBx, hx, rfl⟩ hlen
    have v0 : A.cell? ⟨w.heap.size, 0, none⟩ = some v := hv.cell 0
    have vz : w.heap.size < A.heap.size := (Array.getElem?_eq_some_iff.1 hv).1
    obtain ⟨d0, d1, d2, d3, dz⟩ := prow hx
    have Hv := Lib.hid hv
    have HB := Lib.hid hB
    clear hv hB hx HM HS
    gi_wp2_with (first
      | (gi_at_builtin; refine wpListIn_append_own _ rfl _ _ 153 rfl w.heap.size 45 i0 (.agg #[.int .i64 0, .int .i64 0, .int .i64 0, .int .i64 0]) 4 32 Tryz.underlying153 hi hi0 hi1 hi2 rfl (by decide) _ _ _ rfl (hrow.alloc _) ⟨A.heap.size, 0, none⟩ 1 1 (prfCells x) rfl rfl (World.news_of_block (cs := #[.int .i64 x.d, .int .i64 x.b, .int .i64 x.l, .int .i64 x.c]) (t := 45) (fr := (0, 0)) (heap_new_at _ _ _ rfl)) (by simp [Value.oneCell', prfCells]) (by unfold maxLen; omega) (by omega) (by have := HB.out.size; simp; omega) ?_; intro v' w3 hown3 hg3 hnil3; obtain ⟨g', cap', rfl, hgl⟩ := row_form hown3; have hv3 : RowIs w3 w.heap.size #[v] 153 := (hg3.block _ (by simp; omega) (row_box hrow Hv.out)).trans (RowIs.alloc Hv.out _); have v3 : w3.cell? ⟨w.heap.size, 0, none⟩ = some v := RowIs.cell hv3 0; have z3 : w3.frozen? ⟨w.heap.size, 0, none⟩ = false := RowIs.frozen hv3 0; have y3 : w.heap.size < w3.heap.size := (Array.getElem?_eq_some_iff.1 hv3).1; have Hv3 := Lib.hid hv3; clear hv3)
      | fail)
    have hg4 : w3.grownBy (w3.setCell ⟨w.heap.size, 0, none⟩ (.slice (some ⟨g', 0, none⟩) (pre.length + 1) cap')) (some w.heap.size) := grownBy_setCell0_a _ _ _
    have hb3 : Below w.heap.size w w3 := (HB.out.alloc HB.out.size _).grown hg3 (by have := HB.out.size; simp; omega) (fun k e => (hrow.lt k e).1)
    refine ⟨?_, ⟨_, Hv3.out.set 0 _, ?_⟩, hb3.setCell (p := ⟨w.heap.size, 0, none⟩) (Nat.le_refl _) _⟩
    · refine ((KeepsOthers.alloc A _).trans (KeepsOthers.of_grownBy hg3 ?_)).trans (KeepsOthers.setCell _ _ _)
      intro j o hj ho
      exact row_cells (hrow.alloc _) j o hj ho
    · have := hown3.kept hg4 (ownsRow_ne_a hown3 Hv3.out (fun cur e => by cases e))
      simpa [List.flatMap_append] using this
  case done =>
    rintro L B hBz hS ⟨⟨v, hv, hrow⟩, hB⟩ hK
    have v0 : B.cell? ⟨w.heap.size, 0, none⟩ = some v := hv.cell 0
    have vz : w.heap.size < B.heap.size := (Array.getElem?_eq_some_iff.1 hv).1
    have Hv := Lib.hid hv
    have HK := Lib.hid hK
    clear hv hK
    dsimp only
    gi_wp2_with fail
    refine ⟨by simp, .inl ⟨_, _, rfl, run_takeDeferred HK.out, ?_⟩⟩
    exact ⟨_, results_tmp rfl _ _ _, v, L, rfl, hS, ownsRow_own hrow (grownBy_putObj' _ _ _) (fun r e => by cases e; exact ⟨_, HK.out, rfl⟩), hB.trans (below_put _ (by omega))⟩

end Go.Proofs.YtfjepnpnphoobaaGreat
