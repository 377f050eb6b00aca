/- Contracts of layer 2: the wants that clash with one, one after another, for bodies that write what is their own. -/
import Derived.RangeFuncBound
import Derived.Shelf.Abstract
import Derived.Shelf.RegionOpen
import Derived.OwnWalkIn
import Derived.TacticsInMore
import Derived.LoopNIn
import Derived.LoopIn
import Derived.Scope
import Derived.Test.YtbjgbgchagfokaaGreatProg
import Derived.Test.YtbjgbgchagfokaaGreatBasaa
import Derived.Test.YtbjgbgchagfokaaGreatBasab
import Derived.Test.YtbjgbgchagfokaaGreatBasar
import Derived.Test.YtbjgbgchagfokaaGreatBasad
import Derived.Test.YtbjgbgchagfokaaGreatBasah
namespace Go.Proofs.YtbjgbgchagfokaaGreat
open Go Go.RowKit Go.Shelf
attribute [local go_sem] Oper.semAt_some

/-- The blocks of K lie as they lay. -/
def Keeps (K : Nat → Prop) (A B : World) : Prop := A.heap.size ≤ B.heap.size ∧ ∀ k, k < A.heap.size → K k → B.heap[k]? = A.heap[k]?
theorem Keeps.refl (K : Nat → Prop) (A : World) : Keeps K A A := ⟨Nat.le_refl _, fun _ _ _ => rfl⟩
theorem Keeps.trans {K : Nat → Prop} {A B C : World} (h : Keeps K A B) (k : Keeps K B C) : Keeps K A C :=
  ⟨Nat.le_trans h.1 k.1, fun i hi hK => (k.2 i (Nat.lt_of_lt_of_le hi h.1) hK).trans (h.2 i hi hK)⟩
theorem Keeps.of_below {K : Nat → Prop} {A B : World} (h : Below A.heap.size A B) : Keeps K A B := ⟨h.size, fun i hi _ => h.block i hi⟩

set_option maxRecDepth 100000 in
set_option maxHeartbeats 4000000 in
theorem clashes_givesV (S M : Int) (a : Option Addr) (n cap : Nat) (f : Nat → W2) (l : Nat → Int) (want bd : Nat) (w : World) (hf : Wants w a n f) (hw : want < n) (hn : n ≤ 1048576)
    (hD : RowIs w bd (deskRow S M a n cap l) 47) (hI : RowIs w (bd + 1) #[.int .i64 want] 3) (hO : RowIs w (bd + 2) #[.int .i64 (f want).s, .int .i64 (f want).m] 77) :
    GivesV Tryz.prog 82 #[] #[.pointer (some ⟨bd, 0, none⟩), .pointer (some ⟨bd + 1, 0, none⟩), .pointer (some ⟨bd + 2, 0, none⟩)] (clashK a bd) (clashL f want n) (fun _ x vs => vs = #[.int .i64 (x : Int)]) w := by
  intro lr J Jx W hW hz hJ hJx hY h0
  obtain ⟨b, off, rfl, hbs, -, -⟩ := Wants.at hf want hw
  have hfW := wants_block hf hz (fun k o e => (hW k (.inr (.inr (.inr ⟨o, e⟩)))).2)
  have hDW : RowIs W bd _ _ := (hW bd (.inl rfl)).2.trans hD
  have hIW : RowIs W (bd + 1) _ _ := (hW (bd + 1) (.inr (.inl rfl))).2.trans hI
  have hOW : RowIs W (bd + 2) _ _ := (hW (bd + 2) (.inr (.inr (.inl rfl)))).2.trans hO
  obtain ⟨D, hDz⟩ : ∃ D, W.heap.size = D := ⟨_, rfl⟩
  rw [hDz] at hY
  have hdD : bd + 2 < D := by rw [← hDz]; exact hOW.lt
  have hbD : b < D := by omega
  have HJ := Lib.hid hJ
  have HJx := Lib.hid hJx
  have HY := Lib.hid hY
  have Hf := Lib.hid hfW
  have HD := Lib.hid hDW
  have HI := Lib.hid hIW
  have HO := Lib.hid hOW
  have HDz := Lib.hid hDz
  have d2 : W.cell? ⟨bd, 2, none⟩ = some (.slice (some ⟨b, off, none⟩) n cap) := hDW.cell 2
  clear hJ hJx hY hfW hDW hIW hOW hD hI hO hf hW hz hDz hbs
  refine (callsIn_wide (n := 1)).1 ?_
  show CallsIn Fence.wide 1 Tryz.prog 82 #[.func (.yield lr) #[] #[], .pointer (some ⟨bd, 0, none⟩), .pointer (some ⟨bd + 1, 0, none⟩), .pointer (some ⟨bd + 2, 0, none⟩)] W _
  refine callsIn_of_wp Tryz.func82 rfl trivial ?_ rfl
  simp only [Tryz.ntmps82, List.size_toArray, List.length_cons, List.length_nil, Nat.reduceAdd, Nat.reduceSub, Array.replicate_succ, Array.replicate_zero, List.push_toArray, List.append_toArray, List.nil_append, List.cons_append]
  gi_wp2
  gi_loopw [11] (fun s wr => ∃ k : Nat, k ≤ n ∧ s = .int .i64 k ∧ J (clashL f want k).length wr ∧ Keeps (clashK (some ⟨b, off, none⟩) bd) W wr) (fun s _ => n - (intOf s).toNat)
  case atStart => exact ⟨0, Nat.zero_le _, rfl, h0, Keeps.refl _ _⟩
  case round =>
    obtain ⟨k, hk, rfl, hj, hsp⟩ := hrel
    have hDr : D ≤ wr.heap.size := by have := hsp.1; have := HDz.out; omega
    have HJ0 := Lib.hid hj
    have Hsp := Lib.hid hsp
    by_cases hlt : k < n
    · have kw : ∀ {bb : Nat} {c : Array Value} {T : TypeId}, RowIs W bb c T → clashK (some ⟨b, off, none⟩) bd bb → RowIs wr bb c T := fun h1 h2 => (hsp.2 _ h1.lt h2).trans h1
      have hDr1 := kw HD.out (.inl rfl)
      have hIr := kw HI.out (.inr (.inl rfl))
      have hOr := kw HO.out (.inr (.inr (.inl rfl)))
      have hfr := wants_block Hf.out hsp.1 (fun k o e => hsp.2 k (by cases e; have := HDz.out; omega) (.inr (.inr (.inr ⟨o, e⟩))))
      obtain ⟨b', off', he, hbz, c0, c1⟩ := Wants.at hfr k hlt
      cases he
      obtain ⟨V, hV⟩ : ∃ V, wr.alloc (.cells #[.int .i64 (f k).s, .int .i64 (f k).m] 77) = V := ⟨_, rfl⟩
      have hBV : Below wr.heap.size wr V := by rw [← hV]; exact Below.alloc1 (Below.refl _ _) _ (Nat.le_refl _)
      have hN : RowIs V wr.heap.size #[.int .i64 (f k).s, .int .i64 (f k).m] 77 := by rw [← hV]; exact heap_new_at _ _ _ rfl
      have n0 : V.cell? ⟨wr.heap.size, 0, none⟩ = some (.int .i64 (f k).s) := hN.cell 0
      have n1 : V.cell? ⟨wr.heap.size, 1, none⟩ = some (.int .i64 (f k).m) := hN.cell 1
      have o0 : V.cell? ⟨bd + 2, 0, none⟩ = some (.int .i64 (f want).s) := (hOr.below hBV).cell 0
      have o1 : V.cell? ⟨bd + 2, 1, none⟩ = some (.int .i64 (f want).m) := (hOr.below hBV).cell 1
      have i0 : V.cell? ⟨bd + 1, 0, none⟩ = some (.int .i64 want) := (hIr.below hBV).cell 0
      have hzV : D ≤ V.heap.size := Nat.le_trans hDr hBV.size
      have hjV := HJ.out _ wr V hj hBV
      have hspV := hsp.trans (Keeps.of_below hBV)
      have HjV := Lib.hid hjV
      have HspV := Lib.hid hspV
      clear hj hsp kw hDr1 hIr hOr hfr hN hjV hspV h0
      cases hc : decide (k ≠ want) && clashB f k want with
      | false =>
        have HC := Lib.hid hc
        have hfin : (clashL f want (k + 1)).length = (clashL f want k).length := by rw [clashL_no hc]
        have HF := Lib.hid hfin
        clear hfin
        by_cases h1 : k = want
        · subst h1
          have t1 : ((k : Int) != (k : Int)) = false := by simp
          clear hc
          gi_wp2
          refine ⟨fun _ h => (by cases h), ?_⟩
          gi_wp2
          go_roundw
          case rel => exact ⟨k + 1, by omega, by go_num, by rw [HF.out]; exact HjV.out, HspV.out⟩
          case measure => simp [intOf]; omega
        · have t1 : ((k : Int) != (want : Int)) = true := by simp; omega
          simp only [ne_eq, h1, not_false_eq_true, decide_true, Bool.true_and, clashB, Bool.or_eq_false_iff, decide_eq_false_iff_not] at hc
          have t2 : ((f k).s == (f want).s) = false := by simpa using hc.1
          have t3 : ((f k).m == (f want).m) = false := by simpa using hc.2
          clear hc
          gi_wp2
          refine ⟨fun _ h => (by cases h), ?_⟩
          gi_wp2
          go_roundw
          case rel => exact ⟨k + 1, by omega, by go_num, by rw [HF.out]; exact HjV.out, HspV.out⟩
          case measure => simp [intOf]; omega
      | true =>
        have hL := clashL_len hc
        obtain ⟨hl, hg⟩ := clashL_at hlt hc
        have hyy := HY.out (clashL f want k).length hl V #[.int .i64 (((clashL f want n)[(clashL f want k).length]) : Nat)] hzV HjV.out rfl
        rw [hg] at hyy
        have HL := Lib.hid hL
        clear hL hl hg
        simp only [ne_eq, Bool.and_eq_true, decide_eq_true_eq] at hc
        have t1 : ((k : Int) != (want : Int)) = true := by simp; omega
        obtain ⟨fn, tmps, assign, body, hy, hR⟩ := hyy
        try dsimp only at hy
        by_cases h2 : (f k).s = (f want).s
        · have t2 : ((f k).s == (f want).s) = true := by simpa using h2
          clear h2
          have HR := Lib.hid hR
          clear hc hR
          gi_wp2
          refine HR.out.mono ?_
          rintro e W3 (⟨rfl, hJ3, hS3⟩ | ⟨rfl, hJx3, hS3⟩)
          · clear n0 n1 o0 o1 i0 c0 c1 hV
            gi_wp2
            go_roundw
            case rel => exact ⟨k + 1, by omega, by go_num, by rw [HL.out]; exact hJ3, HspV.out.trans hS3⟩
            case measure => simp [intOf]; omega
          · clear n0 n1 o0 o1 i0 c0 c1 hV
            gi_wp2
            refine bodyPost_ret (results_none rfl _ _ _) rfl ?_
            exact ⟨⟨_, rfl⟩, .inr ⟨_, hJx3⟩⟩
        · have t2 : ((f k).s == (f want).s) = false := by simpa using h2
          have t3 : ((f k).m == (f want).m) = true := by
            have := hc.2
            simp only [clashB, Bool.or_eq_true, decide_eq_true_eq, h2, false_or] at this
            simpa using this
          clear h2
          have HR := Lib.hid hR
          clear hc hR
          gi_wp2
          refine HR.out.mono ?_
          rintro e W3 (⟨rfl, hJ3, hS3⟩ | ⟨rfl, hJx3, hS3⟩)
          · clear n0 n1 o0 o1 i0 c0 c1 hV
            gi_wp2
            go_roundw
            case rel => exact ⟨k + 1, by omega, by go_num, by rw [HL.out]; exact hJ3, HspV.out.trans hS3⟩
            case measure => simp [intOf]; omega
          · clear n0 n1 o0 o1 i0 c0 c1 hV
            gi_wp2
            refine bodyPost_ret (results_none rfl _ _ _) rfl ?_
            exact ⟨⟨_, rfl⟩, .inr ⟨_, hJx3⟩⟩
    · obtain rfl : k = n := by omega
      gi_wp2
      go_end0
      exact ⟨⟨_, rfl⟩, .inl (by simpa using hj)⟩

end Go.Proofs.YtbjgbgchagfokaaGreat

namespace Go.Proofs.YtbjgbgchagfokaaGreat
open Go Go.RowKit

/-- Do two wants clash? (As a test.) -/
def meetB (f : Nat → W2) (i k : Nat) : Bool := decide ((f i).s = (f k).s) || decide ((f i).m = (f k).m)
theorem meetB_iff {f : Nat → W2} {i k : Nat} : meetB f i k = true ↔ Clashes f i k := by simp [meetB, Clashes]
def twoB (d : Nat → Nat) (a b i : Nat) : Bool := decide (d i = a) || decide (d i = b)
theorem twoB_iff {d : Nat → Nat} {a b i : Nat} : twoB d a b i = true ↔ Two d a b i := by simp [twoB, Two]
/-- One round: all that are there, and all that clash with one of these. -/
def chStep (f : Nat → W2) (n : Nat) (d : Nat → Nat) (a b : Nat) (C : List Nat) : List Nat := (List.range n).filter fun i => C.contains i || (twoB d a b i && C.any fun k => meetB f k i)
def chIter (f : Nat → W2) (n : Nat) (d : Nat → Nat) (a b w : Nat) : Nat → List Nat
  | 0 => [w]
  | r + 1 => chStep f n d a b (chIter f n d a b w r)
/-- The chain of a want by the days a and b. -/
def chainL (f : Nat → W2) (n : Nat) (d : Nat → Nat) (a b w : Nat) : List Nat := chIter f n d a b w n

theorem chStep_mem {f : Nat → W2} {n : Nat} {d : Nat → Nat} {a b : Nat} {C : List Nat} {i : Nat} : i ∈ chStep f n d a b C ↔ i < n ∧ (i ∈ C ∨ (Two d a b i ∧ ∃ k, k ∈ C ∧ Clashes f k i)) := by
  simp only [chStep, List.mem_filter, List.mem_range, Bool.or_eq_true, List.contains_iff_mem, Bool.and_eq_true, twoB_iff, List.any_eq_true, meetB_iff]
theorem chIter_round {f : Nat → W2} {n : Nat} {d : Nat → Nat} {a b w : Nat} (hw : w < n) (hP : Two d a b w) : ∀ r, Round f n (Two d a b) w r fun i => i ∈ chIter f n d a b w r
  | 0 => by
    have := round_start (f := f) (P := Two d a b) hw
    simpa [chIter] using this
  | r + 1 => by
    have ih := chIter_round (f := f) hw hP r
    refine ih.next (fun i hi => chStep_mem.2 ⟨((ih.only i hi).in hw hP).1, .inl hi⟩) (fun i hi => ?_) (fun i k hi hk hPk hc => chStep_mem.2 ⟨hk, .inr ⟨hPk, i, hi, hc⟩⟩)
    obtain ⟨h1, h2⟩ := chStep_mem.1 hi
    rcases h2 with h2 | ⟨h2, k, hk, hc⟩
    · exact ih.only i h2
    · exact .next k i (ih.only k hk) h1 h2 hc
theorem chainL_mem {f : Nat → W2} {n : Nat} {d : Nat → Nat} {a b w : Nat} (hw : w < n) (hP : Two d a b w) (i : Nat) : i ∈ chainL f n d a b w ↔ Chn f n (Two d a b) w i := (chIter_round hw hP n).all i
theorem range_up (n : Nat) : (List.range n).Pairwise (· < ·) := List.pairwise_lt_range
theorem chainL_up {f : Nat → W2} {n : Nat} {d : Nat → Nat} {a b w : Nat} : (chainL f n d a b w).Pairwise (· < ·) := by
  unfold chainL
  cases n with
  | zero => simp [chIter]
  | succ n => exact (range_up _).filter _
/-- Two lists in order with the same numbers are one. -/
theorem up_same {x y : List Nat} (hx : x.Pairwise (· < ·)) (hy : y.Pairwise (· < ·)) (h : ∀ i, i ∈ x ↔ i ∈ y) : x = y := by
  have nx : x.Nodup := hx.imp fun h => Nat.ne_of_lt h
  have ny : y.Nodup := hy.imp fun h => Nat.ne_of_lt h
  have hp : x.Perm y := (List.perm_ext_iff_of_nodup nx ny).2 h
  exact hp.eq_of_pairwise (le := (· < ·)) (fun a b _ _ h1 h2 => absurd h2 (Nat.not_lt_of_gt h1)) hx hy
/-- A list that is nowhere less than before, and has no number twice, is in order. -/
theorem up_of {x : List Nat} (h1 : x.Pairwise (· ≤ ·)) (h2 : x.Nodup) : x.Pairwise (· < ·) := by
  induction x with
  | nil => exact .nil
  | cons a x ih =>
    obtain ⟨h3, h4⟩ := List.pairwise_cons.1 h1
    obtain ⟨h5, h6⟩ := List.nodup_cons.1 h2
    refine List.pairwise_cons.2 ⟨fun b hb => Nat.lt_of_le_of_ne (h3 b hb) fun e => h5 (e ▸ hb), ih h4 h6⟩
theorem chainL_eq {f : Nat → W2} {n : Nat} {d : Nat → Nat} {a b w : Nat} {y : List Nat} (hw : w < n) (hP : Two d a b w) (hy : y.Pairwise (· ≤ ·)) (hd : y.Nodup) (h : ∀ i, i ∈ y ↔ Chn f n (Two d a b) w i) : y = chainL f n d a b w :=
  up_same (up_of hy hd) chainL_up fun i => (h i).trans (chainL_mem hw hP i).symm

/-- The days when a chain is swapped. -/
def swapN (f : Nat → W2) (n : Nat) (d : Nat → Nat) (a b w : Nat) (i : Nat) : Nat := if (chainL f n d a b w).contains i then (if d i = a then b else a) else d i
theorem swapN_in {f : Nat → W2} {n : Nat} {d : Nat → Nat} {a b w i : Nat} (h : i ∈ chainL f n d a b w) : swapN f n d a b w i = if d i = a then b else a := by rw [swapN, if_pos (by simpa using h)]
theorem swapN_out {f : Nat → W2} {n : Nat} {d : Nat → Nat} {a b w i : Nat} (h : ¬ i ∈ chainL f n d a b w) : swapN f n d a b w i = d i := by rw [swapN, if_neg (by simpa using h)]
open Classical in
theorem swapN_eq {f : Nat → W2} {n : Nat} {d : Nat → Nat} {a b w : Nat} (hw : w < n) (hP : Two d a b w) (i : Nat) : swapN f n d a b w i = swapD (Chn f n (Two d a b) w) a b d i := by
  unfold swapD
  by_cases h : i ∈ chainL f n d a b w
  · rw [swapN_in h, if_pos ((chainL_mem hw hP i).1 h)]
  · rw [swapN_out h, if_neg fun h1 => h ((chainL_mem hw hP i).2 h1)]
theorem swapN_right {f : Nat → W2} {n D : Nat} {d : Nat → Nat} {a b w : Nat} (hR : Right f n D d) (ha : a < D) (hb : b < D) (hab : a ≠ b) (hw : w < n) (hP : Two d a b w) : Right f n D (swapN f n d a b w) := by
  have := chain_right hR ha hb hab hw hP
  rwa [show swapN f n d a b w = swapD (Chn f n (Two d a b) w) a b d from funext fun i => swapN_eq hw hP i]

theorem x_chain1 : chainL threeW 5 (fun i => [0, 1, 1, 0, 2].getD i 0) 2 1 4 = [1, 4] := by kernel_rfl
end Go.Proofs.YtbjgbgchagfokaaGreat

namespace Go.Proofs.YtbjgbgchagfokaaGreat
open Go Go.RowKit

/-- One more, if it is of the two days and not there yet. -/
def addOne (d : Nat → Nat) (a b : Nat) (q : List Nat) (o : Nat) : List Nat := if q.contains o || !twoB d a b o then q else q ++ [o]
def addAll (d : Nat → Nat) (a b : Nat) (q cl : List Nat) : List Nat := cl.foldl (addOne d a b) q
theorem addAll_snoc (d : Nat → Nat) (a b : Nat) (q l : List Nat) (x : Nat) : addAll d a b q (l ++ [x]) = addOne d a b (addAll d a b q l) x := by simp [addAll]
theorem addOne_mem {d : Nat → Nat} {a b : Nat} {q : List Nat} {o i : Nat} : i ∈ addOne d a b q o ↔ i ∈ q ∨ (i = o ∧ Two d a b i) := by
  unfold addOne
  cases h1 : q.contains o
  · cases h2 : twoB d a b o
    · have : ¬ Two d a b o := fun h => by rw [twoB_iff.2 h] at h2; cases h2
      simp only [Bool.not_false, Bool.or_true, if_true]
      exact ⟨.inl, fun h => h.elim id fun ⟨e, h⟩ => absurd (e ▸ h) this⟩
    · have := twoB_iff.1 h2
      simp only [Bool.not_true, Bool.or_false]
      rw [if_neg (by simp), List.mem_append, List.mem_singleton]
      exact ⟨fun h => h.imp id fun e => ⟨e, e ▸ this⟩, fun h => h.imp id And.left⟩
  · have : o ∈ q := by simpa using h1
    simp only [Bool.true_or, if_true]
    exact ⟨.inl, fun h => h.elim id fun ⟨e, _⟩ => e ▸ this⟩
theorem addOne_pre (d : Nat → Nat) (a b : Nat) (q : List Nat) (o : Nat) : q <+: addOne d a b q o := by
  unfold addOne
  split
  · exact List.prefix_refl _
  · exact List.prefix_append _ _
theorem addOne_nodup {d : Nat → Nat} {a b : Nat} {q : List Nat} {o : Nat} (h : q.Nodup) : (addOne d a b q o).Nodup := by
  unfold addOne
  split
  · exact h
  · rename_i hc
    have hno : ¬ o ∈ q := fun hm => hc (by simp [hm])
    rw [List.nodup_append]
    exact ⟨h, by simp, fun x hx y hy e => hno (by rw [List.mem_singleton] at hy; rw [← hy, ← e]; exact hx)⟩
theorem addAll_mem {d : Nat → Nat} {a b i : Nat} : ∀ {cl q : List Nat}, i ∈ addAll d a b q cl ↔ i ∈ q ∨ (i ∈ cl ∧ Two d a b i)
  | [], q => by simp [addAll]
  | o :: cl, q => by
    show i ∈ addAll d a b (addOne d a b q o) cl ↔ _
    rw [addAll_mem, addOne_mem, List.mem_cons]
    constructor
    · rintro ((h | ⟨e, h⟩) | ⟨h, h2⟩)
      · exact .inl h
      · exact .inr ⟨.inl e, h⟩
      · exact .inr ⟨.inr h, h2⟩
    · rintro (h | ⟨e | h, h2⟩)
      · exact .inl (.inl h)
      · exact .inl (.inr ⟨e, h2⟩)
      · exact .inr ⟨h, h2⟩
theorem addAll_pre (d : Nat → Nat) (a b : Nat) : ∀ (cl q : List Nat), q <+: addAll d a b q cl
  | [], _ => List.prefix_refl _
  | o :: cl, q => (addOne_pre d a b q o).trans (addAll_pre d a b cl _)
theorem addAll_nodup {d : Nat → Nat} {a b : Nat} : ∀ (cl : List Nat) {q : List Nat}, q.Nodup → (addAll d a b q cl).Nodup
  | [], _, h => h
  | o :: cl, q, h => addAll_nodup cl (q := addOne d a b q o) (addOne_nodup h)
theorem queue_one (f : Nat → W2) (n : Nat) (P : Nat → Prop) (w : Nat) : Queue f n P w [w] 0 fun i => i ∈ [w] :=
  ⟨by simp, fun i hi => by rw [List.mem_singleton] at hi; rw [hi]; exact .self, fun _ => Iff.rfl, by simp, fun j hj => absurd hj (Nat.not_lt_zero _)⟩
theorem Queue.add {f : Nat → W2} {n : Nat} {d : Nat → Nat} {a b w at_ x : Nat} {q cl : List Nat} (h : Queue f n (Two d a b) w q at_ fun i => i ∈ q) (hx : q[at_]? = some x) (hcl : ∀ i, i ∈ cl ↔ i < n ∧ i ≠ x ∧ Clashes f i x) :
    Queue f n (Two d a b) w (addAll d a b q cl) (at_ + 1) fun i => i ∈ addAll d a b q cl := by
  have hxq : x ∈ q := List.mem_of_getElem? hx
  have hlt : at_ < q.length := (List.getElem?_eq_some_iff.1 hx).1
  refine ⟨addAll_mem.2 (.inl h.start), fun i hi => ?_, fun _ => Iff.rfl, addAll_nodup cl h.nodup, fun j hj i hji k hk hP hc => ?_⟩
  · rcases addAll_mem.1 hi with hi | ⟨hi, h2⟩
    · exact h.only i hi
    · obtain ⟨h3, _, h4⟩ := (hcl i).1 hi
      exact .next x i (h.only x hxq) h3 h2 h4.symm
  · obtain ⟨t, ht⟩ := addAll_pre d a b cl q
    rw [← ht, List.getElem?_append_left (by omega)] at hji
    by_cases e : j = at_
    · subst e
      have : i = x := Option.some.inj (hji.symm.trans hx)
      subst this
      by_cases e2 : k = i
      · rw [e2]; exact addAll_mem.2 (.inl hxq)
      · exact addAll_mem.2 (.inr ⟨(hcl k).2 ⟨hk, e2, hc.symm⟩, hP⟩)
    · exact addAll_mem.2 (.inl (h.reached j (by omega) i hji k hk hP hc))

/-- Numbers of places that are all different, told by the places. -/
theorem told (n : Nat) {α : Type} (p : Nat → α) (h : ∀ i k, i < n → k < n → p i = p k → i = k) : ∃ val : α → Int, ∀ i, i < n → val (p i) = (i : Int) := by
  refine ⟨fun q => open Classical in if hq : ∃ i, i < n ∧ p i = q then (hq.choose : Int) else 0, fun i hi => ?_⟩
  have hq : ∃ k, k < n ∧ p k = p i := ⟨i, hi, rfl⟩
  simp only [dif_pos hq]
  have := h _ _ hq.choose_spec.1 hi hq.choose_spec.2
  rw [this]

end Go.Proofs.YtbjgbgchagfokaaGreat
