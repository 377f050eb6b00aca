/- Contracts of layer 2: the wants that clash with one, one after another; do some clash with one. -/
import Derived.RangeFuncBound
import Derived.Shelf.Abstract
import Derived.Shelf.RegionOpen
import Derived.OwnWalkIn
import Derived.TacticsInMore
import Derived.LoopNIn
import Derived.LoopIn
import Derived.Scope
import Derived.Test.YtbjgbgchagfokaaGreatProg
import Derived.Test.YtbjgbgchagfokaaGreatBasaa
import Derived.Test.YtbjgbgchagfokaaGreatBasab
import Derived.Test.YtbjgbgchagfokaaGreatBasac
import Derived.RangeFuncNested
import Derived.RangeFuncCalls
import Derived.RangeFuncLeaves
import Derived.ArgAppend
import Derived.Laws.OwnMore
namespace Go.Proofs.YtbjgbgchagfokaaGreat
open Go Go.RowKit Go.Shelf
attribute [local go_sem] Oper.semAt_some

set_option maxHeartbeats 1000000 in
theorem clashes_c (S M : Int) (a : Option Addr) (n cap : Nat) (f : Nat → W2) (l : Nat → Int) (want : Nat) (w : World) (hf : Wants w a n f) (hw : want < n) (_ : n ≤ 1048576) :
    Calls Tryz.prog 64 #[deskV S M a n cap l, .int .i64 want] w fun e w' => e = .returned (.func (.func 82) #[] #[.pointer (some ⟨w.heap.size, 0, none⟩), .pointer (some ⟨w.heap.size + 1, 0, none⟩), .pointer (some ⟨w.heap.size + 2, 0, none⟩)]) ∧
      ((w.alloc (.cells (deskRow S M a n cap l) 47)).alloc (.cells #[.int .i64 want] 3)).alloc (.cells #[.int .i64 (f want).s, .int .i64 (f want).m] 77) = w' := by
  obtain ⟨b, off, rfl, hbs, c0, c1⟩ := Wants.at hf want hw
  obtain ⟨W, hW⟩ : ∃ W, (w.alloc (.cells (deskRow S M (some ⟨b, off, none⟩) n cap l) 47)).alloc (.cells #[.int .i64 want] 3) = W := ⟨_, rfl⟩
  have hB : Below w.heap.size w W := by rw [← hW]; exact Below.alloc1 (Below.alloc1 (Below.refl _ _) _ (Nat.le_refl _)) _ (Nat.le_refl _)
  have hD : RowIs W w.heap.size (deskRow S M (some ⟨b, off, none⟩) n cap l) 47 := by rw [← hW]; exact RowIs.alloc (heap_new_at _ _ _ rfl) _
  have hI : RowIs W (w.heap.size + 1) #[.int .i64 want] 3 := by rw [← hW]; exact heap_new_at _ _ _ (by simp)
  have hz : W.heap.size = w.heap.size + 2 := by rw [← hW]; simp
  have d2 : W.cell? ⟨w.heap.size, 2, none⟩ = some (.slice (some ⟨b, off, none⟩) n cap) := hD.cell 2
  have i0 : W.cell? ⟨w.heap.size + 1, 0, none⟩ = some (.int .i64 want) := hI.cell 0
  have e0 := (hB.cell (p := ⟨b, off + want * 2, none⟩) hbs).trans c0
  have e1 := (hB.cell (p := ⟨b, off + want * 2 + 1, none⟩) hbs).trans c1
  rw [hW]
  clear hD hI hB c0 c1
  simp only [deskRow] at hW
  go_enter Tryz.func64, Tryz.ntmps64
  go_wp2_with fail
  go_ret
  refine ⟨?_, rfl⟩
  rfl

/-- The first k wants that clash with one, as a list. -/
def clashL (f : Nat → W2) (want k : Nat) : List Nat := (List.range k).filter fun i => decide (i ≠ want) && clashB f i want
theorem clashL_no {f : Nat → W2} {want k : Nat} (h : (decide (k ≠ want) && clashB f k want) = false) : clashL f want (k + 1) = clashL f want k := by
  unfold clashL
  rw [List.range_succ, List.filter_append]
  simp only [List.filter_cons, h, List.filter_nil]
  simp
theorem clashL_yes {f : Nat → W2} {want k : Nat} (h : (decide (k ≠ want) && clashB f k want) = true) : clashL f want (k + 1) = clashL f want k ++ [k] := by
  unfold clashL
  rw [List.range_succ, List.filter_append]
  simp only [List.filter_cons, h, List.filter_nil]
  rfl
theorem clashL_pre {f : Nat → W2} {want : Nat} {j k : Nat} (h : j ≤ k) : clashL f want j <+: clashL f want k := by
  induction k with
  | zero => obtain rfl : j = 0 := by omega
            exact List.prefix_refl _
  | succ k ih =>
    by_cases e : j = k + 1
    · subst e; exact List.prefix_refl _
    · refine (ih (by omega)).trans ?_
      cases hb : decide (k ≠ want) && clashB f k want
      · rw [clashL_no hb]; exact List.prefix_refl _
      · rw [clashL_yes hb]; exact List.prefix_append _ _
theorem clashL_at {f : Nat → W2} {want k n : Nat} (hk : k < n) (h : (decide (k ≠ want) && clashB f k want) = true) : ∃ hl : (clashL f want k).length < (clashL f want n).length, (clashL f want n)[(clashL f want k).length] = k := by
  have hp := clashL_pre (f := f) (want := want) (show k + 1 ≤ n by omega)
  rw [clashL_yes h] at hp
  obtain ⟨t, ht⟩ := hp
  have h1 : (clashL f want k).length < (clashL f want n).length := by rw [← ht]; simp
  refine ⟨h1, ?_⟩
  have h2 : (clashL f want n)[(clashL f want k).length]? = some k := by rw [← ht]; simp
  rw [List.getElem?_eq_getElem h1] at h2
  exact Option.some.inj h2
theorem clashL_len {f : Nat → W2} {want k : Nat} (h : (decide (k ≠ want) && clashB f k want) = true) : (clashL f want (k + 1)).length = (clashL f want k).length + 1 := by rw [clashL_yes h]; simp
theorem clashL_mem {f : Nat → W2} {want n k : Nat} : k ∈ clashL f want n ↔ k < n ∧ k ≠ want ∧ clashB f k want = true := by simp [clashL]

/-- The blocks that such an iterator reads. -/
def clashK (a : Option Addr) (bd : Nat) (k : Nat) : Prop := k = bd ∨ k = bd + 1 ∨ k = bd + 2 ∨ ∃ off, a = some ⟨k, off, none⟩

theorem wants_block {w W : World} {a : Option Addr} {n : Nat} {f : Nat → W2} (h : Wants w a n f) (hz : w.heap.size ≤ W.heap.size) (hb : ∀ k off, a = some ⟨k, off, none⟩ → W.heap[k]? = w.heap[k]?) : Wants W a n f := by
  rcases h with h | ⟨b, off, rfl, hlt, hc⟩
  · exact .inl h
  · have e := hb b off rfl
    exact .inr ⟨b, off, rfl, Nat.lt_of_lt_of_le hlt hz, fun i hi => ⟨(World.cell?_of_block (a := ⟨b, _, none⟩) e).trans (hc i hi).1, (World.cell?_of_block (a := ⟨b, _, none⟩) e).trans (hc i hi).2⟩⟩

set_option maxRecDepth 100000 in
set_option maxHeartbeats 4000000 in
theorem clashes_gives (S M : Int) (a : Option Addr) (n cap : Nat) (f : Nat → W2) (l : Nat → Int) (want bd : Nat) (w : World) (hf : Wants w a n f) (hw : want < n) (hn : n ≤ 1048576)
    (hD : RowIs w bd (deskRow S M a n cap l) 47) (hI : RowIs w (bd + 1) #[.int .i64 want] 3) (hO : RowIs w (bd + 2) #[.int .i64 (f want).s, .int .i64 (f want).m] 77) :
    Gives Tryz.prog 82 #[] #[.pointer (some ⟨bd, 0, none⟩), .pointer (some ⟨bd + 1, 0, none⟩), .pointer (some ⟨bd + 2, 0, none⟩)] (clashK a bd) ((clashL f want n).map fun i : Nat => #[.int .i64 (i : Int)]) w := by
  intro lr J Jx W hW hz hJ hJx hY h0
  obtain ⟨b, off, rfl, hbs, -, -⟩ := Wants.at hf want hw
  have hfW := wants_block hf hz (fun k o e => (hW k (.inr (.inr (.inr ⟨o, e⟩)))).2)
  have hDW : RowIs W bd _ _ := (hW bd (.inl rfl)).2.trans hD
  have hIW : RowIs W (bd + 1) _ _ := (hW (bd + 1) (.inr (.inl rfl))).2.trans hI
  have hOW : RowIs W (bd + 2) _ _ := (hW (bd + 2) (.inr (.inr (.inl rfl)))).2.trans hO
  obtain ⟨D, hDz⟩ : ∃ D, W.heap.size = D := ⟨_, rfl⟩
  rw [hDz] at hJ hJx hY
  have hdD : bd + 2 < D := by rw [← hDz]; exact hOW.lt
  have hbD : b < D := by omega
  have HJ := Lib.hid hJ
  have HJx := Lib.hid hJx
  have HY := Lib.hid hY
  have Hf := Lib.hid hfW
  have HD := Lib.hid hDW
  have HI := Lib.hid hIW
  have HO := Lib.hid hOW
  have HDz := Lib.hid hDz
  have d2 : W.cell? ⟨bd, 2, none⟩ = some (.slice (some ⟨b, off, none⟩) n cap) := hDW.cell 2
  clear hJ hJx hY hfW hDW hIW hOW hD hI hO hf hW hz hDz hbs
  refine (callsIn_wide (n := 1)).1 ?_
  show CallsIn Fence.wide 1 Tryz.prog 82 #[.func (.yield lr) #[] #[], .pointer (some ⟨bd, 0, none⟩), .pointer (some ⟨bd + 1, 0, none⟩), .pointer (some ⟨bd + 2, 0, none⟩)] W _
  refine callsIn_of_wp Tryz.func82 rfl trivial ?_ rfl
  simp only [Tryz.ntmps82, List.size_toArray, List.length_cons, List.length_nil, Nat.reduceAdd, Nat.reduceSub, Array.replicate_succ, Array.replicate_zero, List.push_toArray, List.append_toArray, List.nil_append, List.cons_append]
  gi_wp2
  gi_loopw [11] (fun s wr => ∃ k : Nat, k ≤ n ∧ s = .int .i64 k ∧ J (clashL f want k).length wr ∧ Spares (clashK (some ⟨b, off, none⟩) bd) D W wr) (fun s _ => n - (intOf s).toNat)
  case atStart => exact ⟨0, Nat.zero_le _, rfl, h0, Spares.refl _ _ _⟩
  case round =>
    obtain ⟨k, hk, rfl, hj, hsp⟩ := hrel
    have hDr : D ≤ wr.heap.size := by have := hsp.size; have := HDz.out; omega
    have HJ0 := Lib.hid hj
    have Hsp := Lib.hid hsp
    by_cases hlt : k < n
    · have kw : ∀ {bb : Nat} {c : Array Value} {T : TypeId}, RowIs W bb c T → clashK (some ⟨b, off, none⟩) bd bb → RowIs wr bb c T := fun h1 h2 => (hsp.block _ h1.lt (.inl h2)).trans h1
      have hDr1 := kw HD.out (.inl rfl)
      have hIr := kw HI.out (.inr (.inl rfl))
      have hOr := kw HO.out (.inr (.inr (.inl rfl)))
      have hfr := wants_block Hf.out hsp.size (fun k o e => hsp.block k (by cases e; have := HDz.out; omega) (.inl (.inr (.inr (.inr ⟨o, e⟩)))))
      obtain ⟨b', off', he, hbz, c0, c1⟩ := Wants.at hfr k hlt
      cases he
      obtain ⟨V, hV⟩ : ∃ V, wr.alloc (.cells #[.int .i64 (f k).s, .int .i64 (f k).m] 77) = V := ⟨_, rfl⟩
      have hBV : Below wr.heap.size wr V := by rw [← hV]; exact Below.alloc1 (Below.refl _ _) _ (Nat.le_refl _)
      have hN : RowIs V wr.heap.size #[.int .i64 (f k).s, .int .i64 (f k).m] 77 := by rw [← hV]; exact heap_new_at _ _ _ rfl
      have n0 : V.cell? ⟨wr.heap.size, 0, none⟩ = some (.int .i64 (f k).s) := hN.cell 0
      have n1 : V.cell? ⟨wr.heap.size, 1, none⟩ = some (.int .i64 (f k).m) := hN.cell 1
      have o0 : V.cell? ⟨bd + 2, 0, none⟩ = some (.int .i64 (f want).s) := (hOr.below hBV).cell 0
      have o1 : V.cell? ⟨bd + 2, 1, none⟩ = some (.int .i64 (f want).m) := (hOr.below hBV).cell 1
      have i0 : V.cell? ⟨bd + 1, 0, none⟩ = some (.int .i64 want) := (hIr.below hBV).cell 0
      have hzV : D ≤ V.heap.size := Nat.le_trans hDr hBV.size
      have hjV := HJ.out _ wr V hj (hBV.mono hDr)
      have hspV := hsp.trans (Spares.of_below hBV)
      have HjV := Lib.hid hjV
      have HspV := Lib.hid hspV
      clear hj hsp kw hDr1 hIr hOr hfr hN hjV hspV h0
      cases hc : decide (k ≠ want) && clashB f k want with
      | false =>
        have HC := Lib.hid hc
        have hfin : (clashL f want (k + 1)).length = (clashL f want k).length := by rw [clashL_no hc]
        have HF := Lib.hid hfin
        clear hfin
        by_cases h1 : k = want
        · subst h1
          have t1 : ((k : Int) != (k : Int)) = false := by simp
          clear hc
          gi_wp2
          refine ⟨fun _ h => (by cases h), ?_⟩
          gi_wp2
          go_roundw
          case rel => exact ⟨k + 1, by omega, by go_num, by rw [HF.out]; exact HjV.out, HspV.out⟩
          case measure => simp [intOf]; omega
        · have t1 : ((k : Int) != (want : Int)) = true := by simp; omega
          simp only [ne_eq, h1, not_false_eq_true, decide_true, Bool.true_and, clashB, Bool.or_eq_false_iff, decide_eq_false_iff_not] at hc
          have t2 : ((f k).s == (f want).s) = false := by simpa using hc.1
          have t3 : ((f k).m == (f want).m) = false := by simpa using hc.2
          clear hc
          gi_wp2
          refine ⟨fun _ h => (by cases h), ?_⟩
          gi_wp2
          go_roundw
          case rel => exact ⟨k + 1, by omega, by go_num, by rw [HF.out]; exact HjV.out, HspV.out⟩
          case measure => simp [intOf]; omega
      | true =>
        have hL := clashL_len hc
        obtain ⟨hl, hg⟩ := clashL_at hlt hc
        have hyy := HY.out (clashL f want k).length (by simpa using hl) V hzV HjV.out
        rw [List.getElem_map, hg] at hyy
        have HL := Lib.hid hL
        clear hL hl hg
        simp only [ne_eq, Bool.and_eq_true, decide_eq_true_eq] at hc
        have t1 : ((k : Int) != (want : Int)) = true := by simp; omega
        obtain ⟨fn, tmps, assign, body, hy, hR⟩ := hyy
        try dsimp only at hy
        by_cases h2 : (f k).s = (f want).s
        · have t2 : ((f k).s == (f want).s) = true := by simpa using h2
          clear h2
          have HR := Lib.hid hR
          clear hc hR
          gi_wp2
          refine HR.out.mono ?_
          rintro e W3 (⟨rfl, hJ3, hS3⟩ | ⟨rfl, hJx3, hS3⟩)
          · clear n0 n1 o0 o1 i0 c0 c1 hV
            gi_wp2
            go_roundw
            case rel => exact ⟨k + 1, by omega, by go_num, by rw [HL.out]; exact hJ3, HspV.out.trans hS3⟩
            case measure => simp [intOf]; omega
          · clear n0 n1 o0 o1 i0 c0 c1 hV
            gi_wp2
            refine bodyPost_ret (results_none rfl _ _ _) rfl ?_
            exact ⟨⟨_, rfl⟩, .inr ⟨_, hJx3⟩⟩
        · have t2 : ((f k).s == (f want).s) = false := by simpa using h2
          have t3 : ((f k).m == (f want).m) = true := by
            have := hc.2
            simp only [clashB, Bool.or_eq_true, decide_eq_true_eq, h2, false_or] at this
            simpa using this
          clear h2
          have HR := Lib.hid hR
          clear hc hR
          gi_wp2
          refine HR.out.mono ?_
          rintro e W3 (⟨rfl, hJ3, hS3⟩ | ⟨rfl, hJx3, hS3⟩)
          · clear n0 n1 o0 o1 i0 c0 c1 hV
            gi_wp2
            go_roundw
            case rel => exact ⟨k + 1, by omega, by go_num, by rw [HL.out]; exact hJ3, HspV.out.trans hS3⟩
            case measure => simp [intOf]; omega
          · clear n0 n1 o0 o1 i0 c0 c1 hV
            gi_wp2
            refine bodyPost_ret (results_none rfl _ _ _) rfl ?_
            exact ⟨⟨_, rfl⟩, .inr ⟨_, hJx3⟩⟩
    · obtain rfl : k = n := by omega
      gi_wp2
      go_end0
      exact ⟨⟨_, rfl⟩, .inl (by simpa using hj)⟩

end Go.Proofs.YtbjgbgchagfokaaGreat

namespace Go.Proofs.YtbjgbgchagfokaaGreat
open Go Go.RowKit Go.Shelf
attribute [local go_sem] Oper.semAt_some

/-- Is none of the list among the wants that clash with one. -/
def apartB (f : Nat → W2) (n : Nat) (g : Nat → Int) (len want : Nat) : Bool := (clashL f want n).all fun i => !hasB g i len

set_option maxRecDepth 100000 in
set_option maxHeartbeats 4000000 in
theorem apart_c (S M : Int) (a : Option Addr) (n cap : Nat) (f : Nat → W2) (l : Nat → Int) (la : Option Addr) (len lcap : Nat) (g : Nat → Int) (want : Nat) (w : World) (hf : Wants w a n f) (hg : Ints w la len g) (hw : want < n) (hn : n ≤ 1048576) (hl : len ≤ 1048576) :
    Calls Tryz.prog 45 #[deskV S M a n cap l, .slice la len lcap, .int .i64 want] w fun e w' => e = .returned (.bool (apartB f n g len want)) ∧ Below w.heap.size w w' := by
  obtain ⟨Z, hZ⟩ : ∃ Z, ((w.alloc (.cells (deskRow S M a n cap l) 47)).alloc (.cells #[.slice la len lcap] 25)).alloc (.cells #[.bool false] 4) = Z := ⟨_, rfl⟩
  have hB : Below w.heap.size w Z := by rw [← hZ]; exact Below.alloc1 (Below.alloc1 (Below.alloc1 (Below.refl _ _) _ (Nat.le_refl _)) _ (Nat.le_refl _)) _ (Nat.le_refl _)
  have hD : RowIs Z w.heap.size (deskRow S M a n cap l) 47 := by rw [← hZ]; exact RowIs.alloc (RowIs.alloc (heap_new_at _ _ _ rfl) _) _
  have hL : RowIs Z (w.heap.size + 1) #[.slice la len lcap] 25 := by rw [← hZ]; exact RowIs.alloc (heap_new_at _ _ _ (by simp)) _
  have hF : RowIs Z (w.heap.size + 2) #[.bool false] 4 := by rw [← hZ]; exact heap_new_at _ _ _ (by simp)
  have hzZ : Z.heap.size = w.heap.size + 3 := by rw [← hZ]; simp
  obtain ⟨c0, c1, c2, c3, c4, c5, c6, c7, c8, c9, c10, c11, c12, c13, c14, cz⟩ := deskcells hD
  have hc := clashes_c S M a n cap f l want Z (hf.below hB) hw hn
  have HC := Lib.hid hc
  have HD := Lib.hid hD
  have HL := Lib.hid hL
  have HF := Lib.hid hF
  have HB := Lib.hid hB
  have HzZ := Lib.hid hzZ
  have Hg := Lib.hid hg
  have Hf := Lib.hid hf
  clear hc hD hL hF hB hzZ hg hf
  simp only [deskRow] at hZ
  refine (callsIn_wide (n := 1)).1 ?_
  refine callsIn_of_wp_marks Tryz.func45 rfl trivial ?_ rfl
  simp only [Tryz.ntmps45, List.size_toArray, List.length_cons, List.length_nil, Nat.reduceAdd, Nat.reduceSub, Array.replicate_succ, Array.replicate_zero, List.push_toArray, List.append_toArray, List.nil_append, List.cons_append]
  gi_wp2_with fail
  refine ⟨trivial, (callsIn_wide.2 HC.out).mono ?_⟩
  rintro e W ⟨rfl, hW⟩
  have hB2 : Below Z.heap.size Z W := by rw [← hW]; exact Below.alloc1 (Below.alloc1 (Below.alloc1 (Below.refl _ _) _ (Nat.le_refl _)) _ (Nat.le_refl _)) _ (Nat.le_refl _)
  have hD2 : RowIs W Z.heap.size (deskRow S M a n cap l) 47 := by rw [← hW]; exact RowIs.alloc (RowIs.alloc (heap_new_at _ _ _ rfl) _) _
  have hI2 : RowIs W (Z.heap.size + 1) #[.int .i64 want] 3 := by rw [← hW]; exact RowIs.alloc (heap_new_at _ _ _ (by simp)) _
  have hO2 : RowIs W (Z.heap.size + 2) #[.int .i64 (f want).s, .int .i64 (f want).m] 77 := by rw [← hW]; exact heap_new_at _ _ _ (by simp)
  have hzW : W.heap.size = w.heap.size + 6 := by rw [← hW]; simp [HzZ.out]
  rw [HzZ.out] at hD2 hI2 hO2 hB2 ⊢
  have hBW : Below w.heap.size w W := HB.out.trans (hB2.mono (by omega))
  have hG := clashes_gives S M a n cap f l want (w.heap.size + 3) W (Hf.out.below hBW) hw hn hD2 hI2 hO2
  have HG := Lib.hid hG
  have HDW := Lib.hid ((hB2.block _ (by omega)).trans HD.out)
  have HLW := Lib.hid ((hB2.block _ (by omega)).trans HL.out)
  have HFW := Lib.hid ((hB2.block _ (by omega)).trans HF.out)
  have HBW := Lib.hid hBW
  have HzW := Lib.hid hzW
  have hKk : ∀ k, clashK a (w.heap.size + 3) k → k < W.heap.size := fun k hk => by
    rcases hk with rfl | rfl | rfl | ⟨off, rfl⟩
    · omega
    · omega
    · omega
    · obtain ⟨b, off', he, hbs, -⟩ := Wants.at Hf.out want hw
      cases he; omega
  have hapt : apartB f n g len want = (clashL f want n).all fun i => !hasB g i len := rfl
  have HA := Lib.hid hapt
  clear hW hZ hG hD2 hI2 hO2 hB2 hBW hzW HC HD HL HF HB c0 c1 c2 c3 c4 c5 c6 c7 c8 c9 c10 c11 c12 c13 c14 cz hapt
  gi_wp2_with fail
  have hLk : ∀ k (hk : k < ((clashL f want n).map fun i : Nat => #[Value.int .i64 (i : Int)]).length), ((clashL f want n).map fun i : Nat => #[Value.int .i64 (i : Int)])[k] = #[Value.int .i64 ((clashL f want n).getD k 0 : Nat)] := fun k hk => by
    have hk' : k < (clashL f want n).length := by simpa using hk
    simp [List.getD, hk']
  refine wpIn_rangeL (gf := 82) (first := #[]) (lb := #[.pointer (some ⟨w.heap.size + 3, 0, none⟩), .pointer (some ⟨w.heap.size + 3 + 1, 0, none⟩), .pointer (some ⟨w.heap.size + 3 + 2, 0, none⟩)]) rfl (enters_of Tryz.func82 (by kernel_rfl) rfl) HG.out hKk (fun k hk => by rw [hLk k hk]; rfl)
    (fun k A => Below w.heap.size w A ∧ w.heap.size + 6 ≤ A.heap.size ∧ RowIs A (w.heap.size + 1) #[.slice la len lcap] 25 ∧ RowIs A (w.heap.size + 2) #[.bool false] 4 ∧ ((clashL f want n).take k).all (fun i => !hasB g i len) = true)
    (fun cd _ A => cd = .ret ∧ Below w.heap.size w A ∧ RowIs A (w.heap.size + 2) #[.bool false] 4 ∧ (clashL f want n).all (fun i => !hasB g i len) = false)
    (fun k A B hA hAB => ⟨hA.1.trans (hAB.mono (by have := HzW.out; omega)), Nat.le_trans hA.2.1 hAB.size, (hAB.block _ (by have := HzW.out; omega)).trans hA.2.2.1, (hAB.block _ (by have := HzW.out; omega)).trans hA.2.2.2.1, hA.2.2.2.2⟩)
    (fun cd k A B hA hAB => ⟨hA.1, hA.2.1.trans (hAB.mono (by have := HzW.out; omega)), (hAB.block _ (by have := HzW.out; omega)).trans hA.2.2.1, hA.2.2.2⟩)
    ⟨HBW.out, Nat.le_of_eq HzW.out.symm, HLW.out, HFW.out, by simp⟩
    (fun k a' A => a' = { tmps := #[deskV S M a n cap l, .slice la len lcap, .int .i64 want, .pointer (some ⟨w.heap.size, 0, none⟩), .pointer (some ⟨w.heap.size + 1, 0, none⟩), undef, .pointer (some ⟨w.heap.size + 1 + 1, 0, none⟩), .int .i64 ((clashL f want n).getD k 0 : Nat), deskV S M a n cap l, .int .i64 want, .func (.func 82) #[] #[.pointer (some ⟨w.heap.size + 3, 0, none⟩), .pointer (some ⟨w.heap.size + 3 + 1, 0, none⟩), .pointer (some ⟨w.heap.size + 3 + 2, 0, none⟩)], .int .i64 ((clashL f want n).getD k 0 : Nat), undef, undef, undef], defers := [] })
    (fun k a' A o hA => hA)
    ?assign ?body ?done ?stop
  case assign =>
    intro lx k hk A T hA hI hT
    rw [hLk k hk]
    obtain ⟨x, hx⟩ : ∃ x, (clashL f want n).getD k 0 = x := ⟨_, rfl⟩
    rw [hx] at hT ⊢
    clear hLk
    gi_wp2
    exact hT _ _ (Below.refl _ _) rfl
  case body =>
    rintro lx k hk a' A hA ⟨g1, g2, g3, g4, g5⟩ rfl
    have hk' : k < (clashL f want n).length := by simpa using hk
    have hxe : (clashL f want n).getD k 0 = (clashL f want n)[k] := by simp [List.getD, hk']
    have htk : (clashL f want n).take (k + 1) = (clashL f want n).take k ++ [(clashL f want n)[k]] := List.take_succ_eq_append_getElem hk'
    have hmem : (clashL f want n)[k] ∈ clashL f want n := List.getElem_mem hk'
    obtain ⟨x, hxx⟩ : ∃ x, (clashL f want n)[k] = x := ⟨_, rfl⟩
    rw [hxx] at hxe htk hmem
    rw [hxe]
    have l0 : A.cell? ⟨w.heap.size + 1, 0, none⟩ = some (.slice la len lcap) := g3.cell 0
    have f0 : A.cell? ⟨w.heap.size + 2, 0, none⟩ = some (.bool false) := g4.cell 0
    have f1 := g4.frozen 0
    have zl := g3.lt
    have hc := contains_c (x : Int) la len lcap g A (Cells.below Hg.out g1) hl
    have HC := Lib.hid hc
    have G1 := Lib.hid g1
    have G3 := Lib.hid g3
    have G4 := Lib.hid g4
    have G5 := Lib.hid g5
    have HT := Lib.hid htk
    have HM := Lib.hid hmem
    clear hc g1 g3 g4 g5 htk hxe hxx hLk hmem
    cases hb : hasB g (x : Int) len with
    | false =>
      rw [hb] at HC
      have Hb := Lib.hid hb
      clear hb
      gi_wp2_with fail
      refine ⟨trivial, ?_⟩
      refine (CallsIn.inRound lx (callsIn_wide.2 HC.out)).mono ?_
      rintro e A1 ⟨rfl, rfl⟩
      gi_wp2_with fail
      exact ⟨Spares.refl _ _ _, G1.out, g2, G3.out, G4.out, by rw [HT.out, List.all_append, G5.out]; simp [Hb.out]⟩
    | true =>
      rw [hb] at HC
      have Hb := Lib.hid hb
      clear hb
      gi_wp2_with fail
      refine ⟨trivial, ?_⟩
      refine (CallsIn.inRound lx (callsIn_wide.2 HC.out)).mono ?_
      rintro e A1 ⟨rfl, rfl⟩
      gi_wp2_with fail
      have hno : ∀ i, i ≠ w.heap.size + 2 → (A.setCell ⟨w.heap.size + 1 + 1, 0, none⟩ (.bool false)).heap[i]? = A.heap[i]? := fun i hi => Below.heap_setCell _ _ _ _ hi
      refine ⟨⟨by simp [World.setCell], fun i hi hk => hno i ?_⟩, rfl, G1.out.setCell (p := ⟨w.heap.size + 1 + 1, 0, none⟩) (by show w.heap.size ≤ w.heap.size + 1 + 1; omega) _, RowIs.set G4.out 0 (.bool false), ?_⟩
      · rcases hk with hk | hk
        · rcases hk with rfl | rfl | rfl | ⟨off, rfl⟩
          · omega
          · omega
          · omega
          · obtain ⟨b, off', he, hbs, -⟩ := Wants.at Hf.out want hw
            cases he; omega
        · have := HzW.out; omega
      · have h1 := HM.out
        cases h2 : (clashL f want n).all fun i => !hasB g (i : Int) len with
        | false => rfl
        | true =>
          have := (List.all_eq_true.1 h2) x h1
          rw [Hb.out] at this
          cases this
  case done =>
    rintro B hBz ⟨g1, g2, g3, g4, g5⟩ hK
    have eL : (clashL f want n).take ((clashL f want n).map fun i : Nat => #[Value.int .i64 (i : Int)]).length = clashL f want n := by simp
    rw [eL, ← HA.out] at g5
    have G5 := Lib.hid g5
    have f0 : B.cell? ⟨w.heap.size + 2, 0, none⟩ = some (.bool false) := g4.cell 0
    have f1 := g4.frozen 0
    have G1 := Lib.hid g1
    have G4 := Lib.hid g4
    have HK' := Lib.hid hK
    clear g1 g3 g4 g5 hK eL hLk
    dsimp only
    gi_wp2_with fail
    obtain ⟨U, hU⟩ : ∃ U, B.setCell ⟨w.heap.size + 1 + 1, 0, none⟩ (.bool true) = U := ⟨_, rfl⟩
    have hU2 : RowIs U (w.heap.size + 2) #[.bool true] 4 := by rw [← hU]; exact RowIs.set G4.out 0 (.bool true)
    have hUb : Below w.heap.size w U := by rw [← hU]; exact G1.out.setCell (p := ⟨w.heap.size + 1 + 1, 0, none⟩) (by show w.heap.size ≤ w.heap.size + 1 + 1; omega) _
    have hUk : U.heap[W.heap.size]? = some (.deferred (some [])) := by rw [← hU]; exact (Below.heap_setCell _ _ _ _ (by show W.heap.size ≠ w.heap.size + 1 + 1; have := HzW.out; omega)).trans HK'.out
    rw [hU]
    clear hU f0 f1
    refine ⟨by simp, .inl ⟨_, _, rfl, run_takeDeferred hUk, ?_⟩⟩
    have hr : RowIs (U.putObj W.heap.size (.deferred none)) (w.heap.size + 2) #[.bool true] 4 := (World.putObj_heap_other (by have := HzW.out; omega)).trans hU2
    have hb : Below w.heap.size w (U.putObj W.heap.size (.deferred none)) := hUb.trans (below_put _ (by have := HzW.out; omega))
    generalize U.putObj W.heap.size (.deferred none) = V at hr hb ⊢
    have q0 : V.cell? ⟨w.heap.size + 1 + 1, 0, none⟩ = some (.bool true) := hr.cell 0
    exact ⟨.bool true, by simp [results, Tryz.results45, go_sem, q0], by rw [G5.out], hb⟩
  case stop =>
    rintro cd k B hBz ⟨rfl, h1, h2, h3⟩ hK
    rw [← HA.out] at h3
    have H3 := Lib.hid h3
    have H2 := Lib.hid h2
    have f0 : B.cell? ⟨w.heap.size + 2, 0, none⟩ = some (.bool false) := h2.cell 0
    have H1 := Lib.hid h1
    have HK' := Lib.hid hK
    clear h1 hK hLk h3 h2
    dsimp only
    gi_wp2_with fail
    refine ⟨by simp, .inl ⟨_, _, rfl, run_takeDeferred HK'.out, ?_⟩⟩
    have hr : RowIs (B.putObj W.heap.size (.deferred none)) (w.heap.size + 2) #[.bool false] 4 := (World.putObj_heap_other (by have := HzW.out; omega)).trans H2.out
    have hb : Below w.heap.size w (B.putObj W.heap.size (.deferred none)) := H1.out.trans (below_put _ (by have := HzW.out; omega))
    generalize B.putObj W.heap.size (.deferred none) = V at hr hb ⊢
    have q0 : V.cell? ⟨w.heap.size + 1 + 1, 0, none⟩ = some (.bool false) := hr.cell 0
    exact ⟨.bool false, by simp [results, Tryz.results45, go_sem, q0], by rw [H3.out], hb⟩

end Go.Proofs.YtbjgbgchagfokaaGreat

namespace Go.Proofs.YtbjgbgchagfokaaGreat
open Go Go.RowKit

/-- What holds on when the world grows, and when the record of a loop changes. -/
structure Still (r : Nat) (p : World → Prop) : Prop where
  grow : ∀ A B, p A → Below A.heap.size A B → p B
  put : ∀ A o o', A.heap[r]? = some (.loop o) → p A → p (A.putObj r (.loop o'))

theorem Still.and {r : Nat} {p q : World → Prop} (h : Still r p) (k : Still r q) : Still r fun A => p A ∧ q A :=
  ⟨fun A B hA hB => ⟨h.grow A B hA.1 hB, k.grow A B hA.2 hB⟩, fun A o o' hr hA => ⟨h.put A o o' hr hA.1, k.put A o o' hr hA.2⟩⟩
theorem Still.pure {r : Nat} (p : Prop) : Still r fun _ => p := ⟨fun _ _ h _ => h, fun _ _ _ _ h => h⟩
theorem Still.ex {r : Nat} {β : Sort _} {p : β → World → Prop} (h : ∀ x, Still r (p x)) : Still r fun A => ∃ x, p x A :=
  ⟨fun A B ⟨x, hx⟩ hB => ⟨x, (h x).grow A B hx hB⟩, fun A o o' hr ⟨x, hx⟩ => ⟨x, (h x).put A o o' hr hx⟩⟩
theorem Still.all {r : Nat} {β : Sort _} {p : β → World → Prop} (h : ∀ x, Still r (p x)) : Still r fun A => ∀ x, p x A :=
  ⟨fun A B hx hB x => (h x).grow A B (hx x) hB, fun A o o' hr hx x => (h x).put A o o' hr (hx x)⟩
theorem Still.or {r : Nat} {p q : World → Prop} (h : Still r p) (k : Still r q) : Still r fun A => p A ∨ q A :=
  ⟨fun A B hA hB => hA.imp (h.grow A B · hB) (k.grow A B · hB), fun A o o' hr hA => hA.imp (h.put A o o' hr) (k.put A o o' hr)⟩
theorem Still.row {r : Nat} (b : Nat) (c : Array Value) (e : TypeId) (m : Nat × Nat) : Still r fun A => A.heap[b]? = some (.cells c e m) :=
  ⟨fun A B hA hB => (hB.block b (Array.getElem?_eq_some_iff.1 hA).1).trans hA,
   fun A o o' hr hA => (World.putObj_heap_other (fun e => by subst e; rw [hr] at hA; cases hA)).trans hA⟩
theorem Still.size {r : Nat} (b : Nat) : Still r fun A => b ≤ A.heap.size :=
  ⟨fun _ _ hA hB => Nat.le_trans hA hB.size, fun A o o' _ hA => by simpa using hA⟩
theorem Still.above {r : Nat} (b : Nat) : Still r fun A => b < A.heap.size :=
  ⟨fun _ _ hA hB => Nat.lt_of_lt_of_le hA hB.size, fun A o o' _ hA => by simpa using hA⟩
theorem Still.below {r : Nat} (B : Nat) (w : World) (hr : B ≤ r) : Still r fun A => Below B w A ∧ B ≤ A.heap.size :=
  ⟨fun A B' hA hB => ⟨hA.1.trans (hB.mono hA.2), Nat.le_trans hA.2 hB.size⟩, fun A o o' _ hA => ⟨hA.1.trans (below_put _ hr), by simpa using hA.2⟩⟩
theorem Still.cell {r : Nat} (b o : Nat) (v : Value) : Still r fun A => b < A.heap.size ∧ A.cell? ⟨b, o, none⟩ = some v :=
  ⟨fun A B hA hB => ⟨Nat.lt_of_lt_of_le hA.1 hB.size, (hB.cell (p := ⟨b, o, none⟩) hA.1).trans hA.2⟩, fun A x x' hr hA => by
    refine ⟨by simpa using hA.1, ?_⟩
    have hn : b ≠ r := fun e => by
      subst e
      have := hA.2
      simp [World.cell?, hr] at this
    have : (A.putObj r (.loop x')).heap[b]? = A.heap[b]? := World.putObj_heap_other hn
    exact (World.cell?_of_block (a := ⟨b, o, none⟩) this).trans hA.2⟩
theorem Still.cells {r : Nat} (a : Option Addr) (n : Nat) (f : Nat → Value) : Still r fun A => Cells A a n f :=
  ⟨fun A B hA hB => hA.below hB, fun A x x' hr hA => by
    rcases hA with h | ⟨b, off, rfl, hlt, hc⟩
    · exact .inl h
    · refine .inr ⟨b, off, rfl, by simpa using hlt, fun i hi => ?_⟩
      exact ((Still.cell (r := r) b (off + i) (f i)).put A x x' hr ⟨hlt, hc i hi⟩).2⟩
theorem Still.mono {r : Nat} {p q : World → Prop} (h : Still r p) (e : ∀ A, p A ↔ q A) : Still r q :=
  ⟨fun A B hA hB => (e B).1 (h.grow A B ((e A).2 hA) hB), fun A o o' hr hA => (e _).1 (h.put A o o' hr ((e A).2 hA))⟩

/-- An iterator that reads the blocks of K alone, only makes new blocks, and yields the list L. -/
def GivesA {α : Type} (P : Program) (gf : Nat) (first lb : Array Value) (K : Nat → Prop) (L : List α) (Enc : World → α → Array Value → Prop) (w : World) : Prop :=
  ∀ (l : Nat) (J Jx : Nat → World → Prop) (W : World),
    (∀ k, K k → k < w.heap.size ∧ W.heap[k]? = w.heap[k]?) → w.heap.size ≤ W.heap.size →
    (∀ k A B, J k A → Below A.heap.size A B → J k B) → (∀ k A B, Jx k A → Below A.heap.size A B → Jx k B) →
    (∀ k (h : k < L.length) A vs, W.heap.size ≤ A.heap.size → J k A → Enc A L[k] vs → YieldAt Fence.wide 0 P l vs A fun e B => (e = .returned (.bool true) ∧ J (k + 1) B ∧ Spares K W.heap.size A B) ∨ (e = .returned (.bool false) ∧ Jx (k + 1) B ∧ Spares K W.heap.size A B)) →
    J 0 W →
    Calls P gf (first ++ #[.func (.yield l) #[] #[]] ++ lb) W fun e B => (∃ v, e = .returned v) ∧ (J L.length B ∨ ∃ k, Jx k B)

theorem GivesA.later {α : Type} {P : Program} {gf : Nat} {first lb : Array Value} {K : Nat → Prop} {L : List α} {Enc : World → α → Array Value → Prop} {w w' : World} (h : GivesA P gf first lb K L Enc w) (hK : ∀ k, K k → k < w.heap.size)
    (hs : w.heap.size ≤ w'.heap.size) (hb : ∀ k, K k → w'.heap[k]? = w.heap[k]?) : GivesA P gf first lb K L Enc w' :=
  fun l J Jx W hW hz hJ hJx hY h0 => h l J Jx W (fun k hk => ⟨hK k hk, (hW k hk).2.trans (hb k hk)⟩) (Nat.le_trans hs hz) hJ hJx hY h0

/-- A loop over an iterator that makes what it yields, in a function that stands in no round. -/
theorem wpIn_rangeA {α : Type} {n : Nat} {P : Program} {g : Operand} {ps : Array Tmp} {assign body : Code} {Q : Exit → Act → World → Prop} {a : Act} {w : World} {gf : Nat} {first lb : Array Value} {K : Nat → Prop} {L : List α} {Enc : World → α → Array Value → Prop}
    (hg : a.eval g = .func (.func gf) first lb) (eg : ∀ args w, (callFunc gf args).run P w = .ok (.enter gf args) w)
    (hseq : GivesA P gf first lb K L Enc w) (hK : ∀ k, K k → k < w.heap.size) (hps : ∀ A x vs, Enc A x vs → vs.size = ps.size) (hE : ∀ x vs, Still (w.heap.size + 1) fun A => Enc A x vs)
    (I : Nat → World → Prop) (Ix : Code → Nat → World → Prop) (hI : ∀ k, Still (w.heap.size + 1) (I k)) (hIx : ∀ c k, Still (w.heap.size + 1) (Ix c k)) (h0 : I 0 w)
    (Ax : Nat → Array Value → Act → World → Prop) (hAx : ∀ k vs a', Still (w.heap.size + 1) (Ax k vs a'))
    (hassign : ∀ (l k : Nat) (hk : k < L.length) (A : World) (vs : Array Value) (T : Act → World → Prop), w.heap.size + 2 ≤ A.heap.size → I k A → Enc A L[k] vs → (∀ a' A', Below A.heap.size A A' → Ax k vs a' A' → T a' A') →
      assign.wpIn (Fence.wide.inRound l) n P (Exit.then T (fun _ _ _ => False)) { tmps := (ps.zip vs).foldl (fun t (p, v) => t.setIfInBounds p v) a.tmps, defers := [] } A)
    (hbody : ∀ (l k : Nat) (hk : k < L.length) (vs : Array Value) (a' : Act) (A : World), w.heap.size + 2 ≤ A.heap.size → I k A → Enc A L[k] vs → Ax k vs a' A → body.wpIn (Fence.wide.inRound l) n P (roundQ K w.heap.size I Ix k A) a' A)
    (hdone : ∀ B : World, w.heap.size + 2 ≤ B.heap.size → I L.length B → B.heap[w.heap.size]? = some (.deferred (some [])) → Q .normal { a with defers := { target := .collected w.heap.size, args := #[] } :: a.defers } B)
    (hstop : ∀ (c : Code) (k : Nat) (B : World), w.heap.size + 2 ≤ B.heap.size → Ix c k B → B.heap[w.heap.size]? = some (.deferred (some [])) → c.wpIn Fence.wide n P Q { a with defers := { target := .collected w.heap.size, args := #[] } :: a.defers } B) :
    (Code.rangeFunc g ps assign body).wpIn Fence.wide n P Q a w := by
  refine wpIn_rangeFunc fun fn _ => ?_
  obtain ⟨b, hb⟩ : ∃ b, w.heap.size = b := ⟨_, rfl⟩
  obtain ⟨record, hrec⟩ : ∃ record : LoopState → Option Code → Loop, record = fun st pe => { state := st, pending := pe, fn, tmps := a.tmps, params := ps, assign, body, defers := b } := ⟨_, rfl⟩
  obtain ⟨W, hW⟩ : ∃ W, (w.alloc (.deferred (some []))).alloc (.loop (record .ready none)) = W := ⟨_, rfl⟩
  have hWl : W.heap[b + 1]? = some (.loop (record .ready none)) := by
    rw [← hW, ← hb]
    have := World.alloc_heap_new (w.alloc (.deferred (some []))) (.loop (record .ready none))
    rwa [World.size_alloc] at this
  have hWd : W.heap[b]? = some (.deferred (some [])) := by
    rw [← hW, ← hb]
    exact (Below.heap_alloc _ _ _ (by simp)).trans (World.alloc_heap_new w _)
  have hWz : W.heap.size = b + 2 := by rw [← hW]; simp [hb]
  have hWb : Below b w W := by
    rw [← hW, ← hb]
    exact ((Below.refl _ w).alloc (Nat.le_refl _) _).alloc (by simp) _
  have hI0 : I 0 W := (hI 0).grow w W h0 (by rw [hb]; exact hWb)
  rw [hb] at hI hIx hAx hE hassign hbody hdone hstop hK
  -- what lies between two rounds
  let J : Nat → World → Prop := fun k A => I k A ∧ A.heap[b + 1]? = some (.loop (record .ready none)) ∧ A.heap[b]? = some (.deferred (some [])) ∧ b + 2 ≤ A.heap.size
  let Jx : Nat → World → Prop := fun k A => ∃ c, Ix c k A ∧ A.heap[b + 1]? = some (.loop (record .done (some c))) ∧ A.heap[b]? = some (.deferred (some [])) ∧ b + 2 ≤ A.heap.size
  refine ⟨b + 1, [{ target := .collected b, args := #[] }], W, { target := .fn (.func gf) lb, args := first ++ #[.func (.yield (b + 1)) #[] #[]] }, W, gf, first ++ #[.func (.yield (b + 1)) #[] #[]] ++ lb, W, ?_, ?_, fun _ _ => trivial, ?_, fun h => by simp [Fence.wide] at h, ?_⟩
  · rw [← hW, hrec, ← hb]
    exact run_enterLoop_outer _ _ _ _ _
  · simp only [resolve, hg]
    simp [go_sem]
  · simp [invoke, go_sem, eg]
  refine callsIn_wide.2 ((hseq (b + 1) J Jx W ?_ (by omega) ?_ ?_ ?_ ?_).mono ?_)
  · intro k hk
    have := hK k hk
    exact ⟨by omega, hWb.block k this⟩
  · rintro k A B ⟨h1, h2, h3, h4⟩ hAB
    exact ⟨(hI k).grow A B h1 hAB, (hAB.block _ (by omega)).trans h2, (hAB.block _ (by omega)).trans h3, Nat.le_trans h4 hAB.size⟩
  · rintro k A B ⟨c, h1, h2, h3, h4⟩ hAB
    exact ⟨c, (hIx c k).grow A B h1 hAB, (hAB.block _ (by omega)).trans h2, (hAB.block _ (by omega)).trans h3, Nat.le_trans h4 hAB.size⟩
  · rintro k hk A vs _ ⟨h1, h2, h3, h4⟩ hvs
    have hy := run_yield (P := P) (args := vs) h2 (by rw [hrec]; exact hps A _ vs hvs)
    rw [hrec] at hy
    refine ⟨fn, _, assign, body, hy, round_any (n := n) rfl (roundIn_of_wpIn trivial (hassign _ k hk A vs _ h4 h1 hvs ?_))⟩
    intro a' A' hAA hax
    have hz' := hAA.size
    have h2' : A'.heap[b + 1]? = some (.loop (record .ready none)) := (hAA.block _ (by omega)).trans h2
    have h3' : A'.heap[b]? = some (.deferred (some [])) := (hAA.block _ (by omega)).trans h3
    refine ⟨_, run_beginRound h2' (by rw [hrec]), ?_⟩
    obtain ⟨C, hC⟩ : ∃ C, A'.putObj (b + 1) (.loop { record .ready none with state := .busy }) = C := ⟨_, rfl⟩
    have hC2 : C.heap[b + 1]? = some (.loop { record .ready none with state := .busy }) := by rw [← hC]; exact World.putObj_heap_same (by omega)
    have hC3 : C.heap[b]? = some (.deferred (some [])) := by rw [← hC]; exact (World.putObj_heap_other (by omega)).trans h3'
    have hCz : C.heap.size = A'.heap.size := by rw [← hC]; simp
    have hCI : I k C := by
      rw [← hC]
      exact (hI k).put _ _ _ h2' ((hI k).grow _ _ h1 hAA)
    have hCE : Enc C L[k] vs := by
      rw [← hC]
      exact (hE _ vs).put _ _ _ h2' ((hE _ vs).grow _ _ hvs hAA)
    have hCx : Ax k vs a' C := by rw [← hC]; exact (hAx k vs a').put _ _ _ h2' hax
    have hKb : ¬ K (b + 1) := fun h => by have := hK _ h; omega
    have hAC : Spares K (b + 2) A C := by
      rw [← hC]
      exact (Spares.of_below hAA).trans (Spares.put _ hKb (by omega))
    rw [hC]
    refine wpIn_mono (hbody _ k hk vs a' C (by omega) hCI hCE hCx) ?_
    have fin : ∀ (jump : Option Code) (B : World), Spares K b C B →
        ∃ B', (Instr.endRound (b + 1) jump).run P B = .ok (.bool jump.isNone) B' ∧ B'.heap[b + 1]? = some (.loop (record (if jump.isNone then .ready else .done) jump)) ∧ B'.heap[b]? = some (.deferred (some [])) ∧
          b + 2 ≤ B'.heap.size ∧ (∃ o o', B.heap[b + 1]? = some (.loop o) ∧ B' = B.putObj (b + 1) (.loop o')) ∧ Spares K (b + 2) A B' := fun jump B hCB => by
      have hBz := hCB.size
      have g2 : B.heap[b + 1]? = some (.loop { record .ready none with state := .busy }) := (hCB.block _ (by omega) (.inr (by omega))).trans hC2
      have g3 : B.heap[b]? = some (.deferred (some [])) := (hCB.block _ (by omega) (.inr (by omega))).trans hC3
      have hr := run_endRound (P := P) jump g2
      rw [hrec] at hr
      refine ⟨_, hr, ?_, (World.putObj_heap_other (by omega)).trans g3, by simp; omega, ⟨_, _, g2, rfl⟩, ?_⟩
      · rw [World.putObj_heap_same (by omega), hrec]
      · exact hAC.trans ((hCB.mono (fun k h => .inl h) (by omega)).trans (Spares.put _ hKb (by omega)))
    intro e a3 B hp
    cases e with
    | normal =>
      obtain ⟨hs, hi⟩ := hp
      obtain ⟨B', hr, f1, f2, f3, ⟨o, o', f4, f6⟩, f5⟩ := fin none B hs
      exact ⟨_, _, hr, .inl ⟨rfl, ⟨by rw [f6]; exact (hI _).put _ _ _ f4 hi, f1, f2, f3⟩, by rw [hWz]; exact f5⟩⟩
    | ret =>
      obtain ⟨hs, hi⟩ := hp
      obtain ⟨B', hr, f1, f2, f3, ⟨o, o', f4, f6⟩, f5⟩ := fin (some .ret) B hs
      exact ⟨_, _, hr, .inr ⟨rfl, ⟨.ret, by rw [f6]; exact (hIx _ _).put _ _ _ f4 hi, f1, f2, f3⟩, by rw [hWz]; exact f5⟩⟩
    | exit id =>
      obtain ⟨hs, hi⟩ := hp
      obtain ⟨B', hr, f1, f2, f3, ⟨o, o', f4, f6⟩, f5⟩ := fin (some (.exit id)) B hs
      exact ⟨_, _, hr, .inr ⟨rfl, ⟨.exit id, by rw [f6]; exact (hIx _ _).put _ _ _ f4 hi, f1, f2, f3⟩, by rw [hWz]; exact f5⟩⟩
    | goto t =>
      obtain ⟨hs, hi⟩ := hp
      obtain ⟨B', hr, f1, f2, f3, ⟨o, o', f4, f6⟩, f5⟩ := fin (some (.goto t)) B hs
      exact ⟨_, _, hr, .inr ⟨rfl, ⟨.goto t, by rw [f6]; exact (hIx _ _).put _ _ _ f4 hi, f1, f2, f3⟩, by rw [hWz]; exact f5⟩⟩
    | panic ch => exact hp.elim
    | outgrown => exact hp.elim
  · exact ⟨hI0, hWl, hWd, by omega⟩
  · rintro e B ⟨⟨v, rfl⟩, (⟨h1, h2, h3, h4⟩ | ⟨k, c, h1, h2, h3, h4⟩)⟩
    · refine ⟨none, _, (by have := run_endLoop (P := P) h2 (by rw [hrec]; simp); rw [hrec] at this; exact this), ?_⟩
      have := hdone (B.putObj (b + 1) (.loop (record .exhausted none))) (by simp; omega) ((hI _).put _ _ _ h2 h1) ((World.putObj_heap_other (by omega)).trans h3)
      simpa [hrec] using this
    · refine ⟨some c, _, (by have := run_endLoop (P := P) h2 (by rw [hrec]; simp); rw [hrec] at this; exact this), ?_⟩
      have := hstop c k (B.putObj (b + 1) (.loop (record .exhausted (some c)))) (by simp; omega) ((hIx _ _).put _ _ _ h2 h1) ((World.putObj_heap_other (by omega)).trans h3)
      simpa [hrec] using this

end Go.Proofs.YtbjgbgchagfokaaGreat

namespace Go.Proofs.YtbjgbgchagfokaaGreat
open Go Go.RowKit

/-- A list of natural numbers lies at p, with so much room. -/
structure Lst (A : World) (x : List Nat) (p : Option Addr) (cap : Nat) : Prop where
  cells : Ints A p x.length fun i => ((x.getD i 0 : Nat) : Int)
  room : x.length ≤ cap
  fit : cap ≤ 9223372036854775807
  nil : p = none → x.length = 0 ∧ cap = 0

theorem Lst.below {A B : World} {x : List Nat} {p : Option Addr} {cap : Nat} (h : Lst A x p cap) (hb : Below A.heap.size A B) : Lst B x p cap := ⟨Cells.below h.cells hb, h.room, h.fit, h.nil⟩
theorem Lst.still {r : Nat} (x : List Nat) (p : Option Addr) (cap : Nat) : Still r fun A => Lst A x p cap :=
  (((Still.cells p x.length _).and (Still.pure (x.length ≤ cap ∧ cap ≤ 9223372036854775807 ∧ (p = none → x.length = 0 ∧ cap = 0)))).mono fun _ => ⟨fun ⟨h1, h2, h3, h4⟩ => ⟨h1, h2, h3, h4⟩, fun h => ⟨h.cells, h.room, h.fit, h.nil⟩⟩)
theorem lst_nil {A : World} : Lst A [] none 0 := ⟨.inl rfl, Nat.le_refl _, by omega, fun _ => ⟨rfl, rfl⟩⟩
/-- It lies on in a world where its block is kept. -/
theorem Lst.block {A B : World} {x : List Nat} {p : Option Addr} {cap : Nat} (h : Lst A x p cap) (hz : A.heap.size ≤ B.heap.size) (hb : ∀ b off, p = some ⟨b, off, none⟩ → b < A.heap.size → B.heap[b]? = A.heap[b]?) : Lst B x p cap := by
  refine ⟨?_, h.room, h.fit, h.nil⟩
  rcases h.cells with h0 | ⟨b, off, rfl, hlt, hc⟩
  · exact .inl h0
  · exact .inr ⟨b, off, rfl, Nat.lt_of_lt_of_le hlt hz, fun i hi => (World.cell?_of_block (a := ⟨b, _, none⟩) (hb b off rfl hlt)).trans (hc i hi)⟩

/-- It lies on where all blocks but two are kept, in which no numbers lie. -/
theorem Lst.others {A B : World} {x : List Nat} {p : Option Addr} {cap b1 b2 : Nat} (h : Lst A x p cap) (hz : A.heap.size ≤ B.heap.size) (hb : ∀ i, i < A.heap.size → i ≠ b1 → i ≠ b2 → B.heap[i]? = A.heap[i]?)
    (h1 : ∀ o n, A.cell? ⟨b1, o, none⟩ ≠ some (.int .i64 n)) (h2 : ∀ o n, A.cell? ⟨b2, o, none⟩ ≠ some (.int .i64 n)) : Lst B x p cap := by
  refine ⟨?_, h.room, h.fit, h.nil⟩
  rcases h.cells with h0 | ⟨b, off, rfl, hlt, hc⟩
  · exact .inl h0
  · by_cases hx : x.length = 0
    · exact .inl hx
    · have c0 := hc 0 (by omega)
      have e := hb b hlt (fun e => by subst e; exact h1 _ _ c0) (fun e => by subst e; exact h2 _ _ c0)
      exact .inr ⟨b, off, rfl, Nat.lt_of_lt_of_le hlt hz, fun i hi => (World.cell?_of_block (a := ⟨b, _, none⟩) e).trans (hc i hi)⟩
theorem row_noint {w : World} {b : Nat} {v : Value} {e : TypeId} (h : RowIs w b #[v] e) (hv : ∀ n, v ≠ .int .i64 n) (o : Nat) (n : Int) : w.cell? ⟨b, o, none⟩ ≠ some (.int .i64 n) := by
  rw [h.cell o]
  cases o with
  | zero => intro e; exact hv n (by simpa using e)
  | succ o => simp

theorem infoInt : (Tryz.prog.info? 3).map (fun i => (i.zero, i.size, i.bytes)) = some (some (.int .i64 0), 1, 8) := by kernel_rfl
theorem info_parts1 {o : Option TypeInfo} {z : Value} {s b : Nat} (h : o.map (fun i => (i.zero, i.size, i.bytes)) = some (some z, s, b)) : ∃ i, o = some i ∧ i.zero = some z ∧ i.size = s ∧ i.bytes = b := by
  cases o with
  | none => cases h
  | some i =>
    simp only [Option.map_some, Option.some.injEq, Prod.mk.injEq] at h
    exact ⟨i, rfl, h.1, h.2.1, h.2.2⟩

/-- An append whose run is known, guarded or not. -/
theorem wpListIn_append_run {F : Fence} {n : Nat} {P : Program} {w w' : World} {ops : Array Oper} {rest : List Oper} {o : Oper} {a : Act} {Q : Exit → Act → World → Prop} {v1 v2 v : Value}
    (hw : Region.wanted o (yielded ops a.tmps) = true) (s x : Operand) (t : TypeId) (hop : o.op = Op.call { callee := Callee.builtin Builtin.append, args := #[s, x], argTypes := #[t, t] })
    (hs : a.eval s = v1) (hx : a.eval x = v2) (hrun : (Builtin.append_ #[t, t] o.type #[v1, v2]).run P w = .ok v w') (hK : wpListIn F n P ops Q rest (a.put o.dst v) w') : wpListIn F n P ops Q (o :: rest) a w := by
  refine wpListIn_step fun K hK' => ?_
  rw [if_pos hw]
  unfold Oper.wpIn
  refine ⟨?_, ?_⟩
  · simp [Oper.about, hop, resolve, Target.leads, Sem.run_pure]
  · rw [Oper.semAt_plain F _ _ (by rw [hop]; intro c hc'; cases hc')]
    simp [execOp, hop, resolve, invoke, builtin, hs, hx, hrun, Result.andThen]
    exact hK' _ _ hK
theorem wpList_append_run {P : Program} {w w' : World} {ops : Array Oper} {rest : List Oper} {o : Oper} {a : Act} {Q : Exit → Act → World → Prop} {v1 v2 v : Value}
    (hw : Region.wanted o (yielded ops a.tmps) = true) (s x : Operand) (t : TypeId) (hop : o.op = Op.call { callee := Callee.builtin Builtin.append, args := #[s, x], argTypes := #[t, t] })
    (hs : a.eval s = v1) (hx : a.eval x = v2) (hrun : (Builtin.append_ #[t, t] o.type #[v1, v2]).run P w = .ok v w') (hK : wpList P ops Q rest (a.put o.dst v) w') : wpList P ops Q (o :: rest) a w := by
  refine wpList_step fun K hK' => ?_
  rw [if_pos hw]
  unfold Oper.wp
  simp [execOp, hop, resolve, invoke, builtin, hs, hx, hrun, Result.andThen]
  exact hK' _ _ hK

def natL (x : List Nat) : List Value := x.map fun i : Nat => Value.int .i64 (i : Int)
theorem lst_of_own {w : World} {base g cap n : Nat} {x : List Nat} (hn : n = x.length) (h : w.ownsRow base 3 1 (.slice (some ⟨g, 0, none⟩) n cap) n (natL x)) : Lst w x (some ⟨g, 0, none⟩) cap := by
  have hlt := h.lt g rfl
  rcases h.2 with ⟨h', _⟩ | ⟨g', cap', cur, h', _, hg, h1, h2, h3, h4⟩
  · cases h'
  · simp only [Value.slice.injEq, Option.some.injEq, Addr.mk.injEq, and_true, true_and] at h'
    obtain ⟨rfl, rfl⟩ := h'
    refine ⟨.inr ⟨g, 0, rfl, hlt.2, fun i hi => ?_⟩, by omega, by unfold maxLen at h2; omega, fun e => by cases e⟩
    have := h.cellAt i (by rw [hn]; omega)
    rw [Nat.zero_add, this]
    simp [natL, List.getD, hi]

/-- One more number behind a list that is full. -/
theorem append_lst {A : World} {x : List Nat} {p : Option Addr} {cap : Nat} (h : Lst A x p cap) (b i : Nat) (hb : RowIs A b #[.int .i64 (i : Int)] 3) (hx : x.length ≤ 1048576) :
    ∃ g cap' B, (Builtin.append_ #[25, 25] 25 #[.slice p x.length x.length, .slice (some ⟨b, 0, none⟩) 1 1]).run Tryz.prog A = .ok (.slice (some ⟨g, 0, none⟩) (x.length + 1) cap') B ∧ A.heap.size ≤ g ∧ Lst B (x ++ [i]) (some ⟨g, 0, none⟩) cap' ∧ Below A.heap.size A B := by
  obtain ⟨i0, hi, hi0, hi1, hi2⟩ := info_parts1 infoInt
  have hnews : ∀ j u, [Value.int .i64 (i : Int)][j]? = some u → A.cell? ((⟨b, 0, none⟩ : Addr).add j) = some u := fun j u hj => by
    cases j with
    | zero =>
      rw [← hj]
      exact (hb.cell 0)
    | succ j => simp at hj
  have hlen : (natL x).length = x.length * 1 := by simp [natL]
  have hold : ∀ a, p = some a → ∀ j u, (natL x)[j]? = some u → A.cell? (a.add j) = some u := fun a e j u hj => by
    have hjx : j < x.length := by
      have := (List.getElem?_eq_some_iff.1 hj).1
      simpa [natL] using this
    obtain ⟨b', off, e', hlt, hc⟩ := Cells.at h.cells j hjx
    rw [e'] at e
    cases e
    have hv : u = Value.int .i64 ((x.getD j 0 : Nat) : Int) := by
      simp [natL, List.getElem?_eq_getElem hjx] at hj
      rw [← hj]; simp [List.getD, hjx]
    rw [hv, Addr.add_lit]
    exact hc j hjx
  have fin : ∀ v' w', w'.ownsRow A.heap.size 3 1 v' (x.length + 1) (natL x ++ [Value.int .i64 (i : Int)]) → A.grownBy w' none →
      ∃ g cap', v' = .slice (some ⟨g, 0, none⟩) (x.length + 1) cap' ∧ A.heap.size ≤ g ∧ Lst w' (x ++ [i]) (some ⟨g, 0, none⟩) cap' ∧ Below A.heap.size A w' := fun v' w' hown hgr => by
    have hown2 := hown
    rcases hown2.2 with ⟨_, h0⟩ | ⟨g, cap', cur, hv, hbase, _⟩
    · omega
    · subst hv
      refine ⟨g, cap', rfl, hbase, lst_of_own (base := A.heap.size) (n := x.length + 1) (by simp) ?_, ⟨hgr.os, hgr.tape, hgr.output, hgr.size, fun k hk => hgr.block k hk (by simp)⟩⟩
      have : natL (x ++ [i]) = natL x ++ [Value.int .i64 (i : Int)] := by simp [natL]
      rw [this]
      exact hown
  cases p with
  | some a =>
    obtain ⟨v', w', hrun, h1, h2⟩ := run_append_arg_grows (P := Tryz.prog) A 25 25 3 i0 (.int .i64 0) 1 8 Tryz.underlying25 hi hi0 hi1 hi2 rfl (by decide) a x.length x.length (natL x) hlen (hold a rfl) ⟨b, 0, none⟩ 1 1 [.int .i64 (i : Int)] rfl hnews (by omega) (by unfold maxLen; omega) (by omega)
    obtain ⟨g, cap', rfl, h3, h4, h5⟩ := fin v' w' h1 h2
    exact ⟨g, cap', w', hrun, h3, h4, h5⟩
  | none =>
    obtain ⟨h0, -⟩ := h.nil rfl
    obtain rfl : x = [] := List.eq_nil_of_length_eq_zero h0
    obtain ⟨v', w', hrun, h1, h2, _⟩ := run_append_own (P := Tryz.prog) A A.heap.size 25 25 3 i0 (.int .i64 0) 1 8 Tryz.underlying25 hi hi0 hi1 hi2 rfl (by decide) (.slice none 0 0) 0 [] (World.ownsRow_nil A _ _ _) ⟨b, 0, none⟩ 1 1 [.int .i64 (i : Int)] rfl hnews (by intro u hu; simp at hu; subst hu; rfl) (by unfold maxLen; omega) (by omega) (Nat.le_refl _)
    obtain ⟨g, cap', rfl, h3, h4, h5⟩ := fin v' w' (by simpa [natL] using h1) h2
    exact ⟨g, cap', w', hrun, h3, h4, h5⟩

end Go.Proofs.YtbjgbgchagfokaaGreat
