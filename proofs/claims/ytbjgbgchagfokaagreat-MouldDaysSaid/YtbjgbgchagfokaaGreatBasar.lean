/- Ranges over an iterator that makes nothing and reads the blocks of K alone; the body may write whatever else it likes. It imports nothing of the program. -/
import Derived.RangeFuncNested
import Derived.RangeFuncCalls
import Derived.RangeFuncLeaves
import Derived.Test.YtbjgbgchagfokaaGreatBasaa
import Derived.Test.YtbjgbgchagfokaaGreatBasab
import Derived.Test.YtbjgbgchagfokaaGreatBasad
import Derived.RangeFuncBound
import Derived.Shelf.Abstract
import Derived.Shelf.RegionOpen
import Derived.OwnWalkIn
import Derived.TacticsInMore
import Derived.LoopNIn
import Derived.LoopIn
import Derived.Scope
import Derived.Test.YtbjgbgchagfokaaGreatProg
import Derived.Test.YtbjgbgchagfokaaGreatBasam
import Derived.Shelf.Sort.Plain
import Derived.Shelf.Slices.CompactI
import Derived.Shelf.Slices.In.SortNone
import Derived.Sort.OwnSortedInts
import Derived.Lib.SlicesCompact
import Derived.Test.YtbjgbgchagfokaaGreatBasap
import Derived.Test.YtbjgbgchagfokaaGreatBasak
import Derived.DeepKeys4
import Derived.Maps.OwnIn
import Derived.Maps.Ext
namespace Go.Proofs.YtbjgbgchagfokaaGreat
open Go Go.RowKit

/-- What a round leaves as it lay: the blocks of K, and all that is no cells. -/
structure Lets (K : Nat → Prop) (A B : World) : Prop where
  size : A.heap.size ≤ B.heap.size
  block : ∀ k, k < A.heap.size → K k → B.heap[k]? = A.heap[k]?
  walk : ∀ (k : Nat) (o : Obj), A.heap[k]? = some o → o.isCells = false → B.heap[k]? = some o
theorem Lets.refl (K : Nat → Prop) (A : World) : Lets K A A := ⟨Nat.le_refl _, fun _ _ _ => rfl, fun _ _ h _ => h⟩
theorem Lets.trans {K : Nat → Prop} {A B C : World} (h : Lets K A B) (k : Lets K B C) : Lets K A C :=
  ⟨Nat.le_trans h.size k.size, fun i hi hK => (k.block i (Nat.lt_of_lt_of_le hi h.size) hK).trans (h.block i hi hK), fun i o ho hn => k.walk i o (h.walk i o ho hn) hn⟩
theorem Lets.of_below {K : Nat → Prop} {A B : World} (h : Below A.heap.size A B) : Lets K A B := ⟨h.size, fun i hi _ => h.block i hi, fun i _ ho _ => (h.block i (Array.getElem?_eq_some_iff.1 ho).1).trans ho⟩

/-- An iterator that reads the blocks of K alone, makes nothing, and yields the list L. -/
def GivesV {α : Type} (P : Program) (gf : Nat) (first lb : Array Value) (K : Nat → Prop) (L : List α) (Enc : World → α → Array Value → Prop) (w : World) : Prop :=
  ∀ (l : Nat) (J Jx : Nat → World → Prop) (W : World),
    (∀ k, K k → k < w.heap.size ∧ W.heap[k]? = w.heap[k]?) → w.heap.size ≤ W.heap.size →
    (∀ k A B, J k A → Below A.heap.size A B → J k B) → (∀ k A B, Jx k A → Below A.heap.size A B → Jx k B) →
    (∀ k (h : k < L.length) A vs, W.heap.size ≤ A.heap.size → J k A → Enc A L[k] vs → YieldAt Fence.wide 0 P l vs A fun e B => (e = .returned (.bool true) ∧ J (k + 1) B ∧ (A.heap.size ≤ B.heap.size ∧ ∀ k, k < A.heap.size → K k → B.heap[k]? = A.heap[k]?)) ∨ (e = .returned (.bool false) ∧ Jx (k + 1) B ∧ (A.heap.size ≤ B.heap.size ∧ ∀ k, k < A.heap.size → K k → B.heap[k]? = A.heap[k]?))) →
    J 0 W →
    Calls P gf (first ++ #[.func (.yield l) #[] #[]] ++ lb) W fun e B => (∃ v, e = .returned v) ∧ (J L.length B ∨ ∃ k, Jx k B)

theorem GivesV.later {α : Type} {P : Program} {gf : Nat} {first lb : Array Value} {K : Nat → Prop} {L : List α} {Enc : World → α → Array Value → Prop} {w w' : World} (h : GivesV P gf first lb K L Enc w) (hK : ∀ k, K k → k < w.heap.size)
    (hs : w.heap.size ≤ w'.heap.size) (hb : ∀ k, K k → w'.heap[k]? = w.heap[k]?) : GivesV P gf first lb K L Enc w' :=
  fun l J Jx W hW hz hJ hJx hY h0 => h l J Jx W (fun k hk => ⟨hK k hk, (hW k hk).2.trans (hb k hk)⟩) (Nat.le_trans hs hz) hJ hJx hY h0

/-- How the body of a round may be left. -/
def roundV (K : Nat → Prop) (I : Nat → World → Prop) (Ix : Code → Nat → World → Prop) (k : Nat) (A : World) : Exit → Act → World → Prop
  | .normal, _, B => Lets K A B ∧ I (k + 1) B
  | .ret, _, B => Lets K A B ∧ Ix .ret (k + 1) B
  | .exit id, _, B => Lets K A B ∧ Ix (.exit id) (k + 1) B
  | .goto t, _, B => Lets K A B ∧ Ix (.goto t) (k + 1) B
  | .panic _, _, _ => False
  | .outgrown, _, _ => False

/-- A loop over such an iterator, in a function that stands in no round. -/
theorem wpIn_rangeV {α : Type} {n : Nat} {P : Program} {g : Operand} {ps : Array Tmp} {assign body : Code} {Q : Exit → Act → World → Prop} {a : Act} {w : World} {gf : Nat} {first lb : Array Value} {K : Nat → Prop} {L : List α} {Enc : World → α → Array Value → Prop}
    (hg : a.eval g = .func (.func gf) first lb) (eg : ∀ args w, (callFunc gf args).run P w = .ok (.enter gf args) w)
    (hseq : GivesV P gf first lb K L Enc w) (hK : ∀ k, K k → k < w.heap.size) (hps : ∀ A x vs, Enc A x vs → vs.size = ps.size) (hE : ∀ x vs, Still (w.heap.size + 1) fun A => Enc A x vs)
    (I : Nat → World → Prop) (Ix : Code → Nat → World → Prop) (hI : ∀ k, Still (w.heap.size + 1) (I k)) (hIx : ∀ c k, Still (w.heap.size + 1) (Ix c k)) (h0 : I 0 w)
    (Ax : Nat → Array Value → Act → World → Prop) (hAx : ∀ k vs a', Still (w.heap.size + 1) (Ax k vs a'))
    (hassign : ∀ (l k : Nat) (hk : k < L.length) (A : World) (vs : Array Value) (T : Act → World → Prop), w.heap.size + 2 ≤ A.heap.size → I k A → Enc A L[k] vs → (∀ a' A', Below A.heap.size A A' → Ax k vs a' A' → T a' A') →
      assign.wpIn (Fence.wide.inRound l) n P (Exit.then T (fun _ _ _ => False)) { tmps := (ps.zip vs).foldl (fun t (p, v) => t.setIfInBounds p v) a.tmps, defers := [] } A)
    (hbody : ∀ (l k : Nat) (hk : k < L.length) (vs : Array Value) (a' : Act) (A : World), w.heap.size + 2 ≤ A.heap.size → I k A → Enc A L[k] vs → Ax k vs a' A → body.wpIn (Fence.wide.inRound l) n P (roundV K I Ix k A) a' A)
    (hdone : ∀ B : World, w.heap.size + 2 ≤ B.heap.size → I L.length B → B.heap[w.heap.size]? = some (.deferred (some [])) → Q .normal { a with defers := { target := .collected w.heap.size, args := #[] } :: a.defers } B)
    (hstop : ∀ (c : Code) (k : Nat) (B : World), w.heap.size + 2 ≤ B.heap.size → Ix c k B → B.heap[w.heap.size]? = some (.deferred (some [])) → c.wpIn Fence.wide n P Q { a with defers := { target := .collected w.heap.size, args := #[] } :: a.defers } B) :
    (Code.rangeFunc g ps assign body).wpIn Fence.wide n P Q a w := by
  refine wpIn_rangeFunc fun fn _ => ?_
  obtain ⟨b, hb⟩ : ∃ b, w.heap.size = b := ⟨_, rfl⟩
  obtain ⟨record, hrec⟩ : ∃ record : LoopState → Option Code → Loop, record = fun st pe => { state := st, pending := pe, fn, tmps := a.tmps, params := ps, assign, body, defers := b } := ⟨_, rfl⟩
  obtain ⟨W, hW⟩ : ∃ W, (w.alloc (.deferred (some []))).alloc (.loop (record .ready none)) = W := ⟨_, rfl⟩
  have hWl : W.heap[b + 1]? = some (.loop (record .ready none)) := by
    rw [← hW, ← hb]
    have := World.alloc_heap_new (w.alloc (.deferred (some []))) (.loop (record .ready none))
    rwa [World.size_alloc] at this
  have hWd : W.heap[b]? = some (.deferred (some [])) := by
    rw [← hW, ← hb]
    exact (Below.heap_alloc _ _ _ (by simp)).trans (World.alloc_heap_new w _)
  have hWz : W.heap.size = b + 2 := by rw [← hW]; simp [hb]
  have hWb : Below b w W := by
    rw [← hW, ← hb]
    exact ((Below.refl _ w).alloc (Nat.le_refl _) _).alloc (by simp) _
  have hI0 : I 0 W := (hI 0).grow w W h0 (by rw [hb]; exact hWb)
  rw [hb] at hI hIx hAx hE hassign hbody hdone hstop hK
  -- what lies between two rounds
  let J : Nat → World → Prop := fun k A => I k A ∧ A.heap[b + 1]? = some (.loop (record .ready none)) ∧ A.heap[b]? = some (.deferred (some [])) ∧ b + 2 ≤ A.heap.size
  let Jx : Nat → World → Prop := fun k A => ∃ c, Ix c k A ∧ A.heap[b + 1]? = some (.loop (record .done (some c))) ∧ A.heap[b]? = some (.deferred (some [])) ∧ b + 2 ≤ A.heap.size
  refine ⟨b + 1, [{ target := .collected b, args := #[] }], W, { target := .fn (.func gf) lb, args := first ++ #[.func (.yield (b + 1)) #[] #[]] }, W, gf, first ++ #[.func (.yield (b + 1)) #[] #[]] ++ lb, W, ?_, ?_, fun _ _ => trivial, ?_, fun h => by simp [Fence.wide] at h, ?_⟩
  · rw [← hW, hrec, ← hb]
    exact run_enterLoop_outer _ _ _ _ _
  · simp only [resolve, hg]
    simp [go_sem]
  · simp [invoke, go_sem, eg]
  refine callsIn_wide.2 ((hseq (b + 1) J Jx W ?_ (by omega) ?_ ?_ ?_ ?_).mono ?_)
  · intro k hk
    have := hK k hk
    exact ⟨by omega, hWb.block k this⟩
  · rintro k A B ⟨h1, h2, h3, h4⟩ hAB
    exact ⟨(hI k).grow A B h1 hAB, (hAB.block _ (by omega)).trans h2, (hAB.block _ (by omega)).trans h3, Nat.le_trans h4 hAB.size⟩
  · rintro k A B ⟨c, h1, h2, h3, h4⟩ hAB
    exact ⟨c, (hIx c k).grow A B h1 hAB, (hAB.block _ (by omega)).trans h2, (hAB.block _ (by omega)).trans h3, Nat.le_trans h4 hAB.size⟩
  · rintro k hk A vs _ ⟨h1, h2, h3, h4⟩ hvs
    have hy := run_yield (P := P) (args := vs) h2 (by rw [hrec]; exact hps A _ vs hvs)
    rw [hrec] at hy
    refine ⟨fn, _, assign, body, hy, round_any (n := n) rfl (roundIn_of_wpIn trivial (hassign _ k hk A vs _ h4 h1 hvs ?_))⟩
    intro a' A' hAA hax
    have hz' := hAA.size
    have h2' : A'.heap[b + 1]? = some (.loop (record .ready none)) := (hAA.block _ (by omega)).trans h2
    have h3' : A'.heap[b]? = some (.deferred (some [])) := (hAA.block _ (by omega)).trans h3
    refine ⟨_, run_beginRound h2' (by rw [hrec]), ?_⟩
    obtain ⟨C, hC⟩ : ∃ C, A'.putObj (b + 1) (.loop { record .ready none with state := .busy }) = C := ⟨_, rfl⟩
    have hC2 : C.heap[b + 1]? = some (.loop { record .ready none with state := .busy }) := by rw [← hC]; exact World.putObj_heap_same (by omega)
    have hC3 : C.heap[b]? = some (.deferred (some [])) := by rw [← hC]; exact (World.putObj_heap_other (by omega)).trans h3'
    have hCz : C.heap.size = A'.heap.size := by rw [← hC]; simp
    have hCI : I k C := by
      rw [← hC]
      exact (hI k).put _ _ _ h2' ((hI k).grow _ _ h1 hAA)
    have hCE : Enc C L[k] vs := by
      rw [← hC]
      exact (hE _ vs).put _ _ _ h2' ((hE _ vs).grow _ _ hvs hAA)
    have hCx : Ax k vs a' C := by rw [← hC]; exact (hAx k vs a').put _ _ _ h2' hax
    have hKb : ¬ K (b + 1) := fun h => by have := hK _ h; omega
    have hAC : ∀ k, k < A.heap.size → k ≠ b + 1 → C.heap[k]? = A.heap[k]? := fun k hk hne => by
      rw [← hC]
      exact (World.putObj_heap_other hne).trans (hAA.block k hk)
    have hACz : A.heap.size ≤ C.heap.size := by omega
    have hAb1 : A.heap[b + 1]? = some (.loop (record .ready none)) := h2
    rw [hC]
    refine wpIn_mono (hbody _ k hk vs a' C (by omega) hCI hCE hCx) ?_
    have fin : ∀ (jump : Option Code) (B : World), Lets K C B →
        ∃ B', (Instr.endRound (b + 1) jump).run P B = .ok (.bool jump.isNone) B' ∧ B'.heap[b + 1]? = some (.loop (record (if jump.isNone then .ready else .done) jump)) ∧ B'.heap[b]? = some (.deferred (some [])) ∧
          b + 2 ≤ B'.heap.size ∧ (∃ o o', B.heap[b + 1]? = some (.loop o) ∧ B' = B.putObj (b + 1) (.loop o')) ∧ (A.heap.size ≤ B'.heap.size ∧ ∀ k, k < A.heap.size → K k → B'.heap[k]? = A.heap[k]?) := fun jump B hCB => by
      have hBz := hCB.size
      have g2 : B.heap[b + 1]? = some (.loop { record .ready none with state := .busy }) := hCB.walk _ _ hC2 rfl
      have g3 : B.heap[b]? = some (.deferred (some [])) := hCB.walk _ _ hC3 rfl
      have hr := run_endRound (P := P) jump g2
      rw [hrec] at hr
      refine ⟨_, hr, ?_, (World.putObj_heap_other (by omega)).trans g3, by simp; omega, ⟨_, _, g2, rfl⟩, ?_⟩
      · rw [World.putObj_heap_same (by omega), hrec]
      · exact ⟨by simp; omega, fun k hk hKk => (World.putObj_heap_other (fun e => by subst e; exact hKb hKk)).trans ((hCB.block k (by omega) hKk).trans (hAC k hk (fun e => by subst e; exact hKb hKk)))⟩
    intro e a3 B hp
    cases e with
    | normal =>
      obtain ⟨hs, hi⟩ := hp
      obtain ⟨B', hr, f1, f2, f3, ⟨o, o', f4, f6⟩, f5⟩ := fin none B hs
      exact ⟨_, _, hr, .inl ⟨rfl, ⟨by rw [f6]; exact (hI _).put _ _ _ f4 hi, f1, f2, f3⟩, f5⟩⟩
    | ret =>
      obtain ⟨hs, hi⟩ := hp
      obtain ⟨B', hr, f1, f2, f3, ⟨o, o', f4, f6⟩, f5⟩ := fin (some .ret) B hs
      exact ⟨_, _, hr, .inr ⟨rfl, ⟨.ret, by rw [f6]; exact (hIx _ _).put _ _ _ f4 hi, f1, f2, f3⟩, f5⟩⟩
    | exit id =>
      obtain ⟨hs, hi⟩ := hp
      obtain ⟨B', hr, f1, f2, f3, ⟨o, o', f4, f6⟩, f5⟩ := fin (some (.exit id)) B hs
      exact ⟨_, _, hr, .inr ⟨rfl, ⟨.exit id, by rw [f6]; exact (hIx _ _).put _ _ _ f4 hi, f1, f2, f3⟩, f5⟩⟩
    | goto t =>
      obtain ⟨hs, hi⟩ := hp
      obtain ⟨B', hr, f1, f2, f3, ⟨o, o', f4, f6⟩, f5⟩ := fin (some (.goto t)) B hs
      exact ⟨_, _, hr, .inr ⟨rfl, ⟨.goto t, by rw [f6]; exact (hIx _ _).put _ _ _ f4 hi, f1, f2, f3⟩, f5⟩⟩
    | panic ch => exact hp.elim
    | outgrown => exact hp.elim
  · exact ⟨hI0, hWl, hWd, by omega⟩
  · rintro e B ⟨⟨v, rfl⟩, (⟨h1, h2, h3, h4⟩ | ⟨k, c, h1, h2, h3, h4⟩)⟩
    · refine ⟨none, _, (by have := run_endLoop (P := P) h2 (by rw [hrec]; simp); rw [hrec] at this; exact this), ?_⟩
      have := hdone (B.putObj (b + 1) (.loop (record .exhausted none))) (by simp; omega) ((hI _).put _ _ _ h2 h1) ((World.putObj_heap_other (by omega)).trans h3)
      simpa [hrec] using this
    · refine ⟨some c, _, (by have := run_endLoop (P := P) h2 (by rw [hrec]; simp); rw [hrec] at this; exact this), ?_⟩
      have := hstop c k (B.putObj (b + 1) (.loop (record .exhausted (some c)))) (by simp; omega) ((hIx _ _).put _ _ _ h2 h1) ((World.putObj_heap_other (by omega)).trans h3)
      simpa [hrec] using this

end Go.Proofs.YtbjgbgchagfokaaGreat

namespace Go.Proofs.YtbjgbgchagfokaaGreat
open Go Go.RowKit Go.Shelf
attribute [local go_sem] Oper.semAt_some

theorem valuesI_c (p : Option Addr) (n cap : Nat) (w : World) :
    Calls Tryz.prog 72 #[.slice p n cap] w fun e w' => e = .returned (.func (.func 87) #[] #[.pointer (some ⟨w.heap.size, 0, none⟩)]) ∧ w.alloc (.cells #[.slice p n cap] 25) = w' := by
  go_enter Tryz.func72, Tryz.ntmps72
  go_wp2_with fail
  go_ret
  exact ⟨rfl, rfl⟩

/-- What such an iterator reads. -/
def valK (p : Option Addr) (n bv k : Nat) : Prop := k = bv ∨ (n ≠ 0 ∧ ∃ off, p = some ⟨k, off, none⟩)

set_option maxRecDepth 100000 in
set_option maxHeartbeats 4000000 in
theorem valuesI_gives (bv : Nat) (x : List Nat) (p : Option Addr) (cap : Nat) (w : World) (hv : RowIs w bv #[.slice p x.length cap] 25) (hL : Lst w x p cap) (hn : x.length ≤ 1048576) :
    GivesV Tryz.prog 87 #[] #[.pointer (some ⟨bv, 0, none⟩)] (valK p x.length bv) x (fun _ i vs => vs = #[.int .i64 ((i : Nat) : Int)]) w := by
  intro lr J Jx W hW hz hJ hJx hY h0
  have hvW : RowIs W bv #[.slice p x.length cap] 25 := (hW bv (.inl rfl)).2.trans hv
  have hLW : Lst W x p cap := by
    by_cases h0 : x.length = 0
    · exact ⟨.inl h0, hL.room, hL.fit, hL.nil⟩
    · exact hL.block hz fun b off e _ => (hW b (.inr ⟨h0, off, e⟩)).2
  have e0 : W.cell? ⟨bv, 0, none⟩ = some (.slice p x.length cap) := hvW.cell 0
  have ez := hvW.lt
  obtain ⟨D, hD⟩ : ∃ D, W.heap.size = D := ⟨_, rfl⟩
  rw [hD] at hY
  have HJ := Lib.hid hJ
  have HY := Lib.hid hY
  have HL := Lib.hid hLW
  have HD := Lib.hid hD
  clear hJ hJx hY hLW hvW hv hL hW hz hD
  refine (callsIn_wide (n := 1)).1 ?_
  show CallsIn Fence.wide 1 Tryz.prog 87 #[.func (.yield lr) #[] #[], .pointer (some ⟨bv, 0, none⟩)] W _
  refine callsIn_of_wp Tryz.func87 rfl trivial ?_ rfl
  simp only [Tryz.ntmps87, List.size_toArray, List.length_cons, List.length_nil, Nat.reduceAdd, Nat.reduceSub, Array.replicate_succ, Array.replicate_zero, List.push_toArray, List.append_toArray, List.nil_append, List.cons_append]
  gi_wp2
  gi_loopw [7] (fun s wr => ∃ k : Nat, k ≤ x.length ∧ s = .int .i64 k ∧ J k wr ∧ Lst wr x p cap ∧ D ≤ wr.heap.size) (fun s _ => x.length - (intOf s).toNat)
  case atStart => exact ⟨0, Nat.zero_le _, rfl, h0, HL.out, Nat.le_of_eq HD.out.symm⟩
  case round =>
    obtain ⟨k, hk, rfl, hj, hrow, hDz⟩ := hrel
    by_cases hlt : k < x.length
    · obtain ⟨b, off, rfl, hbz, hc⟩ := Cells.at hrow.cells k hlt
      have ck := hc k hlt
      clear hc
      have hg : x.getD k 0 = x[k] := by simp [List.getD, hlt]
      obtain ⟨y, hy⟩ : ∃ y, x[k] = y := ⟨_, rfl⟩
      rw [hy] at hg
      simp only [hg] at ck
      have hyy := HY.out k hlt wr #[.int .i64 (y : Int)] hDz hj (by rw [hy])
      obtain ⟨fn, tmps, assign, body, hyr, hR⟩ := hyy
      try dsimp only at hyr
      have HR := Lib.hid hR
      have Hrow := Lib.hid hrow
      clear hrow hj hR hy hg h0
      gi_wp2
      refine HR.out.mono ?_
      rintro e W3 (⟨rfl, hJ3, hS3, hK3⟩ | ⟨rfl, hJx3, hS3, hK3⟩)
      · have hL3 : Lst W3 x (some ⟨b, off, none⟩) cap := Hrow.out.block hS3 fun b' off' e hb' => hK3 b' hb' (.inr ⟨by omega, off', e⟩)
        clear ck
        gi_wp2
        go_roundw
        case rel => exact ⟨k + 1, by omega, by go_num, hJ3, hL3, Nat.le_trans hDz hS3⟩
        case measure => simp [intOf]; omega
      · clear ck
        gi_wp2
        refine bodyPost_ret (results_none rfl _ _ _) rfl ?_
        exact ⟨⟨_, rfl⟩, .inr ⟨_, hJx3⟩⟩
    · obtain rfl : k = x.length := by omega
      gi_wp2
      go_end0
      exact ⟨⟨_, rfl⟩, .inl hj⟩

set_option maxRecDepth 100000 in
set_option maxHeartbeats 4000000 in
theorem appendSeqI_c (gf : Nat) (lb : Array Value) (K : Nat → Prop) (x : List Nat) (w : World) (hx : x.length ≤ 1048576) (eg : ∀ args w, (callFunc gf args).run Tryz.prog w = .ok (.enter gf args) w) (hK : ∀ k, K k → k < w.heap.size)
    (hG : GivesV Tryz.prog gf #[] lb K x (fun _ i vs => vs = #[.int .i64 ((i : Nat) : Int)]) w) :
    Calls Tryz.prog 102 #[.slice none 0 0, .func (.func gf) #[] lb] w fun e w' => ∃ v, e = .returned v ∧ Own w' w.heap.size x v ∧ Below w.heap.size w w' := by
  obtain ⟨W, hW⟩ : ∃ W, w.alloc (.cells #[.slice none 0 0] 25) = W := ⟨_, rfl⟩
  have hB : Below w.heap.size w W := by rw [← hW]; exact Below.alloc1 (Below.refl _ _) _ (Nat.le_refl _)
  have hR : RowIs W w.heap.size #[.slice none 0 0] 25 := by rw [← hW]; exact heap_new_at _ _ _ rfl
  have hz : W.heap.size = w.heap.size + 1 := by rw [← hW]; simp
  have hGW := hG.later hK hB.size fun k hk => hB.block k (hK k hk)
  have HG := Lib.hid hGW
  have HR := Lib.hid hR
  have HB := Lib.hid hB
  have HK := Lib.hid hK
  clear hG hGW hR hB hK
  refine (callsIn_wide (n := 1)).1 ?_
  refine callsIn_of_wp_marks Tryz.func102 rfl trivial ?_ rfl
  simp only [Tryz.ntmps102, List.size_toArray, List.length_cons, List.length_nil, Nat.reduceAdd, Nat.reduceSub, Array.replicate_succ, Array.replicate_zero, List.push_toArray, List.append_toArray, List.nil_append, List.cons_append]
  gi_wp2_with fail
  clear hW
  refine wpIn_rangeV (gf := gf) (first := #[]) (lb := lb) rfl eg HG.out (fun k hk => by have := HK.out k hk; omega) (fun A i vs h => by rw [h]; rfl) (fun i vs => Still.pure _)
    (fun k A => (∃ v, RowIs A w.heap.size #[v] 25 ∧ Own A w.heap.size (x.take k) v) ∧ (Below w.heap.size w A ∧ w.heap.size ≤ A.heap.size))
    (fun _ _ _ => False)
    (fun k => (Still.ex fun v => (Still.row w.heap.size #[v] _ _).and (own_still w.heap.size (x.take k) v)).and (Still.below w.heap.size w (by omega)))
    (fun _ _ => Still.pure _)
    ⟨⟨_, HR.out, own_nil _ _⟩, HB.out, HB.out.size⟩
    (fun k vs a' A => ∃ v, vs = #[v] ∧ a' = { tmps := #[.slice none 0 0, .func (.func gf) #[] lb, .pointer (some ⟨w.heap.size, 0, none⟩), undef, .slice none 0 0, v, .func (.func gf) #[] lb, v, undef, undef, undef, undef, undef], defers := [] })
    (fun k vs a' => Still.pure _)
    ?assign ?body ?done ?stop
  case assign =>
    rintro lx k hk A vs T hA hI rfl hT
    gi_wp2
    exact hT _ _ (Below.refl _ _) ⟨_, rfl, rfl⟩
  case body =>
    rintro lx k hk vs a' A hA ⟨⟨v, hv, hown⟩, hb, hbz⟩ rfl ⟨v', hv', rfl⟩
    obtain rfl : Value.int .i64 ((x[k] : Nat) : Int) = v' := by simpa using hv'
    obtain ⟨y, hy⟩ : ∃ y, x[k] = y := ⟨_, rfl⟩
    have htk : x.take (k + 1) = x.take k ++ [y] := by rw [List.take_succ_eq_append_getElem hk, hy]
    rw [hy]
    have v0 : A.cell? ⟨w.heap.size, 0, none⟩ = some v := hv.cell 0
    have vz := hv.lt
    obtain ⟨X, hX⟩ : ∃ X, A.alloc (.cells #[.int .i64 (y : Int)] 3) = X := ⟨_, rfl⟩
    have hXr : RowIs X A.heap.size #[.int .i64 (y : Int)] 3 := by rw [← hX]; exact heap_new_at _ _ _ rfl
    have hXo : Own X w.heap.size (x.take k) v := by rw [← hX]; exact hown.alloc _
    have hXb : Below A.heap.size A X := by rw [← hX]; exact Below.alloc1 (Below.refl _ _) _ (Nat.le_refl _)
    have hXv := hv.below hXb
    obtain ⟨u, Y, hrun, hown', hgr, hbY⟩ := hXo.append A.heap.size y hXr (Nat.le_trans hbz hXb.size) (by simp; omega)
    have hYv := hXo.other hgr hXv (by decide)
    obtain ⟨up, um, uc, rfl⟩ : ∃ up um uc, u = .slice up um uc := by
      obtain ⟨p, c, h, -, -⟩ := hown'.lst
      exact ⟨p, _, c, h⟩
    have y1 := RowIs.frozen hYv 0
    have y0 := RowIs.cell hYv 0
    have yz := hYv.lt
    have Hown := Lib.hid hown'
    have HbY := Lib.hid hbY
    have Hgr := Lib.hid hgr
    have HYv := Lib.hid hYv
    have HXv := Lib.hid hXv
    have Hb := Lib.hid hb
    have HXb := Lib.hid hXb
    have HXo := Lib.hid hXo
    have HT := Lib.hid htk
    clear hv hown hb hXr hXo hXb hXv hown' hgr hbY hYv htk hy
    simp only [List.getElem?_toArray, List.getElem?_cons_zero] at y0
    gi_wp2_with (gi_at_builtin; refine wpListIn_append_run rfl _ _ 25 rfl rfl rfl hrun ?_)
    obtain ⟨Z, hZ⟩ : ∃ Z, Y.setCell ⟨w.heap.size, 0, none⟩ (.slice up um uc) = Z := ⟨_, rfl⟩
    have hZv : RowIs Z w.heap.size #[.slice up um uc] 25 := by rw [← hZ]; exact RowIs.set HYv.out 0 _
    have hZo : Own Z w.heap.size (x.take k ++ [y]) (.slice up um uc) := by
      rw [← hZ]
      exact Hown.out.far HYv.out (by decide)
    have hZb : Below w.heap.size w Z := by rw [← hZ]; exact ((Hb.out.trans (HXb.out.mono hbz)).trans HbY.out).setCell (p := ⟨w.heap.size, 0, none⟩) (Nat.le_refl _) _
    have hzX := HXb.out.size
    have hzY := Hgr.out.size
    have hzZ : Z.heap.size = Y.heap.size := by rw [← hZ]; simp [World.setCell]
    refine ⟨⟨by rw [hZ]; omega, fun b hb hK => ?_, fun b o ho hn => ?_⟩, ?_⟩
    · have := HK.out b hK
      rw [hZ]
      have h1 : Z.heap[b]? = Y.heap[b]? := by rw [← hZ]; exact Below.heap_setCell _ _ _ _ (show b ≠ w.heap.size by omega)
      rw [h1]
      exact (HbY.out.block b (by omega)).trans (HXb.out.block b hb)
    · have hbA := (Array.getElem?_eq_some_iff.1 ho).1
      rw [hZ]
      have hne : b ≠ w.heap.size := fun e => by
        subst e
        have h3 : X.heap[w.heap.size]? = some o := (HXb.out.block _ hbA).trans ho
        have h2 : X.heap[w.heap.size]? = _ := HXv.out
        rw [h2] at h3
        cases h3
        cases hn
      have h1 : Z.heap[b]? = Y.heap[b]? := by rw [← hZ]; exact Below.heap_setCell _ _ _ _ hne
      rw [h1]
      have h3 : X.heap[b]? = some o := (HXb.out.block _ hbA).trans ho
      exact HXo.out.walk Hgr.out h3 hn
    · rw [hZ]
      refine ⟨⟨_, hZv, ?_⟩, hZb, by omega⟩
      rw [HT.out]
      exact hZo
  case done =>
    rintro B hBz ⟨⟨v, hv, hown⟩, hb, hbz⟩ hK
    rw [List.take_length] at hown
    have v0 : B.cell? ⟨w.heap.size, 0, none⟩ = some v := hv.cell 0
    have vz := hv.lt
    have Hown := Lib.hid hown
    have Hb := Lib.hid hb
    have HK' := Lib.hid hK
    clear hv hown hb hK
    dsimp only
    gi_wp2_with fail
    refine ⟨by simp, .inl ⟨_, _, rfl, run_takeDeferred HK'.out, ?_⟩⟩
    exact ⟨v, by simp [results, Tryz.results102, go_sem], v, rfl, own_put Hown.out HK'.out, Hb.out.trans (below_put _ (by omega))⟩
  case stop =>
    rintro cd k B hBz h hK
    exact h.elim

end Go.Proofs.YtbjgbgchagfokaaGreat

namespace Go.Proofs.YtbjgbgchagfokaaGreat
open Go Go.Shelf Go.Sort Go.RowKit Go.Lib

def lays189_ren : Go.Shelf.Ren := ⟨fun | 189 => 65 | 125 => 84 | 257 => 83 | 128 => 100 | 129 => 101 | 294 => 91 | 295 => 92 | 296 => 93 | 297 => 94 | 298 => 95 | 299 => 96 | 216 => 97 | 300 => 98 | 301 => 99 | 328 => 103 | 329 => 104 | 330 => 105 | 331 => 106 | 332 => 107 | 215 => 108 | 343 => 109 | n => n, fun | 28 => 25 | 3 => 3 | 46 => 105 | 0 => 0 | 51 => 119 | 53 => 121 | 4 => 4 | 183 => 111 | 182 => 110 | 131 => 116 | 5 => 5 | 9 => 9 | 218 => 123 | 222 => 127 | 228 => 129 | 229 => 130 | n => n, fun | n => n⟩
theorem lays189 : Go.Proofs.Lays.n189 Tryz.prog lays189_ren := {
  mixed := by kernel_rfl
  f125 := Tryz.func84.trans (congrArg some (by kernel_rfl))
  f128 := Tryz.func100.trans (congrArg some (by kernel_rfl))
  f129 := Tryz.func101.trans (congrArg some (by kernel_rfl))
  f189 := Tryz.func65.trans (congrArg some (by kernel_rfl))
  f215 := Tryz.func108.trans (congrArg some (by kernel_rfl))
  f216 := Tryz.func97.trans (congrArg some (by kernel_rfl))
  f257 := Tryz.func83.trans (congrArg some (by kernel_rfl))
  f294 := Tryz.func91.trans (congrArg some (by kernel_rfl))
  f295 := Tryz.func92.trans (congrArg some (by kernel_rfl))
  f296 := Tryz.func93.trans (congrArg some (by kernel_rfl))
  f297 := Tryz.func94.trans (congrArg some (by kernel_rfl))
  f298 := Tryz.func95.trans (congrArg some (by kernel_rfl))
  f299 := Tryz.func96.trans (congrArg some (by kernel_rfl))
  f300 := Tryz.func98.trans (congrArg some (by kernel_rfl))
  f301 := Tryz.func99.trans (congrArg some (by kernel_rfl))
  f328 := Tryz.func103.trans (congrArg some (by kernel_rfl))
  f329 := Tryz.func104.trans (congrArg some (by kernel_rfl))
  f330 := Tryz.func105.trans (congrArg some (by kernel_rfl))
  f331 := Tryz.func106.trans (congrArg some (by kernel_rfl))
  f332 := Tryz.func107.trans (congrArg some (by kernel_rfl))
  f343 := Tryz.func109.trans (congrArg some (by kernel_rfl))
  t0 := Tryz.underlying0
  a0 := Tryz.isAgg0
  z0 := Tryz.sizeOf0
  v0 := Tryz.zeroValue0
  t3 := Tryz.underlying3
  a3 := Tryz.isAgg3
  z3 := Tryz.sizeOf3
  v3 := Tryz.zeroValue3
  t4 := Tryz.underlying4
  a4 := Tryz.isAgg4
  z4 := Tryz.sizeOf4
  v4 := Tryz.zeroValue4
  t5 := Tryz.underlying5
  a5 := Tryz.isAgg5
  z5 := Tryz.sizeOf5
  v5 := Tryz.zeroValue5
  t9 := Tryz.underlying9
  a9 := Tryz.isAgg9
  z9 := Tryz.sizeOf9
  v9 := Tryz.zeroValue9
  t28 := Tryz.underlying25
  a28 := Tryz.isAgg25
  z28 := Tryz.sizeOf25
  v28 := Tryz.zeroValue25
  t46 := Tryz.underlying105
  a46 := Tryz.isAgg105
  z46 := Tryz.sizeOf105
  v46 := Tryz.zeroValue105
  t51 := Tryz.underlying119
  a51 := Tryz.isAgg119
  z51 := Tryz.sizeOf119
  v51 := Tryz.zeroValue119
  t53 := Tryz.underlying121
  a53 := Tryz.isAgg121
  z53 := Tryz.sizeOf121
  v53 := Tryz.zeroValue121
  t131 := Tryz.underlying116
  a131 := Tryz.isAgg116
  z131 := Tryz.sizeOf116
  v131 := Tryz.zeroValue116
  t182 := Tryz.underlying110
  a182 := Tryz.isAgg110
  z182 := Tryz.sizeOf110
  v182 := Tryz.zeroValue110
  t183 := Tryz.underlying111
  a183 := Tryz.isAgg111
  z183 := Tryz.sizeOf111
  v183 := Tryz.zeroValue111
  t218 := Tryz.underlying123
  a218 := Tryz.isAgg123
  z218 := Tryz.sizeOf123
  v218 := Tryz.zeroValue123
  t222 := Tryz.underlying127
  a222 := Tryz.isAgg127
  z222 := Tryz.sizeOf127
  v222 := Tryz.zeroValue127
  t228 := Tryz.underlying129
  a228 := Tryz.isAgg129
  z228 := Tryz.sizeOf129
  v228 := Tryz.zeroValue129
  t229 := Tryz.underlying130
  a229 := Tryz.isAgg130
  z229 := Tryz.sizeOf130
  v229 := Tryz.zeroValue130 }
open Go.Sort Go.RowKit in
theorem slices_Sort_int (blk off cap : Nat) (zs : List Int) (w : World) (hH : Holds (Value.int .i64) w blk off zs.toArray) (hblk : blk < w.heap.size) (hsz : zs.length < 4611686018427387904) :
    Calls Tryz.prog 65 #[.slice (some ⟨blk, off, none⟩) zs.length cap] w fun e w' =>
      e = .returned (.tuple #[]) ∧ ∃ n os, w' = grow (putRow (Value.int .i64) (Sort.ahead w n) blk off (zs.mergeSort fun x y => decide (x ≤ y)).toArray) os := Any.slices_Sort_int lays189 blk off cap zs w hH hblk hsz
def laysNm220_ren : Go.Shelf.Ren := ⟨fun | 20 => 70 | n => n, fun | 22 => 25 | 3 => 3 | 4 => 4 | 0 => 0 | n => n, fun | n => n⟩
theorem laysNm220 : Go.Proofs.Lays2.n20 Tryz.prog laysNm220_ren := {
  mixed := by kernel_rfl
  f20 := Tryz.func70.trans (congrArg some (by kernel_rfl))
  t0 := Tryz.underlying0
  a0 := Tryz.isAgg0
  z0 := Tryz.sizeOf0
  v0 := Tryz.zeroValue0
  t3 := Tryz.underlying3
  a3 := Tryz.isAgg3
  z3 := Tryz.sizeOf3
  v3 := Tryz.zeroValue3
  t4 := Tryz.underlying4
  a4 := Tryz.isAgg4
  z4 := Tryz.sizeOf4
  v4 := Tryz.zeroValue4
  t22 := Tryz.underlying25
  a22 := Tryz.isAgg25
  z22 := Tryz.sizeOf25
  v22 := Tryz.zeroValue25
  i3 := by kernel_rfl }
open Go.RowKit Go.Lib Go.Sort in
theorem slices_Compact_int (blk off cap : Nat) (zs : List Int) (w : World) (hH : Holds (Value.int .i64) w blk off zs.toArray) (hsz : zs.length ≤ 9223372036854775807) (hcap : zs.length ≤ cap) :
    Calls Tryz.prog 70 #[.slice (some ⟨blk, off, none⟩) zs.length cap] w fun e w' => e = .returned (.slice (some ⟨blk, off, none⟩) (Lib.compact zs).length cap) ∧ ∃ q, w' = putRow (Value.int .i64) (Sort.ahead w q) blk off (Lib.compact zs ++ List.replicate (zs.length - (Lib.compact zs).length) 0).toArray := Any.slices_Compact_int laysNm220 blk off cap zs w hH hsz hcap
open Go.RowKit Go.Lib Go.Sort in
theorem slices_Compact_int_empty (a : Option Addr) (cap : Nat) (w : World) :
    Calls Tryz.prog 70 #[.slice a 0 cap] w fun e w' => e = .returned (.slice a 0 cap) ∧ w' = w := Any.slices_Compact_int_empty laysNm220 a cap w
open Go.RowKit Go.Sort in
theorem slices_Sort_int_none (p : Option Addr) (cap : Nat) (w : World) :
    Calls Tryz.prog 65 #[.slice p 0 cap] w fun e w' => e = .returned (.tuple #[]) ∧ w' = w := Any.slices_Sort_int_none lays189 p cap w

end Go.Proofs.YtbjgbgchagfokaaGreat

namespace Go.Proofs.YtbjgbgchagfokaaGreat
open Go Go.RowKit Go.Shelf Go.Sort

/-- A list in order. -/
def sortN (x : List Nat) : List Nat := x.mergeSort fun a b => decide (a ≤ b)
theorem sortN_len (x : List Nat) : (sortN x).length = x.length := by simp [sortN]
theorem sortN_mem (x : List Nat) (i : Nat) : i ∈ sortN x ↔ i ∈ x := (List.mergeSort_perm x _).mem_iff
theorem sortN_sorted (x : List Nat) : (sortN x).Pairwise (· ≤ ·) := by
  have := List.pairwise_mergeSort (le := fun a b : Nat => decide (a ≤ b)) (fun a b c h1 h2 => by simp only [decide_eq_true_eq] at *; omega) (fun a b => by simp; omega) x
  exact this.imp fun h => of_decide_eq_true h
/-- Its numbers as integers. -/
def intL (x : List Nat) : List Int := x.map fun i : Nat => (i : Int)
theorem natL_int (x : List Nat) : natL x = (intL x).map (Value.int .i64) := by simp [natL, intL]
theorem intL_sort (x : List Nat) : (intL x).mergeSort (fun a b => decide (a ≤ b)) = intL (sortN x) := by
  rw [sortN, intL, intL, List.map_mergeSort (s := fun a b : Int => decide (a ≤ b))]
  intro a _ b _
  simp

theorem own_holds {w : World} {B g cap : Nat} {x : List Nat} (h : Own w B x (.slice (some ⟨g, 0, none⟩) x.length cap)) : Holds (Value.int .i64) w g 0 (intL x).toArray := by
  rcases h.2 with ⟨hv, _⟩ | ⟨g', cap', cur, hv, hB, hg, h1, h2, h3, h4⟩
  · cases hv
  · cases hv
    exact holds_of_blockI hg (by simpa [intL, natL_int] using h4)

theorem sortI_c (B : Nat) (x : List Nat) (v : Value) (w : World) (h : Own w B x v) (hx : x.length ≤ 1048576) :
    Calls Tryz.prog 65 #[v] w fun e w' => e = .returned (.tuple #[]) ∧ Own w' B (sortN x) v ∧ w.grownBy w' v.ownBlock := by
  have h0 := h
  rcases h.2 with ⟨hv, hn⟩ | ⟨g, cap, cur, hv, hB, hg, h1, h2, h3, h4⟩
  · subst hv
    obtain rfl : x = [] := List.eq_nil_of_length_eq_zero hn
    refine (slices_Sort_int_none none 0 w).mono ?_
    rintro e w' ⟨rfl, rfl⟩
    exact ⟨rfl, by simpa [sortN] using h0, World.grownBy.refl _ _⟩
  · subst hv
    have hl : (intL x).length = x.length := by simp [intL]
    have hh := own_holds h0
    have hc := slices_Sort_int g 0 cap (intL x) w hh (Array.getElem?_eq_some_iff.1 hg).1 (by omega)
    rw [hl] at hc
    refine hc.mono ?_
    rintro e w' ⟨rfl, n, os, rfl⟩
    refine ⟨rfl, ?_, grownBy_sortedI _⟩
    have hr := ownsRow_sortedI (n := n) (os := os) (ss := intL x) (ts := intL (sortN x)) (by simp [intL, sortN_len]) hB hg (by omega) h2 h3
    rw [hl] at hr
    rw [intL_sort]
    unfold Own
    rw [sortN_len, natL_int]
    exact hr

theorem compactI_c (B : Nat) (x : List Nat) (v : Value) (w : World) (h : Own w B x v) (hx : x.length ≤ 1048576) :
    Calls Tryz.prog 70 #[v] w fun e w' => (∃ p cap, e = .returned (.slice p (Lib.compact (intL x)).length cap)) ∧ Below B w w' := by
  have h0 := h
  rcases h.2 with ⟨hv, hn⟩ | ⟨g, cap, cur, hv, hB, hg, h1, h2, h3, h4⟩
  · subst hv
    obtain rfl : x = [] := List.eq_nil_of_length_eq_zero hn
    refine (slices_Compact_int_empty none 0 w).mono ?_
    rintro e w' ⟨rfl, rfl⟩
    exact ⟨⟨none, 0, rfl⟩, Below.refl _ _⟩
  · subst hv
    have hl : (intL x).length = x.length := by simp [intL]
    have hh := own_holds h0
    have hc := slices_Compact_int g 0 cap (intL x) w hh (by omega) (by omega)
    rw [hl] at hc
    refine hc.mono ?_
    rintro e w' ⟨rfl, q, rfl⟩
    refine ⟨⟨_, _, rfl⟩, ?_⟩
    have hgr := grownBy_sortedI (w := w) (g := g) (n := q) (os := #[]) (Lib.compact (intL x) ++ List.replicate (x.length - (Lib.compact (intL x)).length) 0).toArray
    rw [grow_empty] at hgr
    exact ⟨hgr.os, hgr.tape, hgr.output, hgr.size, fun k hk => by
      by_cases hk2 : k < w.heap.size
      · exact hgr.block k hk2 (by simp; omega)
      · have := (Array.getElem?_eq_some_iff.1 hg).1; omega⟩

end Go.Proofs.YtbjgbgchagfokaaGreat

namespace Go.Proofs.YtbjgbgchagfokaaGreat
open Go Go.RowKit Go.Shelf Go.Sort Go.Lib

/-- The first ones of equal numbers. -/
def firstsL (g : Nat → Int) : Nat → List Int
  | 0 => []
  | k + 1 => firstsL g k ++ if hasB g (g k) k then [] else [g k]
theorem firstsL_len (g : Nat → Int) : ∀ n, (firstsL g n).length = differentN g n
  | 0 => rfl
  | n + 1 => by rw [firstsL, differentN, List.length_append, firstsL_len g n]; split <;> rfl
theorem firstsL_mem (g : Nat → Int) (v : Int) : ∀ n, v ∈ firstsL g n ↔ ∃ i, i < n ∧ g i = v
  | 0 => by simp [firstsL]
  | n + 1 => by
    rw [firstsL, List.mem_append, firstsL_mem g v n]
    constructor
    · rintro (⟨i, hi, e⟩ | h)
      · exact ⟨i, by omega, e⟩
      · split at h
        · cases h
        · exact ⟨n, by omega, (List.mem_singleton.1 h).symm⟩
    · rintro ⟨i, hi, e⟩
      by_cases hin : i = n
      · subst hin
        cases hb : hasB g (g i) i with
        | true =>
          obtain ⟨k, hk, e2⟩ := (hasB_iff g (g i) i).1 hb
          exact .inl ⟨k, hk, e2.trans e⟩
        | false => exact .inr (by simp [e])
      · exact .inl ⟨i, by omega, e⟩
theorem firstsL_nodup (g : Nat → Int) : ∀ n, (firstsL g n).Nodup
  | 0 => List.nodup_nil
  | n + 1 => by
    rw [firstsL]
    cases hb : hasB g (g n) n with
    | true => simpa using firstsL_nodup g n
    | false =>
      rw [if_neg (by simp)]
      refine List.nodup_append.2 ⟨firstsL_nodup g n, by simp, fun a ha b hb2 => ?_⟩
      rw [List.mem_singleton.1 hb2]
      intro e
      subst e
      obtain ⟨k, hk, e2⟩ := (firstsL_mem g _ n).1 ha
      have := (hasB_iff g (g n) n).2 ⟨k, hk, e2⟩
      rw [hb] at this
      cases this

theorem compact_up (d : Array Int) (hs : ∀ i j, i ≤ j → j < d.size → d[i]! ≤ d[j]!) : ∀ m, m ≤ d.size → (compactUpTo d m).Pairwise (· < ·) ∧ ∀ v, v ∈ compactUpTo d m ↔ ∃ j, j < m ∧ d[j]! = v
  | 0, _ => by simp [compactUpTo]
  | m + 1, hm => by
    obtain ⟨h1, h2⟩ := compact_up d hs m (by omega)
    rw [compactUpTo_succ]
    cases hk : keeps d m with
    | true =>
      rw [if_pos rfl]
      have hk' : m = 0 ∨ d[m]! ≠ d[m - 1]! := of_decide_eq_true hk
      refine ⟨List.pairwise_append.2 ⟨h1, by simp, fun a ha b hb => ?_⟩, fun v => ?_⟩
      · rw [List.mem_singleton.1 hb]
        obtain ⟨j, hj, rfl⟩ := (h2 a).1 ha
        have h3 := hs j (m - 1) (by omega) (by omega)
        have h4 := hs (m - 1) m (by omega) (by omega)
        have h5 : d[m]! ≠ d[m - 1]! := hk'.resolve_left (by omega)
        show d[j]! < d[m]!
        omega
      · rw [List.mem_append, h2 v, List.mem_singleton]
        constructor
        · rintro (⟨j, hj, e⟩ | rfl)
          · exact ⟨j, by omega, e⟩
          · exact ⟨m, by omega, rfl⟩
        · rintro ⟨j, hj, e⟩
          by_cases hjm : j = m
          · subst hjm; exact .inr e.symm
          · exact .inl ⟨j, by omega, e⟩
    | false =>
      rw [if_neg (by simp), List.append_nil]
      have hk' : ¬ (m = 0 ∨ d[m]! ≠ d[m - 1]!) := of_decide_eq_false hk
      refine ⟨h1, fun v => ?_⟩
      rw [h2 v]
      constructor
      · rintro ⟨j, hj, e⟩
        exact ⟨j, by omega, e⟩
      · rintro ⟨j, hj, e⟩
        by_cases hjm : j = m
        · subst hjm
          have h5 : d[j]! = d[j - 1]! := Classical.byContradiction fun h => hk' (.inr h)
          exact ⟨j - 1, by omega, by rw [← h5]; exact e⟩
        · exact ⟨j, by omega, e⟩

theorem compact_different (x : List Nat) : (compact (intL (sortN x))).length = differentN (fun i => ((x.getD i 0 : Nat) : Int)) x.length := by
  have hs : ∀ i j, i ≤ j → j < (intL (sortN x)).toArray.size → (intL (sortN x)).toArray[i]! ≤ (intL (sortN x)).toArray[j]! := fun i j hij hj => by
    have hj' : j < (sortN x).length := by simpa [intL] using hj
    have hget : ∀ k, k < (sortN x).length → (intL (sortN x)).toArray[k]! = ((sortN x)[k]?.getD 0 : Nat) := fun k hk => by simp [intL, hk]
    rw [hget i (by omega), hget j hj', List.getElem?_eq_getElem (by omega), List.getElem?_eq_getElem hj']
    simp only [Option.getD_some]
    by_cases e : i = j
    · subst e; exact Int.le_refl _
    · have := List.pairwise_iff_getElem.1 (sortN_sorted x) i j (by omega) hj' (by omega)
      omega
  have hc := compact_up (intL (sortN x)).toArray hs (intL (sortN x)).toArray.size (Nat.le_refl _)
  have hn : (compact (intL (sortN x))).Nodup := by
    have : (compact (intL (sortN x))).Pairwise (· < ·) := by simpa [compact] using hc.1
    exact this.imp fun h => by omega
  rw [← firstsL_len]
  refine ((List.perm_ext_iff_of_nodup hn (firstsL_nodup _ _)).2 fun v => ?_).length_eq
  rw [firstsL_mem]
  have h2 := hc.2 v
  have h3 : v ∈ compact (intL (sortN x)) ↔ ∃ j, j < (intL (sortN x)).toArray.size ∧ (intL (sortN x)).toArray[j]! = v := by simpa [compact] using h2
  rw [h3]
  constructor
  · rintro ⟨j, hj, e⟩
    have hj' : j < (intL (sortN x)).length := by simpa using hj
    have hm : v ∈ intL (sortN x) := by
      rw [← e]
      simp [hj']
    obtain ⟨i, hi, rfl⟩ := List.mem_map.1 hm
    obtain ⟨k, hk, e2⟩ := List.mem_iff_getElem.1 ((sortN_mem x i).1 hi)
    exact ⟨k, hk, by simp [List.getD, hk, e2]⟩
  · rintro ⟨i, hi, e⟩
    have hm : x[i] ∈ sortN x := (sortN_mem x _).2 (List.getElem_mem hi)
    obtain ⟨k, hk, e2⟩ := List.mem_iff_getElem.1 hm
    refine ⟨k, by simpa [intL] using hk, ?_⟩
    rw [← e]
    simp [intL, hk, e2, List.getD, hi]

end Go.Proofs.YtbjgbgchagfokaaGreat

namespace Go.Proofs.YtbjgbgchagfokaaGreat
open Go Go.RowKit Go.Shelf Go.Sort

theorem sortedI_c (gf : Nat) (lb : Array Value) (K : Nat → Prop) (x : List Nat) (w : World) (hx : x.length ≤ 1048576) (eg : ∀ args w, (callFunc gf args).run Tryz.prog w = .ok (.enter gf args) w) (hK : ∀ k, K k → k < w.heap.size)
    (hG : GivesV Tryz.prog gf #[] lb K x (fun _ i vs => vs = #[.int .i64 ((i : Nat) : Int)]) w) :
    Calls Tryz.prog 71 #[.func (.func gf) #[] lb] w fun e w' => ∃ v, e = .returned v ∧ Own w' w.heap.size (sortN x) v ∧ Below w.heap.size w w' := by
  have hc := appendSeqI_c gf lb K x w hx eg hK hG
  have HC := Lib.hid hc
  clear hc hG
  have hcol : Calls Tryz.prog 86 #[.func (.func gf) #[] lb] w fun e w' => ∃ v, e = .returned v ∧ Own w' w.heap.size x v ∧ Below w.heap.size w w' := by
    go_enter Tryz.func86, Tryz.ntmps86
    go_wp2_with fail
    refine HC.out.mono ?_
    rintro e w1 ⟨v, rfl, ho, hb⟩
    go_wp2_with fail
    go_ret
    exact ⟨v, rfl, ho, hb⟩
  have HCol := Lib.hid hcol
  clear hcol HC
  go_enter Tryz.func71, Tryz.ntmps71
  go_wp2_with fail
  refine HCol.out.mono ?_
  rintro e w1 ⟨v, rfl, ho, hb⟩
  go_wp2_with fail
  refine (sortI_c _ x v w1 ho hx).mono ?_
  rintro e w2 ⟨rfl, ho2, hg⟩
  have hb2 : Below w.heap.size w w2 := hb.grown hg hb.size fun k hk => by
    rcases ho.2 with ⟨hv, _⟩ | ⟨g, cap, cur, hv, hB, _⟩
    · subst hv; cases hk
    · subst hv; cases hk; exact hB
  go_wp2_with fail
  go_ret
  exact ⟨v, rfl, ho2, hb2⟩

set_option maxHeartbeats 4000000 in
theorem different_c (S M : Int) (a : Option Addr) (n cap : Nat) (l : Nat → Int) (p : Option Addr) (x : List Nat) (dcap : Nat) (w : World) (hL : Lst w x p dcap) (hx : x.length ≤ 1048576) :
    Calls Tryz.prog 42 #[planV S M a n cap l p x.length dcap] w fun e w' => e = .returned (.int .i64 (differentN (fun i => ((x.getD i 0 : Nat) : Int)) x.length : Nat)) ∧ Below w.heap.size w w' := by
  obtain ⟨W, hW⟩ : ∃ W, w.alloc (.cells (planRow S M a n cap l p x.length dcap) 56) = W := ⟨_, rfl⟩
  have hB : Below w.heap.size w W := by rw [← hW]; exact Below.alloc1 (Below.refl _ _) _ (Nat.le_refl _)
  have hR : RowIs W w.heap.size (planRow S M a n cap l p x.length dcap) 56 := by rw [← hW]; exact heap_new_at _ _ _ rfl
  have c15 : W.cell? ⟨w.heap.size, 15, none⟩ = some (.slice p x.length dcap) := hR.cell 15
  have hLW := hL.below hB
  have HL := Lib.hid hLW
  have HB := Lib.hid hB
  clear hR hLW hB hL
  simp only [planRow] at hW
  go_enter Tryz.func42, Tryz.ntmps42
  go_wp2_with fail
  refine (valuesI_c p x.length dcap W).mono ?_
  rintro e X ⟨rfl, hX⟩
  have hXb : Below W.heap.size W X := by rw [← hX]; exact Below.alloc1 (Below.refl _ _) _ (Nat.le_refl _)
  have hXr : RowIs X W.heap.size #[.slice p x.length dcap] 25 := by rw [← hX]; exact heap_new_at _ _ _ rfl
  have hXL := HL.out.below hXb
  have hG := valuesI_gives W.heap.size x p dcap X hXr hXL hx
  have hS := sortedI_c 87 #[.pointer (some ⟨W.heap.size, 0, none⟩)] (valK p x.length W.heap.size) x X hx (enters_of Tryz.func87 (by kernel_rfl) rfl)
    (fun k hk => by
      rcases hk with rfl | ⟨h0, off, rfl⟩
      · exact hXr.lt
      · obtain ⟨b', off', he, hbs, -⟩ := Cells.at hXL.cells 0 (by omega)
        cases he
        exact hbs) hG
  have HS := Lib.hid hS
  have hBX := bup HB.out hXb
  have HBX := Lib.hid hBX
  clear hX hXr hXb hXL hG hS hBX c15 hW
  go_wp2_with fail
  refine HS.out.mono ?_
  rintro e w1 ⟨v, rfl, ho, hb1⟩
  have hB1 := bup HBX.out hb1
  go_wp2_with fail
  refine (compactI_c _ (sortN x) v w1 ho (by rw [sortN_len]; exact hx)).mono ?_
  rintro e w2 ⟨⟨q, qc, rfl⟩, hb2⟩
  have hB2 : Below w.heap.size w w2 := hB1.trans (hb2.mono HBX.out.size)
  have hlen := compact_different x
  go_wp2_with fail
  go_ret
  exact ⟨by simp, hB2⟩

end Go.Proofs.YtbjgbgchagfokaaGreat

namespace Go.Proofs.YtbjgbgchagfokaaGreat
open Go Go.RowKit Go.Maps

/-- A place: a mould and a day. -/
structure P2 where
  (m d : Int)
abbrev placeV (p : P2) : Value := .agg #[.int .i64 p.m, .int .i64 p.d]

theorem laidP : laidOutB Tryz.prog = true := by kernel_rfl
theorem rowP : (94 : TypeId) < Tryz.prog.types.size := of_decide_eq_true (by kernel_rfl)
theorem wideP : (match Tryz.prog.underlying 94 with | some (.array _ _) | some (.struct _) => true | _ => false) = true := by rw [Tryz.underlying94]
set_option maxRecDepth 100000 in
theorem keyedP : Keyed Tryz.prog 94 := Keyed.of_law (deep_law_laid laidP (m := 2) (by omega) rowP (by kernel_rfl) wideP)
theorem keyTypeP : Tryz.prog.keyType 94 = true := by kernel_rfl
theorem cellsP : Tryz.prog.cellsOf 94 = 2 := by kernel_rfl
theorem cellsK : Tryz.prog.cellsOf 3 = 1 := by kernel_rfl
theorem sizeTypes : ∃ m, Tryz.prog.types.size = m + 1 := by
  have h := rowP
  revert h
  generalize Tryz.prog.types.size = k
  intro h
  cases k with
  | zero => exact absurd h (Nat.not_lt_zero _)
  | succ k => exact ⟨k, rfl⟩

def In64 (x : Int) : Prop := -9223372036854775808 ≤ x ∧ x ≤ 9223372036854775807
def P2.ok (p : P2) : Prop := In64 p.m ∧ In64 p.d
/-- A place as a key. -/
def keyL (p : P2) : Lit := .string (keyBytes [.int .i64 p.m, .int .i64 p.d])

theorem wf64 {x : Int} (h : In64 x) : (Lit.int .i64 x).wf = true := by
  simp [Lit.wf, IntKind.min, IntKind.max, IntKind.bits, IntKind.signed]
  exact h

theorem wf64_inv {x : Int} (h : (Lit.int .i64 x).wf = true) : In64 x := by
  simp [Lit.wf, IntKind.min, IntKind.max, IntKind.bits, IntKind.signed] at h
  exact h

theorem keyOf_place {p : P2} (h : p.ok) : keyOf Tryz.prog 94 (placeV p) = some (keyL p) := by
  obtain ⟨h0, h1⟩ := h
  have w0 := wf64 h0
  have w1 := wf64 h1
  obtain ⟨m, hm⟩ := sizeTypes
  unfold keyOf
  simp only [Tryz.underlying94]
  rw [if_pos (by simp [keyTypeP, Value.formed, Tryz.underlying94, cellsP]), hm]
  unfold Program.keyLits
  simp only [Tryz.underlying94, Value.cells]
  rw [if_pos (by rw [cellsP]; exact ⟨rfl, by simp⟩)]
  simp [Program.keyLits, Tryz.underlying3, cellsK, w0, w1, keyL]

theorem lits64 {m : Nat} {v : Value} {ls : List Lit} (h : Tryz.prog.keyLits m 3 [v] = some ls) : ∃ n, v = .int .i64 n ∧ In64 n ∧ ls = [.int .i64 n] := by
  cases m with
  | zero => cases h
  | succ m =>
    unfold Program.keyLits at h
    simp only [Tryz.underlying3] at h
    cases v <;> simp at h
    obtain ⟨⟨rfl, hw⟩, rfl⟩ := h
    exact ⟨_, rfl, wf64_inv hw, rfl⟩

set_option maxRecDepth 100000 in
theorem keyOf_inv {v : Value} {kl : Lit} (h : keyOf Tryz.prog 94 v = some kl) : ∃ p : P2, v = placeV p ∧ p.ok ∧ kl = keyL p := by
  obtain ⟨m, hm⟩ := sizeTypes
  unfold keyOf at h
  simp only [Tryz.underlying94] at h
  split at h
  case isFalse => cases h
  case isTrue hf =>
    simp only [keyTypeP, Bool.true_and] at hf
    rw [hm] at h
    cases v with
    | agg cs =>
      simp only [Value.formed, Tryz.underlying94, cellsP, beq_iff_eq] at hf
      obtain ⟨l⟩ := cs
      match l, hf with
      | [a, b], _ =>
        unfold Program.keyLits at h
        simp only [Tryz.underlying94, Value.cells] at h
        rw [if_pos (by rw [cellsP]; exact ⟨rfl, by simp⟩)] at h
        simp [cellsK] at h
        cases hA : Tryz.prog.keyLits (m + 1) 3 [a] with
        | none => simp [hA] at h
        | some la =>
          cases hB : Tryz.prog.keyLits (m + 1) 3 [b] with
          | none => simp [hA, hB] at h
          | some lb =>
            obtain ⟨n0, rfl, i0, rfl⟩ := lits64 hA
            obtain ⟨n1, rfl, i1, rfl⟩ := lits64 hB
            simp [hA, hB] at h
            exact ⟨⟨n0, n1⟩, rfl, ⟨i0, i1⟩, h.symm⟩
    | _ => simp [Value.formed, Tryz.underlying94] at hf

theorem P2.ext' {p q : P2} (h : placeV p = placeV q) : p = q := by
  cases p; cases q
  simp at h
  obtain ⟨h0, h1⟩ := h
  subst h0; subst h1
  rfl

theorem keyL_inj {p q : P2} (hp : p.ok) (hq : q.ok) (h : keyL p = keyL q) : p = q :=
  P2.ext' (keyedP.inj (keyOf_place hp) (by rw [h]; exact keyOf_place hq))

/-- The map in block b holds just the places of S, each with its value. -/
def Vals (w : World) (b N : Nat) (S : P2 → Prop) (val : P2 → Int) : Prop :=
  ∃ D : DataW Unit, w.ownsMap Tryz.prog 94 (plainElem Tryz.prog 3) b N D ∧ (∀ p, S p → p.ok) ∧ (∀ p, p.ok → (has D (keyL p) = true ↔ S p)) ∧ (∀ p, S p → In64 (val p) ∧ D.atKey (keyL p) (.lit (.int .i64 0)) = .lit (.int .i64 (val p)))

theorem Vals.below {w w' : World} {b N : Nat} {S : P2 → Prop} {val : P2 → Int} (h : Vals w b N S val) (hb : Below w.heap.size w w') : Vals w' b N S val := by
  obtain ⟨D, ⟨es, clock, hm, F, hs, hD⟩, h1⟩ := h
  exact ⟨D, ⟨es, clock, (hb.block b (Array.getElem?_eq_some_iff.1 hm).1).trans hm, F, hs, hD⟩, h1⟩

theorem Vals.lt {w : World} {b N : Nat} {S : P2 → Prop} {val : P2 → Int} (h : Vals w b N S val) : b < w.heap.size := by
  obtain ⟨D, h, _⟩ := h
  exact h.lt

theorem Vals.congr {w : World} {b N : Nat} {S S' : P2 → Prop} {val val' : P2 → Int} (h : Vals w b N S val) (hS : ∀ p, S p ↔ S' p) (hv : ∀ p, S p → val p = val' p) : Vals w b N S' val' := by
  have : S = S' := by funext p; exact propext (hS p)
  subst this
  obtain ⟨D, h0, h1, h2, h3⟩ := h
  exact ⟨D, h0, h1, h2, fun p hp => by rw [← hv p hp]; exact h3 p hp⟩

theorem vals_made (w : World) (val : P2 → Int) : Vals (w.alloc (.map #[] 0)) w.heap.size 0 (fun _ => False) val :=
  ⟨_, World.ownsMap_made w _ _ _, fun _ h => h.elim, fun p _ => ⟨fun h => by simp [has_eq] at h, fun h => h.elim⟩, fun _ h => h.elim⟩

/-- A place is put in, with a value. -/
theorem vals_put {D : DataW Unit} {S : P2 → Prop} {val : P2 → Int} {q : P2} {x : Int} (hm : IsMap D) (h1 : ∀ p, S p → p.ok) (h2 : ∀ p, p.ok → (has D (keyL p) = true ↔ S p)) (h3 : ∀ p, S p → In64 (val p) ∧ D.atKey (keyL p) (.lit (.int .i64 0)) = .lit (.int .i64 (val p))) (hq : q.ok) (hv : In64 x) (val' : P2 → Int) (hv1 : val' q = x) (hv2 : ∀ p, S p → p ≠ q → val' p = val p) :
    (∀ p, (S p ∨ p = q) → p.ok) ∧ (∀ p, p.ok → (has (D.put (keyL q) (.lit (.int .i64 x))) (keyL p) = true ↔ (S p ∨ p = q))) ∧
    (∀ p, (S p ∨ p = q) → In64 (val' p) ∧ (D.put (keyL q) (.lit (.int .i64 x))).atKey (keyL p) (.lit (.int .i64 0)) = .lit (.int .i64 (val' p))) := by
  refine ⟨?_, ?_, ?_⟩
  · rintro p (h | rfl)
    · exact h1 p h
    · exact hq
  · intro p hp
    by_cases e : p = q
    · subst e
      simp [has_put_same hm (keyedP.key (keyOf_place hq))]
    · have hne : keyL p ≠ keyL q := fun h => e (keyL_inj hp hq h)
      rw [has_put_other hne]
      simp [e, h2 p hp]
  · intro p hp
    by_cases e : p = q
    · subst e
      rw [hv1]
      exact ⟨hv, atKey_put_same hm (keyedP.key (keyOf_place hq)) _ _⟩
    · have hS : S p := hp.resolve_right e
      have hne : keyL p ≠ keyL q := fun h => e (keyL_inj (h1 p hS) hq h)
      rw [atKey_put_other hne, hv2 p hS e]
      exact h3 p hS

/-- A place is struck. -/
theorem vals_del {D : DataW Unit} {S : P2 → Prop} {val : P2 → Int} {q : P2} (h1 : ∀ p, S p → p.ok) (h2 : ∀ p, p.ok → (has D (keyL p) = true ↔ S p)) (h3 : ∀ p, S p → In64 (val p) ∧ D.atKey (keyL p) (.lit (.int .i64 0)) = .lit (.int .i64 (val p))) (hq : q.ok) :
    (∀ p, (S p ∧ p ≠ q) → p.ok) ∧ (∀ p, p.ok → (has (D.del (keyL q)) (keyL p) = true ↔ (S p ∧ p ≠ q))) ∧
    (∀ p, (S p ∧ p ≠ q) → In64 (val p) ∧ (D.del (keyL q)).atKey (keyL p) (.lit (.int .i64 0)) = .lit (.int .i64 (val p))) := by
  refine ⟨fun p hp => h1 p hp.1, fun p hp => ?_, fun p hp => ?_⟩
  · by_cases e : p = q
    · subst e; simp [has_del_same]
    · have hne : keyL p ≠ keyL q := fun h => e (keyL_inj hp hq h)
      rw [has_del_other hne, h2 p hp]
      simp [e]
  · have hne : keyL p ≠ keyL q := fun h => hp.2 (keyL_inj (h1 p hp.1) hq h)
    rw [atKey_del_other hne]
    exact h3 p hp.1

theorem left_cut {left : Lit → Bool} {p q : P2} (hp : p.ok) (hq : q.ok) : (left (keyL p) && !(keyL p).sameKey (keyL q)) = true ↔ (left (keyL p) = true ∧ p ≠ q) := by
  by_cases e : p = q
  · subst e
    simp [WideAt.sameKey_self (keyedP.key (keyOf_place hp))]
  · have hne : keyL p ≠ keyL q := fun h => e (keyL_inj hp hq h)
    simp [sameKey_ne hne, e]

end Go.Proofs.YtbjgbgchagfokaaGreat

namespace Go.Proofs.YtbjgbgchagfokaaGreat
open Go Go.RowKit Go.Shelf

set_option maxHeartbeats 4000000 in
theorem place_c (S M : Int) (a : Option Addr) (n cap : Nat) (f : Nat → W2) (l : Nat → Int) (da : Option Addr) (k dcap : Nat) (g : Nat → Int) (i : Nat) (w : World) (hf : Wants w a n f) (hd : Ints w da k g) (hi : i < n) (hk : i < k) :
    Calls Tryz.prog 69 #[planV S M a n cap l da k dcap, .int .i64 i] w fun e w' => e = .returned (placeV ⟨(f i).m, g i⟩) ∧ Below w.heap.size w w' := by
  obtain ⟨W, hW⟩ : ∃ W, (w.alloc (.cells (planRow S M a n cap l da k dcap) 56)).alloc (.cells #[.int .i64 0, .int .i64 0] 94) = W := ⟨_, rfl⟩
  have hB : Below w.heap.size w W := by rw [← hW]; exact Below.alloc1 (Below.alloc1 (Below.refl _ _) _ (Nat.le_refl _)) _ (Nat.le_refl _)
  have hR : RowIs W w.heap.size (planRow S M a n cap l da k dcap) 56 := by rw [← hW]; exact RowIs.alloc (heap_new_at _ _ _ rfl) _
  have hP : RowIs W (w.heap.size + 1) #[.int .i64 0, .int .i64 0] 94 := by rw [← hW]; exact heap_new_at _ _ _ (by simp)
  have c2 : W.cell? ⟨w.heap.size, 2, none⟩ = some (.slice a n cap) := hR.cell 2
  have c15 : W.cell? ⟨w.heap.size, 15, none⟩ = some (.slice da k dcap) := hR.cell 15
  have cz := hR.lt
  obtain ⟨b, off, rfl, hbs, w0, w1⟩ := Wants.at (hf.below hB) i hi
  obtain ⟨b2, off2, rfl, hbs2, hc⟩ := Cells.at (Cells.below hd hB) i hk
  have ci : W.cell? ⟨b2, off2 + i, none⟩ = some (.int .i64 (g i)) := hc i hk
  obtain ⟨x, hx⟩ : ∃ x, (f i).m = x := ⟨_, rfl⟩
  obtain ⟨y, hy⟩ : ∃ y, g i = y := ⟨_, rfl⟩
  rw [hx] at w1 ⊢
  rw [hy] at ci ⊢
  have HP := Lib.hid hP
  have HB := Lib.hid hB
  clear hR hP hB hc hf hd w0 hx hy
  simp only [planRow] at hW
  have hlc := fun (x : Later W) => later_cell x
  go_enter Tryz.func69, Tryz.ntmps69
  go_wp2_with fail
  refine wp_region_later_tail 14 (by kernel_rfl) (by kernel_rfl) ?_
  simp only [List.take_succ_cons, List.take_zero, List.drop_succ_cons, List.drop_zero]
  repeat (go_big_quiet_step (fail))
  refine wpQuiet_nil ?_
  clear hlc c2 c15 w1 ci
  rintro ⟨A7, hb7⟩
  have hP7 : RowIs A7 (w.heap.size + 1) #[.int .i64 0, .int .i64 0] 94 := HP.out.below hb7
  have p0 : A7.cell? ⟨w.heap.size + 1, 0, none⟩ = some (.int .i64 0) := hP7.cell 0
  have p1 : A7.cell? ⟨w.heap.size + 1, 1, none⟩ = some (.int .i64 0) := hP7.cell 1
  have f0 := hP7.frozen 0
  have f1 := hP7.frozen 1
  have Hb7 := Lib.hid hb7
  have HP7 := Lib.hid hP7
  dsimp only
  clear hb7 hP7
  go_wp2_with (fail)
  obtain ⟨X, hX⟩ : ∃ X, (A7.setCell ⟨w.heap.size + 1, 0, none⟩ (.int .i64 x)).setCell ⟨w.heap.size + 1, 1, none⟩ (.int .i64 y) = X := ⟨_, rfl⟩
  have hXr : RowIs X (w.heap.size + 1) #[.int .i64 x, .int .i64 y] 94 := by rw [← hX]; exact RowIs.set (RowIs.set HP7.out 0 (.int .i64 x)) 1 (.int .i64 y)
  have hXb : Below w.heap.size w X := by
    rw [← hX]
    exact ((HB.out.trans (Hb7.out.mono HB.out.size)).setCell (p := ⟨w.heap.size + 1, 0, none⟩) (by show w.heap.size ≤ w.heap.size + 1; omega) _).setCell (p := ⟨w.heap.size + 1, 1, none⟩) (by show w.heap.size ≤ w.heap.size + 1; omega) _
  rw [hX]
  have x0 : X.cell? ⟨w.heap.size + 1, 0, none⟩ = some (.int .i64 x) := hXr.cell 0
  have x1 : X.cell? ⟨w.heap.size + 1, 1, none⟩ = some (.int .i64 y) := hXr.cell 1
  clear p0 p1 f0 f1 hX
  refine bodyPost_ret (v := placeV ⟨x, y⟩) (by simp [results, Tryz.results69, go_sem, x0, x1]) rfl ⟨rfl, hXb⟩

end Go.Proofs.YtbjgbgchagfokaaGreat
