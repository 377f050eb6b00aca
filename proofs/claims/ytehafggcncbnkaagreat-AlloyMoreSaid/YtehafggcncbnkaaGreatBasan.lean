/- Ranges over an iterator that gives a list not known beforehand; a round's variable is a box of its own. It imports nothing of the program. -/
import Derived.RangeFuncFrom
import Derived.RangeFuncGives
import Derived.Test.YtehafggcncbnkaaGreatBasah
import Derived.Shelf.AbstractIn
import Derived.Shelf.SlIter.Collect
import Derived.WalkKit
import Derived.OwnWalkIn
import Derived.TacticsInMore
import Derived.Test.YtehafggcncbnkaaGreatProg
import Derived.Test.YtehafggcncbnkaaGreatBasaa
import Derived.Test.YtehafggcncbnkaaGreatBasag
import Derived.RangeFuncBound
import Derived.Shelf.Abstract
import Derived.Shelf.RegionOpen
import Derived.LoopNIn
import Derived.LoopIn
import Derived.Shelf.SlSortCmp.WholeK
import Derived.Test.YtehafggcncbnkaaGreatBasam
import Derived.Test.YtehafggcncbnkaaGreatBasak
import Derived.Deep.QuietTactic
import Derived.Test.YtehafggcncbnkaaGreatBasal
namespace Go.Proofs.YtehafggcncbnkaaGreat
open Go Go.RowKit

/-- How the body of a round is left. -/
def goesOn {α : Type} (I : List α → World → Prop) (xs : List α) (A : World) : Exit → Act → World → Prop
  | .normal, _, B => KeepsOthers A B ∧ I xs B
  | _, _, _ => False

theorem wpIn_rangeG {α : Type} {n : Nat} {P : Program} {g : Operand} {ps : Array Tmp} {assign body : Code} {Q : Exit → Act → World → Prop} {a : Act} {w : World} {gf : Nat} {lb : Array Value} {enc : α → Value} {S : List α → Prop} {N : Nat}
    (hg : a.eval g = .func (.func gf) #[] lb) (eg : ∀ args w, (callFunc gf args).run P w = .ok (.enter gf args) w)
    (hseq : SeqGives Fence.wide 1 P gf lb enc S N w) (hps : ps.size = 1)
    (I : List α → World → Prop) (hI : OwnFrom w.heap.size I) (h0 : I [] w)
    (Ax : α → Act → World → Prop) (hAx : ∀ x a' A o, w.heap.size + 2 ≤ A.heap.size → Ax x a' A → Ax x a' (A.putObj (w.heap.size + 1) o))
    (hassign : ∀ (l : Nat) (x : α) (A : World) (T : Act → World → Prop), w.heap.size + 2 ≤ A.heap.size → (∀ a' A', A.grownBy A' none → Ax x a' A' → T a' A') →
      assign.wpIn (Fence.wide.inRound l) n P (Exit.then T (fun _ _ _ => False)) { tmps := (ps.zip #[enc x]).foldl (fun t (p, v) => t.setIfInBounds p v) a.tmps, defers := [] } A)
    (hbody : ∀ (l : Nat) (pre : List α) (x : α) (a' : Act) (A : World), w.heap.size + 2 ≤ A.heap.size → I pre A → Ax x a' A → pre.length < N → body.wpIn (Fence.wide.inRound l) n P (goesOn I (pre ++ [x]) A) a' A)
    (hdone : ∀ (L : List α) (B : World), w.heap.size + 2 ≤ B.heap.size → S L → I L B → B.heap[w.heap.size]? = some (.deferred (some [])) → Q .normal { a with defers := { target := .collected w.heap.size, args := #[] } :: a.defers } B) :
    (Code.rangeFunc g ps assign body).wpIn Fence.wide n P Q a w := by
  refine wpIn_rangeFunc fun fn _ => ?_
  obtain ⟨b, hb⟩ : ∃ b, w.heap.size = b := ⟨_, rfl⟩
  obtain ⟨record, hrec⟩ : ∃ record : LoopState → Option Code → Loop, record = fun st pe => { state := st, pending := pe, fn, tmps := a.tmps, params := ps, assign, body, defers := b } := ⟨_, rfl⟩
  obtain ⟨W, hW⟩ : ∃ W, (w.alloc (.deferred (some []))).alloc (.loop (record .ready none)) = W := ⟨_, rfl⟩
  have hWl : W.heap[b + 1]? = some (.loop (record .ready none)) := by
    rw [← hW, ← hb]
    have := World.alloc_heap_new (w.alloc (.deferred (some []))) (.loop (record .ready none))
    rwa [World.size_alloc] at this
  have hWd : W.heap[b]? = some (.deferred (some [])) := by
    rw [← hW, ← hb]
    exact (Below.heap_alloc _ _ _ (by simp)).trans (World.alloc_heap_new w _)
  have hWz : W.heap.size = b + 2 := by rw [← hW]; simp [hb]
  have hWb : Below w.heap.size w W := by
    rw [← hW]
    exact ((Below.refl _ w).alloc (Nat.le_refl _) _).alloc (by simp) _
  have hWI : I [] W := by rw [← hW]; exact hI.alloc _ (hI.alloc _ h0)
  rw [hb] at hI hAx hassign hbody hdone
  let J : List α → World → Prop := fun k A => I k A ∧ A.heap[b + 1]? = some (.loop (record .ready none)) ∧ A.heap[b]? = some (.deferred (some [])) ∧ b + 2 ≤ A.heap.size
  refine ⟨b + 1, [{ target := .collected b, args := #[] }], W, { target := .fn (.func gf) lb, args := #[.func (.yield (b + 1)) #[] #[]] }, W, gf, #[.func (.yield (b + 1)) #[] #[]] ++ lb, W, ?_, ?_, fun _ _ => trivial, ?_, fun h => by simp [Fence.wide] at h, ?_⟩
  · rw [← hW, hrec, ← hb]
    exact run_enterLoop_outer _ _ _ _ _
  · simp only [resolve, hg]
    simp [go_sem]
  · simp [invoke, go_sem, eg]
  refine callsIn_wide.2 ((callsIn_wide.1 (hseq (b + 1) J W hWb ?_ ?_ ⟨hWI, hWl, hWd, by omega⟩)).mono ?_)
  · rintro k A B row ⟨h1, h2, h3, h4⟩ hAB hr
    have hw : ∀ r, row = some r → ∃ o : Obj, A.heap[r]? = some o ∧ o.isWalk = true := fun r e => (hr r e).2
    exact ⟨hI k A B row h1 hAB (fun r e => by obtain ⟨q, o, ho, hw⟩ := hr r e; exact ⟨by omega, o, ho, Obj.not_cells_of_walk hw⟩), (grownBy_keeps hAB hw h2 rfl).trans h2, (grownBy_keeps hAB hw h3 rfl).trans h3, Nat.le_trans h4 hAB.size⟩
  · rintro pre x A ⟨h1, h2, h3, h4⟩ hlen
    have hy := run_yield (P := P) (args := #[enc x]) h2 (by rw [hrec]; simp [hps])
    rw [hrec] at hy
    refine ⟨fn, _, assign, body, hy, round_any (n := n) rfl (roundIn_of_wpIn trivial (hassign _ x A _ h4 ?_))⟩
    intro a' A' hAA hax
    have hno : ∀ r, (none : Option Nat) = some r → ∃ o : Obj, A.heap[r]? = some o ∧ o.isWalk = true := fun r e => by cases e
    have hz' := hAA.size
    have h2' : A'.heap[b + 1]? = some (.loop (record .ready none)) := (grownBy_keeps hAA hno h2 rfl).trans h2
    have h3' : A'.heap[b]? = some (.deferred (some [])) := (grownBy_keeps hAA hno h3 rfl).trans h3
    have h1' : I pre A' := hI pre A A' none h1 hAA (fun r e => by cases e)
    refine ⟨_, run_beginRound h2' (by rw [hrec]), ?_⟩
    obtain ⟨C, hC⟩ : ∃ C, A'.putObj (b + 1) (.loop { record .ready none with state := .busy }) = C := ⟨_, rfl⟩
    have hC2 : C.heap[b + 1]? = some (.loop { record .ready none with state := .busy }) := by rw [← hC]; exact World.putObj_heap_same (by omega)
    have hC3 : C.heap[b]? = some (.deferred (some [])) := by rw [← hC]; exact (World.putObj_heap_other (by omega)).trans h3'
    have hCz : C.heap.size = A'.heap.size := by rw [← hC]; simp
    have hCI : I pre C := by rw [← hC]; exact hI.putObj _ h1' (by omega) h2' rfl
    have hCx : Ax x a' C := by rw [← hC]; exact hAx x a' A' _ (by omega) hax
    have hAC : KeepsWalks A C := by
      rw [← hC]
      exact (KeepsWalks.of_grownBy hAA (fun j o e => by cases e)).trans (KeepsWalks.putObj _ h2' rfl)
    rw [hC]
    refine wpIn_mono (hbody _ pre x a' C (by omega) hCI hCx hlen) ?_
    intro e a3 B hp
    cases e with
    | normal =>
      obtain ⟨hs, hi⟩ := hp
      have g2 := hs.same _ _ hC2 rfl
      have g3 := hs.same _ _ hC3 rfl
      have hBz := hs.size
      have hr := run_endRound (P := P) none g2
      rw [hrec] at hr
      refine ⟨_, _, hr, rfl, ⟨hI.putObj _ hi (by omega) g2 rfl, ?_, (World.putObj_heap_other (by omega)).trans g3, by simp; omega⟩, (hAC.trans hs.walks).trans (KeepsWalks.putObj _ g2 rfl)⟩
      rw [World.putObj_heap_same (by omega), hrec]
      rfl
    | ret => exact hp.elim
    | exit id => exact hp.elim
    | goto t => exact hp.elim
    | panic ch => exact hp.elim
    | outgrown => exact hp.elim
  · rintro e B ⟨⟨v, rfl⟩, L, hS, h1, h2, h3, h4⟩
    refine ⟨none, _, (by have := run_endLoop (P := P) h2 (by rw [hrec]; simp); rw [hrec] at this; exact this), ?_⟩
    have := hdone L (B.putObj (b + 1) (.loop (record .exhausted none))) (by simp; omega) hS (hI.putObj _ h1 (by omega) h2 rfl) ((World.putObj_heap_other (by omega)).trans h3)
    rw [hrec] at this
    exact this

end Go.Proofs.YtehafggcncbnkaaGreat

namespace Go.Proofs.YtehafggcncbnkaaGreat
open Go Go.RowKit Go.Shelf
attribute [local go_sem] Oper.semAt_some

def prfCells (p : P4) : List Value := [.int .i64 p.d, .int .i64 p.b, .int .i64 p.l, .int .i64 p.c]

theorem infoPrf : (Tryz.prog.info? 45).map (fun i => (i.zero, i.size, i.bytes)) = some (some (.agg #[.int .i64 0, .int .i64 0, .int .i64 0, .int .i64 0]), 4, 32) := by kernel_rfl

theorem ownsRow_own {W W' : World} {row : Option Nat} {base : Nat} {e : TypeId} {size : Nat} {v : Value} {k : Nat} {xs : List Value} (h : W.ownsRow base e size v k xs) (hg : W.grownBy W' row)
    (hrow : ∀ r, row = some r → ∃ o : Obj, W.heap[r]? = some o ∧ o.isCells = false) : W'.ownsRow base e size v k xs := by
  refine h.kept hg ?_
  rcases h.2 with ⟨rfl, _⟩ | ⟨g, cap, cur, rfl, _, hgb, _⟩
  · exact .inl rfl
  · refine .inr fun e' => ?_
    obtain ⟨o, ho, hw⟩ := hrow g (by simpa [Value.ownBlock] using e'.symm)
    rw [hgb] at ho; cases ho; cases hw

theorem row_form {w : World} {base : Nat} {e : TypeId} {size n : Nat} {v : Value} {xs : List Value} (h : w.ownsRow base e size v (n + 1) xs) : ∃ g cap, v = .slice (some ⟨g, 0, none⟩) (n + 1) cap ∧ g < w.heap.size := by
  rcases h.2 with ⟨_, h0⟩ | ⟨g, cap, cur, hv, hb, hg, _⟩
  · omega
  · exact ⟨g, cap, hv, (Array.getElem?_eq_some_iff.1 hg).1⟩

theorem row_box {w : World} {base : Nat} {e t : TypeId} {size n b : Nat} {v : Value} {xs : List Value} {cs : Array Value} (h : w.ownsRow base e size v n xs) (hb : RowIs w b cs t) (hne : t ≠ e := by decide) : some b ≠ v.ownBlock := by
  intro e'
  rcases h.2 with ⟨rfl, _⟩ | ⟨g, cap, cur, rfl, _, hgb, _⟩
  · simp [Value.ownBlock] at e'
  · have : b = g := by simpa [Value.ownBlock] using e'
    subst this
    rw [hb] at hgb
    cases hgb
    exact hne rfl

theorem row_cells {w : World} {base : Nat} {e : TypeId} {size n : Nat} {v : Value} {xs : List Value} (h : w.ownsRow base e size v n xs) (j : Nat) (o : Obj) (hj : v.ownBlock = some j) (ho : w.heap[j]? = some o) : o.isCells = true := by
  rcases h.2 with ⟨rfl, _⟩ | ⟨g, cap, cur, rfl, _, hgb, _⟩
  · simp [Value.ownBlock] at hj
  · have : g = j := by simpa [Value.ownBlock] using hj
    subst this
    rw [hgb] at ho
    cases ho
    rfl

/-- What lies in the box of the slice that is being made. -/
def Making (w0 : World) (Bs : Nat) (pre : List P4) (A : World) : Prop :=
  (∃ v, RowIs A Bs #[v] 154 ∧ A.ownsRow w0.heap.size 45 4 v pre.length (pre.flatMap prfCells)) ∧ Below w0.heap.size w0 A

theorem making_own (w0 : World) (Bs B : Nat) (hB : w0.heap.size ≤ B) : OwnFrom B (Making w0 Bs) := by
  rintro s W W' row ⟨⟨v, hv, hr⟩, hb⟩ hg hrow
  have hrow' : ∀ r, row = some r → ∃ o : Obj, W.heap[r]? = some o ∧ o.isCells = false := fun r e => (hrow r e).2
  exact ⟨⟨v, (grownBy_keeps_cells hg hrow' hv rfl).trans hv, ownsRow_own hr hg hrow'⟩, hb.grown hg hb.size (fun k e => Nat.le_trans hB (hrow k e).1)⟩

set_option maxRecDepth 100000 in
set_option maxHeartbeats 4000000 in
theorem appendSeq_c (gf : Nat) (lb : Array Value) (S : List P4 → Prop) (N : Nat) (w : World) (hN : N ≤ 1048576) (eg : ∀ args w, (callFunc gf args).run Tryz.prog w = .ok (.enter gf args) w) (hseq : SeqGives Fence.wide 1 Tryz.prog gf lb proofV S N w) :
    Calls Tryz.prog 127 #[.slice none 0 0, .func (.func gf) #[] lb] w fun e w' => ∃ v ss, e = .returned v ∧ S ss ∧ w'.ownsRow w.heap.size 45 4 v ss.length (ss.flatMap prfCells) ∧ Below w.heap.size w w' := by
  obtain ⟨W0, hW0⟩ : ∃ W0, w.alloc (.cells #[.slice none 0 0] 154) = W0 := ⟨_, rfl⟩
  have hB0 : Below w.heap.size w W0 := by rw [← hW0]; exact Below.alloc1 (Below.refl _ _) _ (Nat.le_refl _)
  have hr0 : RowIs W0 w.heap.size #[.slice none 0 0] 154 := by rw [← hW0]; exact heap_new_at _ _ _ rfl
  have hz0 : W0.heap.size = w.heap.size + 1 := by rw [← hW0]; simp
  have hs0 := hseq.later hB0
  have hM0 : Making w w.heap.size [] W0 := ⟨⟨_, hr0, World.ownsRow_nil _ _ _ _⟩, hB0⟩
  have HM := Lib.hid hM0
  have HS := Lib.hid hs0
  obtain ⟨i0, hi, hi0, hi1, hi2⟩ := info_parts infoPrf
  clear hseq hr0 hs0 hM0 hB0
  refine (callsIn_wide (n := 1)).1 ?_
  refine callsIn_of_wp_marks Tryz.func127 rfl trivial ?_ rfl
  simp only [Tryz.ntmps127, List.size_toArray, List.length_cons, List.length_nil, Nat.reduceAdd, Nat.reduceSub, Array.replicate_succ, Array.replicate_zero, List.push_toArray, List.append_toArray, List.nil_append, List.cons_append]
  gi_wp2_with fail
  clear hW0
  refine wpIn_rangeG (gf := gf) (lb := lb) rfl eg HS.out rfl (Making w w.heap.size) (making_own _ _ _ (by omega)) HM.out
    (fun x a' A => ∃ Bx, W0.heap.size + 2 ≤ Bx ∧ RowIs A Bx #[.int .i64 x.d, .int .i64 x.b, .int .i64 x.l, .int .i64 x.c] 45 ∧
      a' = { tmps := #[.slice none 0 0, .func (.func gf) #[] lb, .pointer (some ⟨w.heap.size, 0, none⟩), undef, .slice none 0 0, .pointer (some ⟨Bx, 0, none⟩), .func (.func gf) #[] lb, proofV x, undef, undef, undef, undef, undef], defers := [] })
    (fun x a' A o hA h => by
      obtain ⟨Bx, h1, h2, h3⟩ := h
      exact ⟨Bx, h1, (World.putObj_heap_other (by omega)).trans h2, h3⟩)
    ?assign ?body ?done
  case assign =>
    intro lx x A T hA hT
    gi_wp2
    exact hT _ _ (World.grownBy_alloc A _ none) ⟨A.heap.size, hA, heap_new_at _ _ _ rfl, rfl⟩
  case body =>
    rintro lx pre x a' A hA ⟨⟨v, hv, hrow⟩, hB⟩ ⟨Bx, hBx, hx, rfl⟩ hlen
    have v0 : A.cell? ⟨w.heap.size, 0, none⟩ = some v := hv.cell 0
    have vz : w.heap.size < A.heap.size := (Array.getElem?_eq_some_iff.1 hv).1
    obtain ⟨d0, d1, d2, d3, dz⟩ := prow hx
    have Hv := Lib.hid hv
    have HB := Lib.hid hB
    clear hv hB hx HM HS
    gi_wp2_with (first
      | (gi_at_builtin; refine wpListIn_append_own _ rfl _ _ 154 rfl w.heap.size 45 i0 (.agg #[.int .i64 0, .int .i64 0, .int .i64 0, .int .i64 0]) 4 32 Tryz.underlying154 hi hi0 hi1 hi2 rfl (by decide) _ _ _ rfl (hrow.alloc _) ⟨A.heap.size, 0, none⟩ 1 1 (prfCells x) rfl rfl (World.news_of_block (cs := #[.int .i64 x.d, .int .i64 x.b, .int .i64 x.l, .int .i64 x.c]) (t := 45) (fr := (0, 0)) (heap_new_at _ _ _ rfl)) (by simp [Value.oneCell', prfCells]) (by unfold maxLen; omega) (by omega) (by have := HB.out.size; simp; omega) ?_; intro v' w3 hown3 hg3 hnil3; obtain ⟨g', cap', rfl, hgl⟩ := row_form hown3; have hv3 : RowIs w3 w.heap.size #[v] 154 := (hg3.block _ (by simp; omega) (row_box hrow Hv.out)).trans (RowIs.alloc Hv.out _); have v3 : w3.cell? ⟨w.heap.size, 0, none⟩ = some v := RowIs.cell hv3 0; have z3 : w3.frozen? ⟨w.heap.size, 0, none⟩ = false := RowIs.frozen hv3 0; have y3 : w.heap.size < w3.heap.size := (Array.getElem?_eq_some_iff.1 hv3).1; have Hv3 := Lib.hid hv3; clear hv3)
      | fail)
    have hg4 : w3.grownBy (w3.setCell ⟨w.heap.size, 0, none⟩ (.slice (some ⟨g', 0, none⟩) (pre.length + 1) cap')) (some w.heap.size) := grownBy_setCell0_a _ _ _
    have hb3 : Below w.heap.size w w3 := (HB.out.alloc HB.out.size _).grown hg3 (by have := HB.out.size; simp; omega) (fun k e => (hrow.lt k e).1)
    refine ⟨?_, ⟨_, Hv3.out.set 0 _, ?_⟩, hb3.setCell (p := ⟨w.heap.size, 0, none⟩) (Nat.le_refl _) _⟩
    · refine ((KeepsOthers.alloc A _).trans (KeepsOthers.of_grownBy hg3 ?_)).trans (KeepsOthers.setCell _ _ _)
      intro j o hj ho
      exact row_cells (hrow.alloc _) j o hj ho
    · have := hown3.kept hg4 (ownsRow_ne_a hown3 Hv3.out (fun cur e => by cases e))
      simpa [List.flatMap_append] using this
  case done =>
    rintro L B hBz hS ⟨⟨v, hv, hrow⟩, hB⟩ hK
    have v0 : B.cell? ⟨w.heap.size, 0, none⟩ = some v := hv.cell 0
    have vz : w.heap.size < B.heap.size := (Array.getElem?_eq_some_iff.1 hv).1
    have Hv := Lib.hid hv
    have HK := Lib.hid hK
    clear hv hK
    dsimp only
    gi_wp2_with fail
    refine ⟨by simp, .inl ⟨_, _, rfl, run_takeDeferred HK.out, ?_⟩⟩
    exact ⟨_, results_tmp rfl _ _ _, v, L, rfl, hS, ownsRow_own hrow (grownBy_putObj' _ _ _) (fun r e => by cases e; exact ⟨_, HK.out, rfl⟩), hB.trans (below_put _ (by omega))⟩

end Go.Proofs.YtehafggcncbnkaaGreat

namespace Go.Proofs.YtehafggcncbnkaaGreat
open Go Go.RowKit Go.Shelf Go.Sort
attribute [local go_sem] Oper.semAt_some

instance inhabitedP4 : Inhabited P4 := ⟨zeroP⟩

/-- A row of proofs. -/
def PrfRow (w : World) (g : Nat) (L : List P4) : Prop := g < w.heap.size ∧ ∀ i (h : i < L.length), w.cell? ⟨g, i * 4, none⟩ = some (.int .i64 L[i].d) ∧ w.cell? ⟨g, i * 4 + 1, none⟩ = some (.int .i64 L[i].b) ∧ w.cell? ⟨g, i * 4 + 2, none⟩ = some (.int .i64 L[i].l) ∧ w.cell? ⟨g, i * 4 + 3, none⟩ = some (.int .i64 L[i].c)

theorem flat_get : ∀ (ss : List P4) (i c : Nat) (hi : i < ss.length), c < 4 → (ss.flatMap prfCells)[i * 4 + c]? = (prfCells ss[i])[c]?
  | [], i, _, hi, _ => absurd hi (Nat.not_lt_zero _)
  | x :: r, 0, c, _, hc => by
    rw [List.flatMap_cons, List.getElem?_append_left (by simp [prfCells]; omega)]
    simp
  | x :: r, i + 1, c, hi, hc => by
    rw [List.flatMap_cons, List.getElem?_append_right (by simp [prfCells]; omega)]
    have := flat_get r i c (by simpa using hi) hc
    rw [show (i + 1) * 4 + c - (prfCells x).length = i * 4 + c by simp [prfCells]; omega, this]
    simp

theorem holds_of_own {w : World} {base g n cap : Nat} {ss : List P4} (hn : n = ss.length) (h : w.ownsRow base 45 4 (.slice (some ⟨g, 0, none⟩) n cap) n (ss.flatMap prfCells)) : HoldsK prfCells 4 w g 0 ss.toArray := by
  intro j hj
  rw [size_flatK] at hj
  simp only [List.size_toArray] at hj
  have h1 := h.cellAt j (by rw [hn]; exact hj)
  have h2 := h.frozenAt j
  rw [Nat.zero_add]
  refine ⟨?_, h2⟩
  rw [h1, get_flatK _ _ _ _ (by simpa using hj)]
  have hd : j / 4 < ss.length := by omega
  have hm : j % 4 < 4 := Nat.mod_lt _ (by decide)
  have := flat_get ss (j / 4) (j % 4) hd hm
  rw [show j / 4 * 4 + j % 4 = j by omega] at this
  rw [this]
  have e : (ss.toArray[j / 4]! : P4) = ss[j / 4] := by simp [hd]
  rw [e]
  simp only [id]
  rw [getElem!_pos (prfCells ss[j / 4]) (j % 4) (by simpa [prfCells] using hm)]
  exact List.getElem?_eq_getElem _

theorem row_of_holds {w : World} {g : Nat} {d : Array P4} (hg : g < w.heap.size) (h : HoldsK prfCells 4 w g 0 d) : PrfRow w g d.toList := by
  refine ⟨hg, fun i hi => ?_⟩
  have hi' : i < d.size := by simpa using hi
  have e : (d[i]! : P4) = d.toList[i] := by simp [hi']
  have k := fun c hc => (HoldsK.cell h hi' (c := c) hc).1
  simp only [Nat.zero_add, e] at k
  exact ⟨k 0 (by decide), k 1 (by decide), k 2 (by decide), k 3 (by decide)⟩

theorem sort_below {w : World} {blk off n B : Nat} (d : Array P4) (os : Array Obj) (hB : B ≤ blk) (hs : B ≤ w.heap.size) : Below B w (sortWorldK prfCells 4 w blk off n d os) := by
  refine ⟨rfl, rfl, rfl, ?_, fun k hk => ?_⟩
  · simp [sortWorldK, grow, putRowK, putRow, mapBlock]
  · simp only [sortWorldK, grow, putRowK, putRow, mapBlock]
    rw [Array.getElem?_append_left (by simp; omega), Array.getElem?_modify]
    rw [if_neg (by omega)]
    rfl

theorem cmpLaysP (blk off size : Nat) (w : World) : CmpLays Tryz.prog 117 #[] prfCells 4 cmpP blk off size w :=
  fun _ _ _ _ x y => compareProofs_c x y _

set_option maxHeartbeats 1000000 in
theorem sortFunc_c (g cap : Nat) (ss : List P4) (w : World) (hH : HoldsK prfCells 4 w g 0 ss.toArray) (hg : g < w.heap.size) (hn : ss.length ≤ 1048576) :
    Calls Tryz.prog 122 #[.slice (some ⟨g, 0, none⟩) ss.length cap, .func (.func 117) #[] #[]] w fun e w' => e = .returned (.tuple #[]) ∧ ∃ L, L.Perm ss ∧ PrfRow w' g L ∧ ∀ B, B ≤ g → B ≤ w.heap.size → Below B w w' := by
  have h := AnyQ.slices_SortFunc sortLays 4 Tryz.isAgg45 Tryz.sizeOf45 prfCells (fun _ => rfl) (fun x v hv => by simp [prfCells] at hv; rcases hv with rfl | rfl | rfl | rfl <;> rfl) cmpP cmpP_swo 117 #[] g 0 cap ss.toArray w
    (enters_of Tryz.func117 (by kernel_rfl) rfl) (cmpLaysP _ _ _ _) hH hg (by simp; omega)
  refine (show Calls Tryz.prog 122 _ w _ from h).mono ?_
  rintro e w' ⟨rfl, d', n, os, hp, hs, rfl⟩
  refine ⟨rfl, d'.toList, ?_, row_of_holds ?_ (holdsK_sortWorldK_c _ _ _ _ _ _ _ _ _ hH hg hp.1), fun B h1 h2 => sort_below _ _ h1 h2⟩
  · have := hp.2.2
    have e1 : d'.extract 0 ss.toArray.size = d' := by rw [← hp.1]; simp
    have e2 : ss.toArray.extract 0 ss.toArray.size = ss.toArray := by simp
    rw [e1, e2] at this
    simpa using this
  · have := (sort_below (w := w) (blk := g) (off := 0) (n := n) (B := 0) d' os (Nat.zero_le _) (Nat.zero_le _)).size
    omega

set_option maxHeartbeats 1000000 in
theorem collect_c (gf : Nat) (lb : Array Value) (S : List P4 → Prop) (N : Nat) (w : World) (hN : N ≤ 1048576) (eg : ∀ args w, (callFunc gf args).run Tryz.prog w = .ok (.enter gf args) w) (hseq : SeqGives Fence.wide 1 Tryz.prog gf lb proofV S N w) :
    Calls Tryz.prog 121 #[.func (.func gf) #[] lb] w fun e w' => ∃ v ss, e = .returned v ∧ S ss ∧ w'.ownsRow w.heap.size 45 4 v ss.length (ss.flatMap prfCells) ∧ Below w.heap.size w w' := by
  go_enter Tryz.func121, Tryz.ntmps121
  go_wp2_with (go_at_call 127; refine (appendSeq_c gf lb S N _ hN eg hseq).mono ?_; rintro e w' ⟨v, ss, rfl, hS, hr, hb⟩)
  go_ret
  exact ⟨v, ss, rfl, hS, hr, hb⟩

set_option maxRecDepth 100000 in
set_option maxHeartbeats 1000000 in
theorem sortedFunc_c (gf : Nat) (lb : Array Value) (S : List P4 → Prop) (N : Nat) (w : World) (hN : N ≤ 1048576) (hne : ∀ L, S L → L ≠ [] ∧ L.length ≤ 1048576) (eg : ∀ args w, (callFunc gf args).run Tryz.prog w = .ok (.enter gf args) w) (hseq : SeqGives Fence.wide 1 Tryz.prog gf lb proofV S N w) :
    Calls Tryz.prog 115 #[.func (.func gf) #[] lb, .func (.func 117) #[] #[]] w fun e w' => ∃ g cap L, e = .returned (.slice (some ⟨g, 0, none⟩) L.length cap) ∧ (∃ L0, S L0 ∧ L.Perm L0) ∧ PrfRow w' g L ∧ w.heap.size ≤ g ∧ Below w.heap.size w w' := by
  go_enter Tryz.func115, Tryz.ntmps115
  go_wp2_with fail
  refine (collect_c gf lb S N _ hN eg hseq).mono ?_
  rintro e w1 ⟨v, ss, rfl, hS, hr, hb⟩
  obtain ⟨h1, h2⟩ := hne ss hS
  obtain ⟨m, hm⟩ : ∃ m, ss.length = m + 1 := by
    cases ss with
    | nil => exact absurd rfl h1
    | cons x r => exact ⟨r.length, rfl⟩
  have hr' := hr
  rw [hm] at hr'
  obtain ⟨g, cap, hv, hg⟩ := row_form hr'
  have hgb : w.heap.size ≤ g := by rw [hv] at hr'; exact (hr'.lt g rfl).1
  rw [← hm] at hv
  subst hv
  have hH := holds_of_own rfl hr
  have HH := Lib.hid hH
  have H2 := Lib.hid h2
  clear hr hr' hH hm h1 h2
  go_wp2_with fail
  refine (sortFunc_c g cap ss w1 HH.out hg H2.out).mono ?_
  rintro e w2 ⟨rfl, L, hL, hrow, hB⟩
  have hb2 := hB w.heap.size hgb hb.size
  go_wp2
  go_ret
  exact ⟨g, cap, L, by rw [hL.length_eq]; rfl, ⟨ss, hS, hL⟩, hrow, hgb, hb.trans hb2⟩

set_option maxHeartbeats 1000000 in
theorem values_c (g n cap : Nat) (w : World) :
    Calls Tryz.prog 119 #[.slice (some ⟨g, 0, none⟩) n cap] w fun e w' => e = .returned (.func (.func 126) #[] #[.pointer (some ⟨w.heap.size, 0, none⟩)]) ∧ w.alloc (.cells #[.slice (some ⟨g, 0, none⟩) n cap] 154) = w' := by
  go_enter Tryz.func119, Tryz.ntmps119
  go_wp2_with fail
  go_ret
  exact ⟨rfl, rfl⟩

theorem row_block {w W : World} {g : Nat} {L : List P4} (h : PrfRow w g L) (hz : w.heap.size ≤ W.heap.size) (hb : W.heap[g]? = w.heap[g]?) : PrfRow W g L :=
  ⟨Nat.lt_of_lt_of_le h.1 hz, fun i hi => by
    obtain ⟨c0, c1, c2, c3⟩ := h.2 i hi
    exact ⟨(World.cell?_of_block (a := ⟨g, _, none⟩) hb).trans c0, (World.cell?_of_block (a := ⟨g, _, none⟩) hb).trans c1, (World.cell?_of_block (a := ⟨g, _, none⟩) hb).trans c2, (World.cell?_of_block (a := ⟨g, _, none⟩) hb).trans c3⟩⟩

set_option maxRecDepth 100000 in
set_option maxHeartbeats 4000000 in
theorem values_gives (Bv g cap : Nat) (L : List P4) (w : World) (hv : RowIs w Bv #[.slice (some ⟨g, 0, none⟩) L.length cap] 154) (hr : PrfRow w g L) (hn : L.length ≤ 1048576) :
    Gives Tryz.prog 126 #[] #[.pointer (some ⟨Bv, 0, none⟩)] (fun k => k = Bv ∨ k = g) (L.map fun p => #[proofV p]) w := by
  intro l J Jx W hW hz hJ hJx hY h0
  have hvW : RowIs W Bv #[.slice (some ⟨g, 0, none⟩) L.length cap] 154 := (hW Bv (.inl rfl)).2.trans hv
  have hrW := row_block hr hz (hW g (.inr rfl)).2
  have e0 : W.cell? ⟨Bv, 0, none⟩ = some (.slice (some ⟨g, 0, none⟩) L.length cap) := hvW.cell 0
  obtain ⟨D, hD⟩ : ∃ D, W.heap.size = D := ⟨_, rfl⟩
  rw [hD] at hJ hJx hY
  have hgD : g < D := by rw [← hD]; exact hrW.1
  have HJ := Lib.hid hJ
  have HJx := Lib.hid hJx
  have HY := Lib.hid hY
  have HR := Lib.hid hrW
  have HD := Lib.hid hD
  clear hJ hJx hY hrW hvW hv hr hW hz hD
  refine (callsIn_wide (n := 1)).1 ?_
  show CallsIn Fence.wide 1 Tryz.prog 126 #[.func (.yield l) #[] #[], .pointer (some ⟨Bv, 0, none⟩)] W _
  refine callsIn_of_wp Tryz.func126 rfl trivial ?_ rfl
  simp only [Tryz.ntmps126, List.size_toArray, List.length_cons, List.length_nil, Nat.reduceAdd, Nat.reduceSub, Array.replicate_succ, Array.replicate_zero, List.push_toArray, List.append_toArray, List.nil_append, List.cons_append]
  gi_wp2
  gi_loopw [7] (fun s wr => ∃ k : Nat, k ≤ L.length ∧ s = .int .i64 k ∧ J k wr ∧ PrfRow wr g L ∧ D ≤ wr.heap.size) (fun s _ => L.length - (intOf s).toNat)
  case atStart => exact ⟨0, Nat.zero_le _, rfl, h0, HR.out, Nat.le_of_eq HD.out.symm⟩
  case round =>
    obtain ⟨k, hk, rfl, hj, hrow, hDz⟩ := hrel
    by_cases hlt : k < L.length
    · obtain ⟨c0, c1, c2, c3⟩ := hrow.2 k hlt
      obtain ⟨x, hx⟩ : ∃ x, L[k] = x := ⟨_, rfl⟩
      rw [hx] at c0 c1 c2 c3
      have hgz := hrow.1
      obtain ⟨W2, hW2⟩ : ∃ W2, wr.alloc (.cells #[.int .i64 x.d, .int .i64 x.b, .int .i64 x.l, .int .i64 x.c] 45) = W2 := ⟨_, rfl⟩
      have hB2 : Below wr.heap.size wr W2 := by rw [← hW2]; exact Below.alloc1 (RowKit.Below.refl _ _) _ (Nat.le_refl _)
      have hq : RowIs W2 wr.heap.size #[.int .i64 x.d, .int .i64 x.b, .int .i64 x.l, .int .i64 x.c] 45 := by rw [← hW2]; exact heap_new_at _ _ _ rfl
      have hz2 : D ≤ W2.heap.size := Nat.le_trans hDz hB2.size
      have hyy := HY.out k (by simpa using hlt) W2 hz2 (HJ.out k wr W2 hj (hB2.mono hDz))
      rw [List.getElem_map, hx] at hyy
      obtain ⟨fn, tmps, assign, body, hy, hR⟩ := hyy
      try dsimp only at hy
      obtain ⟨d0, d1, d2, d3, dz⟩ := prow hq
      have hrow2 := row_block hrow hB2.size (hB2.block g hgz)
      have HR2 := Lib.hid hrow2
      have Hz2 := Lib.hid hz2
      clear hrow hrow2 hj hq hB2 hx hDz h0 hz2
      gi_wp2
      refine hR.mono ?_
      rintro e W3 (⟨rfl, hJ3, hS3⟩ | ⟨rfl, hJx3, hS3⟩)
      · clear d0 d1 d2 d3 dz c0 c1 c2 c3 hW2
        gi_wp2
        go_roundw
        case rel => exact ⟨k + 1, by omega, by go_num, hJ3, row_block HR2.out hS3.size (hS3.block g HR2.out.1 (.inl (.inr rfl))), Nat.le_trans Hz2.out hS3.size⟩
        case measure => simp [intOf]; omega
      · clear d0 d1 d2 d3 dz c0 c1 c2 c3 hW2
        gi_wp2
        refine bodyPost_ret (results_none rfl _ _ _) rfl ?_
        exact ⟨⟨_, rfl⟩, .inr ⟨_, hJx3⟩⟩
    · obtain rfl : k = L.length := by omega
      gi_wp2
      go_end0
      exact ⟨⟨_, rfl⟩, .inl (by simpa using hj)⟩

end Go.Proofs.YtehafggcncbnkaaGreat

namespace Go.Proofs.YtehafggcncbnkaaGreat
open Go Go.RowKit

set_option maxRecDepth 100000 in
set_option maxHeartbeats 4000000 in
theorem strongest_c (b N : Nat) (S : P4 → Prop) (val : P4 → Int) (bf : Nat) (blb : Array Value) (lt : P4 → P4 → Bool) (w : World) (hV : Vals w b N S val) (hN : N ≤ 1048576) (hne : ∃ p, S p)
    (eb : ∀ args w, (callFunc bf args).run Tryz.prog w = .ok (.enter bf args) w) (hbt : ∀ W, Below w.heap.size w W → ∀ f, S f → ∀ g, S g → Calls Tryz.prog bf (#[proofV f, proofV g] ++ blb) W fun e w' => e = .returned (.bool (lt f g)) ∧ Below W.heap.size W w') :
    Calls Tryz.prog 107 #[.map (some b), .func (.func bf) #[] blb] w fun e w' => ∃ L, (∀ p, p ∈ L ↔ S p) ∧ e = .returned (proofV (bestP lt L)) ∧ Below w.heap.size w w' := by
  obtain ⟨W, hW⟩ : ∃ W, w.alloc (.cells #[.int .i64 0, .int .i64 0, .int .i64 0, .int .i64 0] 45) = W := ⟨_, rfl⟩
  have hB0 : Below w.heap.size w W := by rw [← hW]; exact Below.alloc1 (Below.refl _ _) _ (Nat.le_refl _)
  have hR : RowIs W w.heap.size (prfRow zeroP) 45 := by rw [← hW]; exact heap_new_at _ _ _ rfl
  have hzW : w.heap.size < W.heap.size := (Array.getElem?_eq_some_iff.1 hR).1
  have HR := Lib.hid hR
  have HV := Lib.hid (hV.below hB0)
  have Hbt := Lib.hid hbt
  have Hne := Lib.hid hne
  clear hR hV hbt hne
  go_enter Tryz.func107, Tryz.ntmps107
  go_wp2_with fail
  clear hW
  refine (keys_c b W).mono ?_
  rintro e w1 ⟨rfl, hw1⟩
  have hb1 : Below W.heap.size W w1 := by rw [← hw1]; exact Below.alloc1 (Below.refl _ _) _ (Nat.le_refl _)
  have hm1 : RowIs w1 W.heap.size #[.map (some b)] 143 := by rw [← hw1]; exact heap_new_at _ _ _ rfl
  have hseq := keys_gives W.heap.size b N S val w1 hm1 (HV.out.below hb1)
  have Hseq := Lib.hid hseq
  clear hw1 hm1 hseq
  go_wp2_with fail
  refine (sortedFunc_c _ _ _ N w1 hN ?_ (enters_of Tryz.func123 (by kernel_rfl) rfl) Hseq.out).mono ?_
  · rintro L ⟨hL, hl⟩
    refine ⟨fun e => ?_, by omega⟩
    subst e
    obtain ⟨p, hp⟩ := Hne.out
    have := (hL p).2 hp
    simp at this
  rintro e w2 ⟨g, cap, L, rfl, ⟨L0, ⟨hL0, hl0⟩, hperm⟩, hrow, hg, hb2⟩
  have hLS : ∀ p, p ∈ L ↔ S p := fun p => hperm.mem_iff.trans (hL0 p)
  have hlen : L.length ≤ 1048576 := by rw [hperm.length_eq]; omega
  have HLS := Lib.hid hLS
  have Hlen := Lib.hid hlen
  have Hrow := Lib.hid hrow
  have hb12 := bup hb1 hb2
  clear hLS hlen hL0 hl0 hperm hrow
  go_wp2_with fail
  refine (values_c g L.length cap w2).mono ?_
  rintro e w3 ⟨rfl, hw3⟩
  have hb3 : Below w2.heap.size w2 w3 := by rw [← hw3]; exact Below.alloc1 (Below.refl _ _) _ (Nat.le_refl _)
  have hv3 : RowIs w3 w2.heap.size #[.slice (some ⟨g, 0, none⟩) L.length cap] 154 := by rw [← hw3]; exact heap_new_at _ _ _ rfl
  have hz3 : w2.heap.size < w3.heap.size := (Array.getElem?_eq_some_iff.1 hv3).1
  have hrow3 := row_block Hrow.out hb3.size (hb3.block g Hrow.out.1)
  have hG := values_gives w2.heap.size g cap L w3 hv3 hrow3 Hlen.out
  have HG := Lib.hid hG
  have hgz := hrow3.1
  have hb13 := bup hb12 hb3
  have hB3 : Below w.heap.size w w3 := bup hB0 hb13
  clear hw3 hv3 hrow3 hG
  go_wp2_with fail
  refine (bestP_c _ #[] _ (fun k => k = w2.heap.size ∨ k = g) L bf #[] blb lt w3 HG.out (fun k hk => by rcases hk with h | h <;> (rw [h]; assumption)) (enters_of Tryz.func126 (by kernel_rfl) rfl) eb ?_).mono ?_
  · intro V hV f hf g' hg'
    have := Hbt.out V (hB3.trans (hV.mono hB3.size)) f ((HLS.out f).1 hf) g' ((HLS.out g').1 hg')
    simpa using this
  rintro e w4 ⟨rfl, hb4⟩
  have hb14 := bup hb13 hb4
  obtain ⟨⟨r0, r1, r2, r3, rz⟩, z0, z1, z2, z3⟩ := qrow (RowIs.below HR.out hb14)
  obtain ⟨q, hq⟩ : ∃ q, bestP lt L = q := ⟨_, rfl⟩
  rw [hq]
  have Hq := Lib.hid hq
  clear hq
  go_wp2_with fail
  have hf : RowIs ((put4 w4 w.heap.size q).alloc (.cells #[.int .i64 q.d, .int .i64 q.b, .int .i64 q.l, .int .i64 q.c] 45)) w.heap.size (prfRow q) 45 := RowIs.alloc (put4_row (RowIs.below HR.out hb14) q) _
  have hbf : Below w.heap.size w ((put4 w4 w.heap.size q).alloc (.cells #[.int .i64 q.d, .int .i64 q.b, .int .i64 q.l, .int .i64 q.c] 45)) := Below.alloc1 ((bup hB0 hb14).trans (put4_below (Nat.le_refl _) q)) _ (Nat.le_refl _)
  change bodyPost _ _ _ _ _ ((put4 w4 w.heap.size q).alloc (.cells #[.int .i64 q.d, .int .i64 q.b, .int .i64 q.l, .int .i64 q.c] 45))
  generalize (put4 w4 w.heap.size q).alloc (.cells #[.int .i64 q.d, .int .i64 q.b, .int .i64 q.l, .int .i64 q.c] 45) = V at hf hbf ⊢
  obtain ⟨⟨q0, q1, q2, q3, qz⟩, _⟩ := qrow hf
  exact bodyPost_ret (v := proofV q) (by simp [results, Tryz.results107, go_sem, q0, q1, q2, q3]) rfl ⟨L, HLS.out, by rw [Hq.out], hbf⟩

end Go.Proofs.YtehafggcncbnkaaGreat

namespace Go.Proofs.YtehafggcncbnkaaGreat
open Go Go.RowKit Go.Maps

/-! ### How small the numbers are -/
def Million6 (x : Int) : Prop := -6000000 ≤ x ∧ x ≤ 6000000
/-- Rows whose first number is at most 1. -/
def Near1 (u : U4) : Prop := (-1 ≤ u.q ∧ u.q ≤ 1) ∧ (-1000 ≤ u.p ∧ u.p ≤ 1000) ∧ (-1000 ≤ u.l ∧ u.l ≤ 1000) ∧ (-1000 ≤ u.c ∧ u.c ≤ 1000)
def P4.fine (p : P4) : Prop := Million6 p.d ∧ Six p.b ∧ Million6 p.l ∧ Million6 p.c

theorem det_x {ax ay az bx b_y bz cx cy cz : Int} (h1 : -1 ≤ ax ∧ ax ≤ 1) (h2 : -1000 ≤ ay ∧ ay ≤ 1000) (h3 : -1000 ≤ az ∧ az ≤ 1000) (h4 : -1 ≤ bx ∧ bx ≤ 1) (h5 : -1000 ≤ b_y ∧ b_y ≤ 1000)
    (h6 : -1000 ≤ bz ∧ bz ≤ 1000) (h7 : -1 ≤ cx ∧ cx ≤ 1) (h8 : -1000 ≤ cy ∧ cy ≤ 1000) (h9 : -1000 ≤ cz ∧ cz ≤ 1000) : Million6 (det3 ax ay az bx b_y bz cx cy cz) := by
  have a1 := mul_k h5 h9
  have a2 := mul_k h6 h8
  have a3 := mul_both (x := ax) (y := b_y * cz - bz * cy) (A := 1) (B := 2000000) (by omega) (by omega) (by omega) (by omega)
  have b1 := mul_both (x := bx) (y := cz) (A := 1) (B := 1000) (by omega) (by omega) (by omega) (by omega)
  have b2 := mul_both (x := bz) (y := cx) (A := 1000) (B := 1) (by omega) (by omega) (by omega) (by omega)
  have b3 := mul_both (x := ay) (y := bx * cz - bz * cx) (A := 1000) (B := 2000) (by omega) (by omega) (by omega) (by omega)
  have c1 := mul_both (x := bx) (y := cy) (A := 1) (B := 1000) (by omega) (by omega) (by omega) (by omega)
  have c2 := mul_both (x := b_y) (y := cx) (A := 1000) (B := 1) (by omega) (by omega) (by omega) (by omega)
  have c3 := mul_both (x := az) (y := bx * cy - b_y * cx) (A := 1000) (B := 2000) (by omega) (by omega) (by omega) (by omega)
  unfold Million6 det3
  omega

theorem det_y {ax ay az bx b_y bz cx cy cz : Int} (h1 : -1000 ≤ ax ∧ ax ≤ 1000) (h2 : -1 ≤ ay ∧ ay ≤ 1) (h3 : -1000 ≤ az ∧ az ≤ 1000) (h4 : -1000 ≤ bx ∧ bx ≤ 1000) (h5 : -1 ≤ b_y ∧ b_y ≤ 1)
    (h6 : -1000 ≤ bz ∧ bz ≤ 1000) (h7 : -1000 ≤ cx ∧ cx ≤ 1000) (h8 : -1 ≤ cy ∧ cy ≤ 1) (h9 : -1000 ≤ cz ∧ cz ≤ 1000) : Million6 (det3 ax ay az bx b_y bz cx cy cz) := by
  have a1 := mul_both (x := b_y) (y := cz) (A := 1) (B := 1000) (by omega) (by omega) (by omega) (by omega)
  have a2 := mul_both (x := bz) (y := cy) (A := 1000) (B := 1) (by omega) (by omega) (by omega) (by omega)
  have a3 := mul_both (x := ax) (y := b_y * cz - bz * cy) (A := 1000) (B := 2000) (by omega) (by omega) (by omega) (by omega)
  have b1 := mul_k h4 h9
  have b2 := mul_k h6 h7
  have b3 := mul_both (x := ay) (y := bx * cz - bz * cx) (A := 1) (B := 2000000) (by omega) (by omega) (by omega) (by omega)
  have c1 := mul_both (x := bx) (y := cy) (A := 1000) (B := 1) (by omega) (by omega) (by omega) (by omega)
  have c2 := mul_both (x := b_y) (y := cx) (A := 1) (B := 1000) (by omega) (by omega) (by omega) (by omega)
  have c3 := mul_both (x := az) (y := bx * cy - b_y * cx) (A := 1000) (B := 2000) (by omega) (by omega) (by omega) (by omega)
  unfold Million6 det3
  omega

theorem det_z {ax ay az bx b_y bz cx cy cz : Int} (h1 : -1000 ≤ ax ∧ ax ≤ 1000) (h2 : -1000 ≤ ay ∧ ay ≤ 1000) (h3 : -1 ≤ az ∧ az ≤ 1) (h4 : -1000 ≤ bx ∧ bx ≤ 1000) (h5 : -1000 ≤ b_y ∧ b_y ≤ 1000)
    (h6 : -1 ≤ bz ∧ bz ≤ 1) (h7 : -1000 ≤ cx ∧ cx ≤ 1000) (h8 : -1000 ≤ cy ∧ cy ≤ 1000) (h9 : -1 ≤ cz ∧ cz ≤ 1) : Million6 (det3 ax ay az bx b_y bz cx cy cz) := by
  have a1 := mul_both (x := b_y) (y := cz) (A := 1000) (B := 1) (by omega) (by omega) (by omega) (by omega)
  have a2 := mul_both (x := bz) (y := cy) (A := 1) (B := 1000) (by omega) (by omega) (by omega) (by omega)
  have a3 := mul_both (x := ax) (y := b_y * cz - bz * cy) (A := 1000) (B := 2000) (by omega) (by omega) (by omega) (by omega)
  have b1 := mul_both (x := bx) (y := cz) (A := 1000) (B := 1) (by omega) (by omega) (by omega) (by omega)
  have b2 := mul_both (x := bz) (y := cx) (A := 1) (B := 1000) (by omega) (by omega) (by omega) (by omega)
  have b3 := mul_both (x := ay) (y := bx * cz - bz * cx) (A := 1000) (B := 2000) (by omega) (by omega) (by omega) (by omega)
  have c1 := mul_k h4 h8
  have c2 := mul_k h5 h7
  have c3 := mul_both (x := az) (y := bx * cy - b_y * cx) (A := 1) (B := 2000000) (by omega) (by omega) (by omega) (by omega)
  unfold Million6 det3
  omega

theorem rows_near1 {n : Nat} {u : Nat → U4} (hO : Ones n u) (i : Nat) : Near1 (rowsU n u i) := by
  unfold rowsU
  split
  · rename_i h
    obtain ⟨h0, h1, h2, h3⟩ := hO.1.2 i h
    have := hO.2 i h
    exact ⟨by omega, by omega, by omega, by omega⟩
  · split
    · exact ⟨by simp, by simp, by simp, by simp⟩
    · split
      · exact ⟨by simp, by simp, by simp, by simp⟩
      · exact ⟨by simp, by simp, by simp, by simp⟩

theorem tdiv_million {x : Int} (d : Int) (h : Million6 x) : Million6 (x.tdiv d) := by
  have := Int.natAbs_tdiv_le_natAbs x d
  unfold Million6 at *
  omega

theorem neg_million {x : Int} (h : Million6 x) : Million6 (-x) := by unfold Million6 at *; omega

theorem near_of1 {u : U4} (h : Near1 u) : Near u := ⟨by have := h.1; omega, h.2.1, h.2.2.1, h.2.2.2⟩

theorem prfL_fine {N : Nat} {r : Nat → U4} (hr : ∀ i, Near1 (r i)) (k : Nat) : ∀ p ∈ prfL N r k, p.fine := fun p hp => by
  unfold prfL at hp
  rw [List.mem_flatMap] at hp
  obtain ⟨t, _, hp⟩ := hp
  obtain ⟨a0, a1, a2, a3⟩ := hr t.1
  obtain ⟨b0, b1, b2, b3⟩ := hr t.2.1
  obtain ⟨c0, c1, c2, c3⟩ := hr t.2.2
  have hs := across_six (near_of1 (hr t.1)) (near_of1 (hr t.2.1)) (near_of1 (hr t.2.2))
  have h1 : Million6 (acrossT r t).p := neg_million (det_z a2 a3 a0 b2 b3 b0 c2 c3 c0)
  have h2 : Million6 (acrossT r t).l := det_y a3 a0 a1 b3 b0 b1 c3 c0 c1
  have h3 : Million6 (acrossT r t).c := neg_million (det_x a0 a1 a2 b0 b1 b2 c0 c1 c2)
  have key : ∀ d, (proofOfR (acrossT r t) d).fine := fun d => ⟨neg_million (tdiv_million d h1), tdiv_six d hs.1, neg_million (tdiv_million d h2), tdiv_million d h3⟩
  unfold prfsOf at hp
  split at hp
  · simp at hp
  · simp at hp
    rcases hp with rfl | rfl
    · exact key _
    · exact key _

theorem valueR_fine {p : P4} (hp : p.fine) {l c : Int} (ht : 0 ≤ l ∧ l ≤ 1000 ∧ 0 ≤ c ∧ c ≤ 1000) : -20000000000 ≤ valueR l c p ∧ valueR l c p ≤ 20000000000 := by
  obtain ⟨h0, h1, h2, h3⟩ := hp
  unfold Million6 at *
  unfold Six at *
  have a := mul_both (x := p.l) (y := l) (A := 6000000) (B := 1000) (by omega) (by omega) (by decide) (by decide)
  have b := mul_both (x := p.c) (y := c) (A := 6000000) (B := 1000) (by omega) (by omega) (by decide) (by decide)
  unfold valueR
  omega

theorem cross_fine {p q : P4} (hp : p.fine) (hq : q.fine) {l c : Int} (ht : 0 ≤ l ∧ l ≤ 1000 ∧ 0 ≤ c ∧ c ≤ 1000) : -120000000000000000 ≤ valueR l c p * q.d ∧ valueR l c p * q.d ≤ 120000000000000000 := by
  have h1 := valueR_fine hp ht
  have h2 := hq.1
  unfold Million6 at h2
  have := mul_both (x := valueR l c p) (y := q.d) (A := 20000000000) (B := 6000000) (by omega) (by omega) (by decide) (by decide)
  omega

/-! ### The closures -/
def costLt (l c : Int) (p q : P4) : Bool := decide (valueR l c q * p.d < valueR l c p * q.d)
def neverLt (l c : Int) (p q : P4) : Bool := decide (valueR l c q < valueR l c p)

theorem vals_lookup {w : World} {b N : Nat} {S : P4 → Prop} {val : P4 → Int} {p : P4} (h : Vals w b N S val) (hp : S p) :
    (Instr.lookup 143 (.map (some b)) (proofV p) false).run Tryz.prog w = .ok (.int .i64 (val p)) w := by
  obtain ⟨D, hown, s1, s2, s3⟩ := h
  obtain ⟨x, hrun, hat, _⟩ := hown.lookup_int keyedP Tryz.underlying143 Tryz.underlying2 (by kernel_rfl) (keyOf_proof (s1 p hp))
  rw [(s3 p hp).2] at hat
  have : val p = x := by simpa using hat
  rw [this]
  exact hrun

set_option maxHeartbeats 1000000 in
theorem costZero_c (p : P4) (x : Int) (w : World) : Calls Tryz.prog 106 #[proofV p, .int .i64 x] w fun e w' => e = .returned (.bool (p.d == 0)) ∧ Below w.heap.size w w' := by
  go_enter Tryz.func106, Tryz.ntmps106
  go_wp2_with fail
  go_ret
  exact ⟨rfl, Below.alloc1 (Below.refl _ _) _ (Nat.le_refl _)⟩

set_option maxHeartbeats 1000000 in
theorem neverZero_c (p : P4) (x : Int) (w : World) : Calls Tryz.prog 109 #[proofV p, .int .i64 x] w fun e w' => e = .returned (.bool (p.d != 0)) ∧ Below w.heap.size w w' := by
  go_enter Tryz.func109, Tryz.ntmps109
  go_wp2_with fail
  go_ret
  exact ⟨rfl, Below.alloc1 (Below.refl _ _) _ (Nat.le_refl _)⟩

set_option maxRecDepth 100000 in
set_option maxHeartbeats 4000000 in
theorem costBetter_c (Bv b N : Nat) (S : P4 → Prop) (l c : Int) (f g : P4) (w : World) (hv : RowIs w Bv #[.map (some b)] 143) (hV : Vals w b N S (valueR l c)) (hf : S f) (hg : S g) (h1 : f.fine) (h2 : g.fine) (ht : 0 ≤ l ∧ l ≤ 1000 ∧ 0 ≤ c ∧ c ≤ 1000) :
    Calls Tryz.prog 108 #[proofV f, proofV g, .pointer (some ⟨Bv, 0, none⟩)] w fun e w' => e = .returned (.bool (costLt l c f g)) ∧ Below w.heap.size w w' := by
  obtain ⟨W, hW⟩ : ∃ W, (w.alloc (.cells #[.int .i64 f.d, .int .i64 f.b, .int .i64 f.l, .int .i64 f.c] 45)).alloc (.cells #[.int .i64 g.d, .int .i64 g.b, .int .i64 g.l, .int .i64 g.c] 45) = W := ⟨_, rfl⟩
  have hB0 : Below w.heap.size w W := by rw [← hW]; exact Below.alloc1 (Below.alloc1 (Below.refl _ _) _ (Nat.le_refl _)) _ (Nat.le_refl _)
  have hF : RowIs W w.heap.size #[.int .i64 f.d, .int .i64 f.b, .int .i64 f.l, .int .i64 f.c] 45 := by rw [← hW]; exact RowIs.alloc (heap_new_at _ _ _ rfl) _
  have hG : RowIs W (w.heap.size + 1) #[.int .i64 g.d, .int .i64 g.b, .int .i64 g.l, .int .i64 g.c] 45 := by rw [← hW]; exact heap_new_at _ _ _ (by simp)
  obtain ⟨d0, d1, d2, d3, dz⟩ := prow hF
  obtain ⟨e0, e1, e2, e3, ez⟩ := prow hG
  have y0 : W.cell? ⟨Bv, 0, none⟩ = some (.map (some b)) := (RowIs.below hv hB0).cell 0
  have y1 : Bv < W.heap.size := (Array.getElem?_eq_some_iff.1 (RowIs.below hv hB0)).1
  have hl1 := fun q => vals_lookup (w := W.drewN q) ((hV.below hB0).below (below_drewN (Below.refl _ _) q)) hf
  have hl2 := fun q => vals_lookup (w := W.drewN q) ((hV.below hB0).below (below_drewN (Below.refl _ _) q)) hg
  have m1 := cross_fine h1 h2 ht
  have m2 := cross_fine h2 h1 ht
  have x1 : IntKind.i64.wrap (valueR l c f * g.d) = valueR l c f * g.d := IntWalk.i64_in _ (by omega)
  have x2 : IntKind.i64.wrap (valueR l c g * f.d) = valueR l c g * f.d := IntWalk.i64_in _ (by omega)
  unfold costLt
  obtain ⟨vf, hvf⟩ : ∃ vf, valueR l c f = vf := ⟨_, rfl⟩
  obtain ⟨vg, hvg⟩ : ∃ vg, valueR l c g = vg := ⟨_, rfl⟩
  rw [hvf] at hl1 x1 m1 ⊢
  rw [hvg] at hl2 x2 m2 ⊢
  clear hF hG hv hV hf hg hvf hvg m1 m2 h1 h2
  go_enter Tryz.func108, Tryz.ntmps108
  go_wp2_with fail
  clear hW
  go_quiet (fail)
  go_wp2_with fail
  go_ret
  exact ⟨rfl, below_drewN hB0 nq⟩

set_option maxRecDepth 100000 in
set_option maxHeartbeats 4000000 in
theorem neverBetter_c (Bv b N : Nat) (S : P4 → Prop) (l c : Int) (f g : P4) (w : World) (hv : RowIs w Bv #[.map (some b)] 143) (hV : Vals w b N S (valueR l c)) (hf : S f) (hg : S g) :
    Calls Tryz.prog 110 #[proofV f, proofV g, .pointer (some ⟨Bv, 0, none⟩)] w fun e w' => e = .returned (.bool (neverLt l c f g)) ∧ Below w.heap.size w w' := by
  obtain ⟨W, hW⟩ : ∃ W, (w.alloc (.cells #[.int .i64 f.d, .int .i64 f.b, .int .i64 f.l, .int .i64 f.c] 45)).alloc (.cells #[.int .i64 g.d, .int .i64 g.b, .int .i64 g.l, .int .i64 g.c] 45) = W := ⟨_, rfl⟩
  have hB0 : Below w.heap.size w W := by rw [← hW]; exact Below.alloc1 (Below.alloc1 (Below.refl _ _) _ (Nat.le_refl _)) _ (Nat.le_refl _)
  have hF : RowIs W w.heap.size #[.int .i64 f.d, .int .i64 f.b, .int .i64 f.l, .int .i64 f.c] 45 := by rw [← hW]; exact RowIs.alloc (heap_new_at _ _ _ rfl) _
  have hG : RowIs W (w.heap.size + 1) #[.int .i64 g.d, .int .i64 g.b, .int .i64 g.l, .int .i64 g.c] 45 := by rw [← hW]; exact heap_new_at _ _ _ (by simp)
  obtain ⟨d0, d1, d2, d3, dz⟩ := prow hF
  obtain ⟨e0, e1, e2, e3, ez⟩ := prow hG
  have y0 : W.cell? ⟨Bv, 0, none⟩ = some (.map (some b)) := (RowIs.below hv hB0).cell 0
  have y1 : Bv < W.heap.size := (Array.getElem?_eq_some_iff.1 (RowIs.below hv hB0)).1
  have hl1 := fun q => vals_lookup (w := W.drewN q) ((hV.below hB0).below (below_drewN (Below.refl _ _) q)) hf
  have hl2 := fun q => vals_lookup (w := W.drewN q) ((hV.below hB0).below (below_drewN (Below.refl _ _) q)) hg
  unfold neverLt
  obtain ⟨vf, hvf⟩ : ∃ vf, valueR l c f = vf := ⟨_, rfl⟩
  obtain ⟨vg, hvg⟩ : ∃ vg, valueR l c g = vg := ⟨_, rfl⟩
  rw [hvf] at hl1 ⊢
  rw [hvg] at hl2 ⊢
  clear hF hG hv hV hf hg hvf hvg
  go_enter Tryz.func110, Tryz.ntmps110
  go_wp2_with fail
  clear hW
  go_quiet (fail)
  go_wp2_with fail
  go_ret
  exact ⟨rfl, below_drewN hB0 nq⟩

/-- The proofs that prove a cost, and those that prove that there is none. -/
def costS (n : Nat) (u : Nat → U4) (p : P4) : Prop := prfS n u p ∧ p.d ≠ 0
def neverS (n : Nat) (u : Nat → U4) (p : P4) : Prop := prfS n u p ∧ p.d = 0

set_option maxRecDepth 100000 in
set_option maxHeartbeats 4000000 in
theorem costProof_c (g n : Nat) (m : Nat → M5) (l c : Int) (s : Bool) (w : World) (hF : Fine n m) (ht : 0 ≤ l ∧ l ≤ 1000 ∧ 0 ≤ c ∧ c ≤ 1000) (hu : Units w (some ⟨g, 0, none⟩) n (potU s m)) (hO : Ones n (potU s m)) (hne : ∃ p, costS n (potU s m) p) :
    Calls Tryz.prog 83 #[potV g n l c] w fun e w' => ∃ L, (∀ p, p ∈ L ↔ costS n (potU s m) p) ∧ e = .returned (proofV (bestP (costLt l c) L)) ∧ Below w.heap.size w w' := by
  obtain ⟨W, hW⟩ : ∃ W, (w.alloc (.cells #[.slice (some ⟨g, 0, none⟩) n n, .int .i64 1, .int .i64 0, .int .i64 l, .int .i64 c] 102)).alloc (.cells #[.int .i64 0, .int .i64 0, .int .i64 0, .int .i64 0] 45) = W := ⟨_, rfl⟩
  have hB0 : Below w.heap.size w W := by rw [← hW]; exact Below.alloc1 (Below.alloc1 (Below.refl _ _) _ (Nat.le_refl _)) _ (Nat.le_refl _)
  have hP : RowIs W w.heap.size #[.slice (some ⟨g, 0, none⟩) n n, .int .i64 1, .int .i64 0, .int .i64 l, .int .i64 c] 102 := by rw [← hW]; exact RowIs.alloc (heap_new_at _ _ _ rfl) _
  have hR : RowIs W (w.heap.size + 1) (prfRow zeroP) 45 := by rw [← hW]; exact heap_new_at _ _ _ (by simp)
  have hz1 : w.heap.size + 1 < W.heap.size := (Array.getElem?_eq_some_iff.1 hR).1
  obtain ⟨e0, e1, e2, e3, e4, ez⟩ := potrow hP
  have hu0 := hu.below hB0
  have HR := Lib.hid hR
  have HU := Lib.hid hu0
  have HO := Lib.hid hO
  have Hne := Lib.hid hne
  clear hP hR hu hu0 hO hne
  go_enter Tryz.func83, Tryz.ntmps83
  go_wp2_with fail
  clear hW
  refine (proofs_c g n m l c s W hF ht HU.out HO.out.1).mono ?_
  rintro e w1 ⟨b, hb, rfl, hV1, hb1⟩
  obtain ⟨W2, hW2⟩ : ∃ W2, w1.alloc (.cells #[.map (some b)] 143) = W2 := ⟨_, rfl⟩
  have hb2 : Below w1.heap.size w1 W2 := by rw [← hW2]; exact Below.alloc1 (Below.refl _ _) _ (Nat.le_refl _)
  have hv2 : RowIs W2 w1.heap.size #[.map (some b)] 143 := by rw [← hW2]; exact heap_new_at _ _ _ rfl
  have hV2 := hV1.below hb2
  have hbz := hV1.lt
  have y0 : W2.cell? ⟨w1.heap.size, 0, none⟩ = some (.map (some b)) := hv2.cell 0
  have y1 : w1.heap.size < W2.heap.size := (Array.getElem?_eq_some_iff.1 hv2).1
  have Hv2 := Lib.hid hv2
  have HV2 := Lib.hid hV2
  have hb12 := bup hb1 hb2
  have hz1' := hb1.size
  clear hv2 hV1 hV2 e0 e1 e2 e3 e4 ez
  go_wp2_with fail
  clear hW2
  refine (delFunc_c (fun p => p.d == 0) _ b 200 _ (valueR l c) W2 (enters_of Tryz.func106 (by kernel_rfl) rfl) HV2.out (fun V p x => costZero_c p x V)).mono ?_
  rintro e w3 ⟨rfl, hV3, hg3⟩
  have hV3' : Vals w3 b 200 (costS n (potU s m)) (valueR l c) := hV3.congr fun p => by simp [costS]
  have hv3 := (hg3.block w1.heap.size (by omega) (by simp; omega)).trans Hv2.out
  have hR3 : RowIs w3 (w.heap.size + 1) (prfRow zeroP) 45 := (hg3.block _ (by have := hb12.size; omega) (by simp; omega)).trans (HR.out.below hb12)
  have hB3 : Below w.heap.size w w3 := by
    have h := bup hB0 hb12
    exact ⟨hg3.os.trans h.os, hg3.tape.trans h.tape, hg3.output.trans h.output, Nat.le_trans h.size hg3.size, fun i hi => (hg3.block i (by have := h.size; omega) (by simp; have := hB0.size; omega)).trans (h.block i hi)⟩
  have HV3 := Lib.hid hV3'
  have Hv3 := Lib.hid hv3
  have HR3 := Lib.hid hR3
  have hz3 := hg3.size
  clear y0 y1 hV3 hV3' hR3 hg3
  have y0 : w3.cell? ⟨w1.heap.size, 0, none⟩ = some (.map (some b)) := RowIs.cell hv3 0
  have y1 : w1.heap.size < w3.heap.size := (Array.getElem?_eq_some_iff.1 hv3).1
  clear hv3
  go_wp2_with fail
  refine (strongest_c b 200 (costS n (potU s m)) (valueR l c) _ _ (costLt l c) w3 HV3.out (by decide) Hne.out (enters_of Tryz.func108 (by kernel_rfl) rfl) ?_).mono ?_
  · intro V hV f hf g' hg'
    have hfine : ∀ p, costS n (potU s m) p → p.fine := fun p hp => prfL_fine (rows_near1 HO.out) _ p hp.1.1
    have := costBetter_c w1.heap.size b 200 (costS n (potU s m)) l c f g' V (RowIs.below Hv3.out hV) (HV3.out.below hV) hf hg' (hfine f hf) (hfine g' hg') ht
    simpa using this
  rintro e w4 ⟨L, hL, rfl, hb4⟩
  obtain ⟨⟨r0, r1, r2, r3, rz⟩, z0, z1, z2, z3⟩ := qrow (RowIs.below HR3.out hb4)
  obtain ⟨q, hq⟩ : ∃ q, bestP (costLt l c) L = q := ⟨_, rfl⟩
  rw [hq]
  have Hq := Lib.hid hq
  have HL := Lib.hid hL
  clear hq hL y0 y1
  go_wp2_with fail
  have hf : RowIs (put4 w4 (w.heap.size + 1) q) (w.heap.size + 1) (prfRow q) 45 := put4_row (RowIs.below HR3.out hb4) q
  have hbf : Below w.heap.size w (put4 w4 (w.heap.size + 1) q) := (bup hB3 hb4).trans (put4_below (Nat.le_succ _) q)
  change bodyPost _ _ _ _ _ (put4 w4 (w.heap.size + 1) q)
  generalize put4 w4 (w.heap.size + 1) q = V at hf hbf ⊢
  obtain ⟨⟨q0, q1, q2, q3, qz⟩, _⟩ := qrow hf
  exact bodyPost_ret (v := proofV q) (by simp [results, Tryz.results83, go_sem, q0, q1, q2, q3]) rfl ⟨L, HL.out, by rw [Hq.out], hbf⟩

set_option maxRecDepth 100000 in
set_option maxHeartbeats 4000000 in
theorem neverProof_c (g n : Nat) (m : Nat → M5) (l c : Int) (s : Bool) (w : World) (hF : Fine n m) (ht : 0 ≤ l ∧ l ≤ 1000 ∧ 0 ≤ c ∧ c ≤ 1000) (hu : Units w (some ⟨g, 0, none⟩) n (potU s m)) (hO : Ones n (potU s m)) (hne : ∃ p, neverS n (potU s m) p) :
    Calls Tryz.prog 84 #[potV g n l c] w fun e w' => ∃ L, (∀ p, p ∈ L ↔ neverS n (potU s m) p) ∧ e = .returned (proofV (bestP (neverLt l c) L)) ∧ Below w.heap.size w w' := by
  obtain ⟨W, hW⟩ : ∃ W, (w.alloc (.cells #[.slice (some ⟨g, 0, none⟩) n n, .int .i64 1, .int .i64 0, .int .i64 l, .int .i64 c] 102)).alloc (.cells #[.int .i64 0, .int .i64 0, .int .i64 0, .int .i64 0] 45) = W := ⟨_, rfl⟩
  have hB0 : Below w.heap.size w W := by rw [← hW]; exact Below.alloc1 (Below.alloc1 (Below.refl _ _) _ (Nat.le_refl _)) _ (Nat.le_refl _)
  have hP : RowIs W w.heap.size #[.slice (some ⟨g, 0, none⟩) n n, .int .i64 1, .int .i64 0, .int .i64 l, .int .i64 c] 102 := by rw [← hW]; exact RowIs.alloc (heap_new_at _ _ _ rfl) _
  have hR : RowIs W (w.heap.size + 1) (prfRow zeroP) 45 := by rw [← hW]; exact heap_new_at _ _ _ (by simp)
  have hz1 : w.heap.size + 1 < W.heap.size := (Array.getElem?_eq_some_iff.1 hR).1
  obtain ⟨e0, e1, e2, e3, e4, ez⟩ := potrow hP
  have hu0 := hu.below hB0
  have HR := Lib.hid hR
  have HU := Lib.hid hu0
  have HO := Lib.hid hO
  have Hne := Lib.hid hne
  clear hP hR hu hu0 hO hne
  go_enter Tryz.func84, Tryz.ntmps84
  go_wp2_with fail
  clear hW
  refine (proofs_c g n m l c s W hF ht HU.out HO.out.1).mono ?_
  rintro e w1 ⟨b, hb, rfl, hV1, hb1⟩
  obtain ⟨W2, hW2⟩ : ∃ W2, w1.alloc (.cells #[.map (some b)] 143) = W2 := ⟨_, rfl⟩
  have hb2 : Below w1.heap.size w1 W2 := by rw [← hW2]; exact Below.alloc1 (Below.refl _ _) _ (Nat.le_refl _)
  have hv2 : RowIs W2 w1.heap.size #[.map (some b)] 143 := by rw [← hW2]; exact heap_new_at _ _ _ rfl
  have hV2 := hV1.below hb2
  have hbz := hV1.lt
  have y0 : W2.cell? ⟨w1.heap.size, 0, none⟩ = some (.map (some b)) := hv2.cell 0
  have y1 : w1.heap.size < W2.heap.size := (Array.getElem?_eq_some_iff.1 hv2).1
  have Hv2 := Lib.hid hv2
  have HV2 := Lib.hid hV2
  have hb12 := bup hb1 hb2
  have hz1' := hb1.size
  clear hv2 hV1 hV2 e0 e1 e2 e3 e4 ez
  go_wp2_with fail
  clear hW2
  refine (delFunc_c (fun p => p.d != 0) _ b 200 _ (valueR l c) W2 (enters_of Tryz.func109 (by kernel_rfl) rfl) HV2.out (fun V p x => neverZero_c p x V)).mono ?_
  rintro e w3 ⟨rfl, hV3, hg3⟩
  have hV3' : Vals w3 b 200 (neverS n (potU s m)) (valueR l c) := hV3.congr fun p => by simp [neverS]
  have hv3 := (hg3.block w1.heap.size (by omega) (by simp; omega)).trans Hv2.out
  have hR3 : RowIs w3 (w.heap.size + 1) (prfRow zeroP) 45 := (hg3.block _ (by have := hb12.size; omega) (by simp; omega)).trans (HR.out.below hb12)
  have hB3 : Below w.heap.size w w3 := by
    have h := bup hB0 hb12
    exact ⟨hg3.os.trans h.os, hg3.tape.trans h.tape, hg3.output.trans h.output, Nat.le_trans h.size hg3.size, fun i hi => (hg3.block i (by have := h.size; omega) (by simp; have := hB0.size; omega)).trans (h.block i hi)⟩
  have HV3 := Lib.hid hV3'
  have Hv3 := Lib.hid hv3
  have HR3 := Lib.hid hR3
  have hz3 := hg3.size
  clear y0 y1 hV3 hV3' hR3 hg3
  have y0 : w3.cell? ⟨w1.heap.size, 0, none⟩ = some (.map (some b)) := RowIs.cell hv3 0
  have y1 : w1.heap.size < w3.heap.size := (Array.getElem?_eq_some_iff.1 hv3).1
  clear hv3
  go_wp2_with fail
  refine (strongest_c b 200 (neverS n (potU s m)) (valueR l c) _ _ (neverLt l c) w3 HV3.out (by decide) Hne.out (enters_of Tryz.func110 (by kernel_rfl) rfl) ?_).mono ?_
  · intro V hV f hf g' hg'
    have := neverBetter_c w1.heap.size b 200 (neverS n (potU s m)) l c f g' V (RowIs.below Hv3.out hV) (HV3.out.below hV) hf hg'
    simpa using this
  rintro e w4 ⟨L, hL, rfl, hb4⟩
  obtain ⟨⟨r0, r1, r2, r3, rz⟩, z0, z1, z2, z3⟩ := qrow (RowIs.below HR3.out hb4)
  obtain ⟨q, hq⟩ : ∃ q, bestP (neverLt l c) L = q := ⟨_, rfl⟩
  rw [hq]
  have Hq := Lib.hid hq
  have HL := Lib.hid hL
  clear hq hL y0 y1
  go_wp2_with fail
  have hf : RowIs (put4 w4 (w.heap.size + 1) q) (w.heap.size + 1) (prfRow q) 45 := put4_row (RowIs.below HR3.out hb4) q
  have hbf : Below w.heap.size w (put4 w4 (w.heap.size + 1) q) := (bup hB3 hb4).trans (put4_below (Nat.le_succ _) q)
  change bodyPost _ _ _ _ _ (put4 w4 (w.heap.size + 1) q)
  generalize put4 w4 (w.heap.size + 1) q = V at hf hbf ⊢
  obtain ⟨⟨q0, q1, q2, q3, qz⟩, _⟩ := qrow hf
  exact bodyPost_ret (v := proofV q) (by simp [results, Tryz.results84, go_sem, q0, q1, q2, q3]) rfl ⟨L, HL.out, by rw [Hq.out], hbf⟩

end Go.Proofs.YtehafggcncbnkaaGreat
