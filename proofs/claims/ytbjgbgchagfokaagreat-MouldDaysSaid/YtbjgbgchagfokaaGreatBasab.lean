/- Ranges over functions: what an iterator promises that yields a fixed list, and what a loop over one owes. It imports nothing of the program. -/
import Derived.RangeFuncNested
import Derived.RangeFuncCalls
import Derived.RangeFuncLeaves
import Derived.Test.YtbjgbgchagfokaaGreatBasaa
import Derived.OrdersIn
import Derived.Test.YtbjgbgchagfokaaGreatProg
namespace Go.Proofs.YtbjgbgchagfokaaGreat
open Go Go.RowKit

/-- What a round leaves as it lay: the blocks of K, and those from D on. -/
structure Spares (K : Nat → Prop) (D : Nat) (A B : World) : Prop where
  size : A.heap.size ≤ B.heap.size
  block : ∀ k, k < A.heap.size → (K k ∨ D ≤ k) → B.heap[k]? = A.heap[k]?

theorem Spares.refl (K : Nat → Prop) (D : Nat) (A : World) : Spares K D A A := ⟨Nat.le_refl _, fun _ _ _ => rfl⟩
theorem Spares.trans {K : Nat → Prop} {D : Nat} {A B C : World} (h : Spares K D A B) (k : Spares K D B C) : Spares K D A C :=
  ⟨Nat.le_trans h.size k.size, fun i hi hK => (k.block i (Nat.lt_of_lt_of_le hi h.size) hK).trans (h.block i hi hK)⟩
theorem Spares.of_below {K : Nat → Prop} {D : Nat} {A B : World} (h : Below A.heap.size A B) : Spares K D A B := ⟨h.size, fun i hi _ => h.block i hi⟩
theorem Spares.mono {K K' : Nat → Prop} {D D' : Nat} {A B : World} (h : Spares K D A B) (hK : ∀ k, K' k → K k ∨ D ≤ k) (hD : D ≤ D') : Spares K' D' A B :=
  ⟨h.size, fun i hi hk => h.block i hi (hk.elim (hK i) fun h => .inr (Nat.le_trans hD h))⟩
theorem Spares.put {K : Nat → Prop} {D r : Nat} {A : World} (o : Obj) (hK : ¬ K r) (hr : r < D) : Spares K D A (A.putObj r o) :=
  ⟨by simp, fun i _ h => World.putObj_heap_other (fun e => by subst e; exact h.elim hK (by omega))⟩

theorem below_put {D r : Nat} {A : World} (o : Obj) (hr : D ≤ r) : Below D A (A.putObj r o) :=
  ⟨rfl, rfl, rfl, by simp, fun k hk => World.putObj_heap_other (by omega)⟩

/-- An iterator that reads the blocks of K alone, and yields the list L. -/
def Gives (P : Program) (gf : Nat) (first lb : Array Value) (K : Nat → Prop) (L : List (Array Value)) (w : World) : Prop :=
  ∀ (l : Nat) (J Jx : Nat → World → Prop) (W : World),
    (∀ k, K k → k < w.heap.size ∧ W.heap[k]? = w.heap[k]?) → w.heap.size ≤ W.heap.size →
    (∀ k A B, J k A → Below W.heap.size A B → J k B) → (∀ k A B, Jx k A → Below W.heap.size A B → Jx k B) →
    (∀ k (h : k < L.length) A, W.heap.size ≤ A.heap.size → J k A → YieldAt Fence.wide 0 P l L[k] A fun e B => (e = .returned (.bool true) ∧ J (k + 1) B ∧ Spares K W.heap.size A B) ∨ (e = .returned (.bool false) ∧ Jx (k + 1) B ∧ Spares K W.heap.size A B)) →
    J 0 W →
    Calls P gf (first ++ #[.func (.yield l) #[] #[]] ++ lb) W fun e B => (∃ v, e = .returned v) ∧ (J L.length B ∨ ∃ k, Jx k B)

theorem Gives.later {P : Program} {gf : Nat} {first lb : Array Value} {K : Nat → Prop} {L : List (Array Value)} {w w' : World} (h : Gives P gf first lb K L w) (hK : ∀ k, K k → k < w.heap.size)
    (hs : w.heap.size ≤ w'.heap.size) (hb : ∀ k, K k → w'.heap[k]? = w.heap[k]?) : Gives P gf first lb K L w' :=
  fun l J Jx W hW hz hJ hJx hY h0 => h l J Jx W (fun k hk => ⟨hK k hk, (hW k hk).2.trans (hb k hk)⟩) (Nat.le_trans hs hz) hJ hJx hY h0

theorem round_any {F : Fence} {n m : Nat} {P : Program} {l : Nat} {f : FuncId} {tmps : Array Value} {assign body : Code} {w : World} {R : Ending → World → Prop} (hd : F.depth = none)
    (h : RoundIn F n P l f tmps assign body w R) : RoundIn F m P l f tmps assign body w R :=
  ⟨h.1, fun c cs _ => h.2 c cs fun d e => by rw [hd] at e; cases e⟩

/-- How the body of a round may be left. -/
def roundQ (K : Nat → Prop) (b : Nat) (I : Nat → World → Prop) (Ix : Code → Nat → World → Prop) (k : Nat) (A : World) : Exit → Act → World → Prop
  | .normal, _, B => Spares K b A B ∧ I (k + 1) B
  | .ret, _, B => Spares K b A B ∧ Ix .ret (k + 1) B
  | .exit id, _, B => Spares K b A B ∧ Ix (.exit id) (k + 1) B
  | .goto t, _, B => Spares K b A B ∧ Ix (.goto t) (k + 1) B
  | .panic _, _, _ => False
  | .outgrown, _, _ => False

/-- A loop over an iterator, in a function that stands in no round. -/
theorem wpIn_rangeL {n : Nat} {P : Program} {g : Operand} {ps : Array Tmp} {assign body : Code} {Q : Exit → Act → World → Prop} {a : Act} {w : World} {gf : Nat} {first lb : Array Value} {K : Nat → Prop} {L : List (Array Value)}
    (hg : a.eval g = .func (.func gf) first lb) (eg : ∀ args w, (callFunc gf args).run P w = .ok (.enter gf args) w)
    (hseq : Gives P gf first lb K L w) (hK : ∀ k, K k → k < w.heap.size) (hps : ∀ k (_ : k < L.length), L[k].size = ps.size)
    (I : Nat → World → Prop) (Ix : Code → Nat → World → Prop) (hI : ∀ k A B, I k A → Below w.heap.size A B → I k B) (hIx : ∀ c k A B, Ix c k A → Below w.heap.size A B → Ix c k B) (h0 : I 0 w)
    (Ax : Nat → Act → World → Prop) (hAx : ∀ k a' A o, Ax k a' A → Ax k a' (A.putObj (w.heap.size + 1) o))
    (hassign : ∀ (l k : Nat) (_ : k < L.length) (A : World) (T : Act → World → Prop), w.heap.size + 2 ≤ A.heap.size → I k A → (∀ a' A', Below A.heap.size A A' → Ax k a' A' → T a' A') →
      assign.wpIn (Fence.wide.inRound l) n P (Exit.then T (fun _ _ _ => False)) { tmps := (ps.zip L[k]).foldl (fun t (p, v) => t.setIfInBounds p v) a.tmps, defers := [] } A)
    (hbody : ∀ (l k : Nat) (_ : k < L.length) (a' : Act) (A : World), w.heap.size + 2 ≤ A.heap.size → I k A → Ax k a' A → body.wpIn (Fence.wide.inRound l) n P (roundQ K w.heap.size I Ix k A) a' A)
    (hdone : ∀ B : World, w.heap.size + 2 ≤ B.heap.size → I L.length B → B.heap[w.heap.size]? = some (.deferred (some [])) → Q .normal { a with defers := { target := .collected w.heap.size, args := #[] } :: a.defers } B)
    (hstop : ∀ (c : Code) (k : Nat) (B : World), w.heap.size + 2 ≤ B.heap.size → Ix c k B → B.heap[w.heap.size]? = some (.deferred (some [])) → c.wpIn Fence.wide n P Q { a with defers := { target := .collected w.heap.size, args := #[] } :: a.defers } B) :
    (Code.rangeFunc g ps assign body).wpIn Fence.wide n P Q a w := by
  refine wpIn_rangeFunc fun fn _ => ?_
  obtain ⟨b, hb⟩ : ∃ b, w.heap.size = b := ⟨_, rfl⟩
  obtain ⟨record, hrec⟩ : ∃ record : LoopState → Option Code → Loop, record = fun st pe => { state := st, pending := pe, fn, tmps := a.tmps, params := ps, assign, body, defers := b } := ⟨_, rfl⟩
  obtain ⟨W, hW⟩ : ∃ W, (w.alloc (.deferred (some []))).alloc (.loop (record .ready none)) = W := ⟨_, rfl⟩
  have hWl : W.heap[b + 1]? = some (.loop (record .ready none)) := by
    rw [← hW, ← hb]
    have := World.alloc_heap_new (w.alloc (.deferred (some []))) (.loop (record .ready none))
    rwa [World.size_alloc] at this
  have hWd : W.heap[b]? = some (.deferred (some [])) := by
    rw [← hW, ← hb]
    exact (Below.heap_alloc _ _ _ (by simp)).trans (World.alloc_heap_new w _)
  have hWz : W.heap.size = b + 2 := by rw [← hW]; simp [hb]
  have hWb : Below b w W := by
    rw [← hW, ← hb]
    exact ((Below.refl _ w).alloc (Nat.le_refl _) _).alloc (by simp) _
  rw [hb] at hI hIx hAx hassign hbody hdone hstop hK
  -- what lies between two rounds
  let J : Nat → World → Prop := fun k A => I k A ∧ A.heap[b + 1]? = some (.loop (record .ready none)) ∧ A.heap[b]? = some (.deferred (some [])) ∧ b + 2 ≤ A.heap.size
  let Jx : Nat → World → Prop := fun k A => ∃ c, Ix c k A ∧ A.heap[b + 1]? = some (.loop (record .done (some c))) ∧ A.heap[b]? = some (.deferred (some [])) ∧ b + 2 ≤ A.heap.size
  refine ⟨b + 1, [{ target := .collected b, args := #[] }], W, { target := .fn (.func gf) lb, args := first ++ #[.func (.yield (b + 1)) #[] #[]] }, W, gf, first ++ #[.func (.yield (b + 1)) #[] #[]] ++ lb, W, ?_, ?_, fun _ _ => trivial, ?_, fun h => by simp [Fence.wide] at h, ?_⟩
  · rw [← hW, hrec, ← hb]
    exact run_enterLoop_outer _ _ _ _ _
  · simp only [resolve, hg]
    simp [go_sem]
  · simp [invoke, go_sem, eg]
  refine callsIn_wide.2 ((hseq (b + 1) J Jx W ?_ (by omega) ?_ ?_ ?_ ?_).mono ?_)
  · intro k hk
    have := hK k hk
    exact ⟨by omega, hWb.block k this⟩
  · rintro k A B ⟨h1, h2, h3, h4⟩ hAB
    rw [hWz] at hAB
    exact ⟨hI k A B h1 (hAB.mono (by omega)), (hAB.block _ (by omega)).trans h2, (hAB.block _ (by omega)).trans h3, Nat.le_trans h4 hAB.size⟩
  · rintro k A B ⟨c, h1, h2, h3, h4⟩ hAB
    rw [hWz] at hAB
    exact ⟨c, hIx c k A B h1 (hAB.mono (by omega)), (hAB.block _ (by omega)).trans h2, (hAB.block _ (by omega)).trans h3, Nat.le_trans h4 hAB.size⟩
  · rintro k hk A _ ⟨h1, h2, h3, h4⟩
    have hy := run_yield (P := P) (args := L[k]) h2 (by rw [hrec]; exact hps k hk)
    rw [hrec] at hy
    refine ⟨fn, _, assign, body, hy, round_any (n := n) rfl (roundIn_of_wpIn trivial (hassign _ k hk A _ h4 h1 ?_))⟩
    intro a' A' hAA hax
    have hz' := hAA.size
    have h2' : A'.heap[b + 1]? = some (.loop (record .ready none)) := (hAA.block _ (by omega)).trans h2
    have h3' : A'.heap[b]? = some (.deferred (some [])) := (hAA.block _ (by omega)).trans h3
    refine ⟨_, run_beginRound h2' (by rw [hrec]), ?_⟩
    obtain ⟨C, hC⟩ : ∃ C, A'.putObj (b + 1) (.loop { record .ready none with state := .busy }) = C := ⟨_, rfl⟩
    have hC2 : C.heap[b + 1]? = some (.loop { record .ready none with state := .busy }) := by rw [← hC]; exact World.putObj_heap_same (by omega)
    have hC3 : C.heap[b]? = some (.deferred (some [])) := by rw [← hC]; exact (World.putObj_heap_other (by omega)).trans h3'
    have hCz : C.heap.size = A'.heap.size := by rw [← hC]; simp
    have hCI : I k C := by
      rw [← hC]
      exact hI k _ _ (hI k _ _ h1 (hAA.mono (by omega))) (below_put _ (by omega))
    have hCx : Ax k a' C := by rw [← hC]; exact hAx k a' A' _ hax
    have hKb : ¬ K (b + 1) := fun h => by have := hK _ h; omega
    have hAC : Spares K (b + 2) A C := by
      rw [← hC]
      exact (Spares.of_below hAA).trans (Spares.put _ hKb (by omega))
    rw [hC]
    refine wpIn_mono (hbody _ k hk a' C (by omega) hCI hCx) ?_
    have fin : ∀ (jump : Option Code) (B : World), Spares K b C B →
        ∃ B', (Instr.endRound (b + 1) jump).run P B = .ok (.bool jump.isNone) B' ∧ B'.heap[b + 1]? = some (.loop (record (if jump.isNone then .ready else .done) jump)) ∧ B'.heap[b]? = some (.deferred (some [])) ∧
          b + 2 ≤ B'.heap.size ∧ Below b B B' ∧ Spares K (b + 2) A B' := fun jump B hCB => by
      have hBz := hCB.size
      have g2 : B.heap[b + 1]? = some (.loop { record .ready none with state := .busy }) := (hCB.block _ (by omega) (.inr (by omega))).trans hC2
      have g3 : B.heap[b]? = some (.deferred (some [])) := (hCB.block _ (by omega) (.inr (by omega))).trans hC3
      have hr := run_endRound (P := P) jump g2
      rw [hrec] at hr
      refine ⟨_, hr, ?_, (World.putObj_heap_other (by omega)).trans g3, by simp; omega, below_put _ (by omega), ?_⟩
      · rw [World.putObj_heap_same (by omega), hrec]
      · exact hAC.trans ((hCB.mono (fun k h => .inl h) (by omega)).trans (Spares.put _ hKb (by omega)))
    intro e a3 B hp
    cases e with
    | normal =>
      obtain ⟨hs, hi⟩ := hp
      obtain ⟨B', hr, f1, f2, f3, f4, f5⟩ := fin none B hs
      exact ⟨_, _, hr, .inl ⟨rfl, ⟨hI _ _ _ hi f4, f1, f2, f3⟩, by rw [hWz]; exact f5⟩⟩
    | ret =>
      obtain ⟨hs, hi⟩ := hp
      obtain ⟨B', hr, f1, f2, f3, f4, f5⟩ := fin (some .ret) B hs
      exact ⟨_, _, hr, .inr ⟨rfl, ⟨.ret, hIx _ _ _ _ hi f4, f1, f2, f3⟩, by rw [hWz]; exact f5⟩⟩
    | exit id =>
      obtain ⟨hs, hi⟩ := hp
      obtain ⟨B', hr, f1, f2, f3, f4, f5⟩ := fin (some (.exit id)) B hs
      exact ⟨_, _, hr, .inr ⟨rfl, ⟨.exit id, hIx _ _ _ _ hi f4, f1, f2, f3⟩, by rw [hWz]; exact f5⟩⟩
    | goto t =>
      obtain ⟨hs, hi⟩ := hp
      obtain ⟨B', hr, f1, f2, f3, f4, f5⟩ := fin (some (.goto t)) B hs
      exact ⟨_, _, hr, .inr ⟨rfl, ⟨.goto t, hIx _ _ _ _ hi f4, f1, f2, f3⟩, by rw [hWz]; exact f5⟩⟩
    | panic ch => exact hp.elim
    | outgrown => exact hp.elim
  · exact ⟨hI 0 _ _ h0 hWb, hWl, hWd, by omega⟩
  · rintro e B ⟨⟨v, rfl⟩, (⟨h1, h2, h3, h4⟩ | ⟨k, c, h1, h2, h3, h4⟩)⟩
    · refine ⟨none, _, (by have := run_endLoop (P := P) h2 (by rw [hrec]; simp); rw [hrec] at this; exact this), ?_⟩
      have := hdone (B.putObj (b + 1) (.loop (record .exhausted none))) (by simp; omega) (hI _ _ _ h1 (below_put _ (by omega))) ((World.putObj_heap_other (by omega)).trans h3)
      simpa [hrec] using this
    · refine ⟨some c, _, (by have := run_endLoop (P := P) h2 (by rw [hrec]; simp); rw [hrec] at this; exact this), ?_⟩
      have := hstop c k (B.putObj (b + 1) (.loop (record .exhausted (some c)))) (by simp; omega) (hIx _ _ _ _ h1 (below_put _ (by omega))) ((World.putObj_heap_other (by omega)).trans h3)
      simpa [hrec] using this

end Go.Proofs.YtbjgbgchagfokaaGreat

namespace Go.Proofs.YtbjgbgchagfokaaGreat
open Go Go.RowKit

def noDefer (ops : Array Oper) : Bool := ops.toList.all fun o => match o.op with
  | .defer _ => false
  | _ => true

theorem noDefer_at {ops : Array Oper} (h : noDefer ops = true) {i : Nat} {o : Oper} (hi : ops[i]? = some o) (c : Call) : o.op ≠ .defer c := by
  intro e
  have hm : o ∈ ops.toList := by
    rw [Array.mem_toList_iff]
    exact Array.mem_of_getElem? hi
  have := List.all_eq_true.1 h o hm
  rw [e] at this
  cases this

section
variable {P : Program} {ops : Array Oper} {md : Region.Mode} {Q : Exit → Act → World → Prop} {l n : Nat}

theorem rowsIn_wide {F : Fence} {P : Program} {row : String} {args : Array Value} {w : World} {R : Value → World → Prop} (hF : F = Fence.wide.inRound l) (h : Rows P row args w R) : RowsIn F n P row args w R := fun c cs _ => by
  subst hF
  obtain ⟨v, w', r, s⟩ := h c cs
  exact ⟨v, w', r, stepsIn_wide.2 s⟩

theorem opIn_of_op {o : Oper} {a : Act} {w : World} {K K' : Act → World → Prop} (ho : ∀ c, o.op ≠ .defer c) (hK : ∀ a w, K a w → K' a w) (h : o.wp P a w K Q) : o.wpIn (Fence.wide.inRound l) n P a w K' Q := by
  refine ⟨fun _ _ => trivial, ?_⟩
  rw [Oper.semAt_eq _ _ _ ho]
  unfold Oper.wp at h
  generalize (execOp a.eval o).run P w = r at h ⊢
  have hd : ¬ (Fence.wide.inRound l).depth.isSome = true := by simp [Fence.wide]
  cases r with
  | ok x w' =>
    cases x <;> simp only [Oper.upon] at h <;> simp only [Oper.uponIn]
    case value => exact hK _ _ h
    case skip => exact hK _ _ h
    case defer => exact hK _ _ h
    case enter f args =>
      refine ⟨fun h => absurd h hd, CallsIn.inRound l (callsIn_wide.2 (h.mono fun e w'' he => ?_))⟩
      cases e with
      | returned v => exact hK _ _ he
      | panicked chain => exact he
      | outgrown => exact he
    case row => exact ⟨fun h => absurd h hd, rowsIn_wide rfl (h.mono fun v w'' he => hK _ _ he)⟩
  | halt x w' => cases x <;> simp only [Oper.upon] at h <;> simp only [Oper.uponIn] <;> exact h

theorem wpAnyIn_of_any (hd : noDefer ops = true) (hq : ¬ LetsOut Q) : ∀ (fuel : Nat) (listed : Array Bool) (a : Act) (w : World), wpAny P md ops Q fuel listed a w → wpAnyIn (Fence.wide.inRound l) n P md ops Q fuel listed a w
  | 0, _, _, _, h => h
  | fuel + 1, listed, a, w, h => ⟨h.1, fun i hi => by
      have hop := h.2 i hi
      unfold wpOp at hop
      unfold wpOpIn
      cases ho : ops[i]? with
      | none =>
        simp only [ho] at hop
        exact wpAnyIn_of_any hd hq fuel _ _ _ hop
      | some o =>
        simp only [ho] at hop ⊢
        split
        · rename_i hw
          rw [if_pos hw] at hop
          exact opIn_of_op (noDefer_at hd ho) (fun a w => wpAnyIn_of_any hd hq fuel _ a w) (hop.resolve_right fun h => hq h.2)
        · rename_i hw
          rw [if_neg hw] at hop
          exact ⟨fun _ _ => trivial, wpAnyIn_of_any hd hq fuel _ _ _ hop⟩⟩

theorem wpIn_region_anyR {id : Nat} {a : Act} {w : World} (hm : P.follows .mixedOrders = true) (hd : noDefer ops = true) (hq : ¬ LetsOut Q)
    (h : wpAny P .any ops Q ops.size (Array.replicate ops.size false) a { w with drawn := w.drawn + 1 }) : (Code.region id ops true).wpIn (Fence.wide.inRound l) n P Q a w :=
  wpIn_region_any hm (wpAnyIn_of_any hd hq _ _ _ _ h)

/-- As wp_region_later, within a round. -/
theorem wpIn_region_laterR {id : Nat} {a : Act} {w : World} {os : List Oper} (hm : P.follows .mixedOrders = true) (hB : Region.lexB .any os.toArray = true) (hd : noDefer os.toArray = true) (hq : ¬ LetsOut Q)
    (h : wpQuiet P os.toArray (fun w' => ∃ x : Later w, w' = x.w) (fun a' => ∀ x : Later w, Q .normal a' x.w) os a) : (Code.region id os.toArray true).wpIn (Fence.wide.inRound l) n P Q a w := by
  simp only [Region.lexB, Bool.and_eq_true] at hB
  refine wpIn_region_anyR hm hd hq (wpAny_of_quiet (C := fun w' => ∃ x : Later w, w' = x.w) (Q := fun a' => ∀ x : Later w, Q .normal a' x.w) (fun _ w' hw' h => by obtain ⟨x, rfl⟩ := hw'; exact h x) _ _ _ _ ⟨⟨_, (Below.refl _ w).drew⟩, rfl⟩ ?_)
  have := wpAnyQ_lex (C := fun w' => ∃ x : Later w, w' = x.w) (md := .any) hB.1 os 0 (Array.replicate os.toArray.size false) a (by simp) (by simpa using hB.2) h
  simpa using this

/-- As wp_region_quiet_lit, within a round. -/
theorem wpIn_region_quietR {id : Nat} {a : Act} {w : World} {os : List Oper} (hm : P.follows .mixedOrders = true) (hB : Region.lexB .any os.toArray = true) (hd : noDefer os.toArray = true) (hq : ¬ LetsOut Q)
    (h : wpQuiet P os.toArray (fun w' => ∃ q, w' = w.drewN q) (fun a' => ∀ w', (∃ q, w' = w.drewN q) → Q .normal a' w') os a) : (Code.region id os.toArray true).wpIn (Fence.wide.inRound l) n P Q a w := by
  simp only [Region.lexB, Bool.and_eq_true] at hB
  refine wpIn_region_anyR hm hd hq (wpAny_of_quiet (C := fun w' => ∃ q, w' = w.drewN q) (Q := fun a' => ∀ w', (∃ q, w' = w.drewN q) → Q .normal a' w') (fun _ w' hw' h => h w' hw') _ _ _ _ ⟨1, rfl⟩ ?_)
  have := wpAnyQ_lex (C := fun w' => ∃ q, w' = w.drewN q) (md := .any) hB.1 os 0 (Array.replicate os.toArray.size false) a (by simp) (by simpa using hB.2) h
  simpa using this

theorem any_later_tail {Q : Exit → Act → World → Prop} {a : Act} {w : World} {l : List Oper} (n : Nat) (hB : Region.lexTailB .any l.toArray n = true)
    (h : wpQuiet P l.toArray (fun w' => ∃ x : Later w, w' = x.w) (fun a' => ∀ x : Later w, wpList P l.toArray Q (l.drop n) a' x.w) (l.take n) a) :
    wpAny P .any l.toArray Q l.toArray.size (Array.replicate l.toArray.size false) a { w with drawn := w.drawn + 1 } := by
  simp only [Region.lexTailB, Bool.and_eq_true, decide_eq_true_eq] at hB
  obtain ⟨⟨⟨⟨hsel, hn⟩, hs⟩, hc⟩, hlex⟩ := hB
  have hn' : n < l.length := by simpa using hn
  have htl : (l.take n).length = n := by simp; omega
  have hdl : (l.drop n).length = l.toArray.size - n := by simp
  have inv0 : HeadInv .any l.toArray n (Array.replicate l.toArray.size false) :=
    ⟨by simp, fun j oj _ hl => (by rw [getD_replicate_false] at hl; cases hl), fun t _ ht => getD_in (by simpa using ht) (getD_replicate_false _ _)⟩
  have H := headQ_lex (md := .any) (g := l.toArray.size - n) hsel hs hc hn (l.take n) 0 _ a (fun j hj => by
    rw [htl] at hj
    simp [hj]) (by simpa using htl) inv0 (by rw [htl]; exact hlex) h
  have := headQ_any (Q := Q) (g := l.toArray.size - n) (fun done a' w' hw' hL => by
    obtain ⟨x, rfl⟩ := hw'
    have := wpAny_of_seq (md := .any) (Q' := Q) (l.drop n) n done a' x.w (fun j => by simp [List.getElem?_drop]) (by rw [hdl]; exact hL.1) (hL.2 x)
    rwa [hdl] at this) _ _ _ { w with drawn := w.drawn + 1 } ⟨⟨_, (Below.refl _ w).drew⟩, rfl⟩ H
  rw [htl, show n + (l.toArray.size - n) = l.toArray.size by omega] at this
  exact this

/-- As wp_region_later_tail, within a round. -/
theorem wpIn_region_later_tailR {id : Nat} {a : Act} {w : World} {os : List Oper} (m : Nat) (hm : P.follows .mixedOrders = true) (hB : Region.lexTailB .any os.toArray m = true) (hd : noDefer os.toArray = true) (hq : ¬ LetsOut Q)
    (h : wpQuiet P os.toArray (fun w' => ∃ x : Later w, w' = x.w) (fun a' => ∀ x : Later w, wpList P os.toArray Q (os.drop m) a' x.w) (os.take m) a) : (Code.region id os.toArray true).wpIn (Fence.wide.inRound l) n P Q a w :=
  wpIn_region_anyR hm hd hq (any_later_tail m hB h)
end

end Go.Proofs.YtbjgbgchagfokaaGreat

namespace Go.Proofs.YtbjgbgchagfokaaGreat
open Go Go.RowKit

def hasB (f : Nat → Int) (x : Int) : Nat → Bool
  | 0 => false
  | k + 1 => hasB f x k || decide (f k = x)
theorem hasB_of (f : Nat → Int) (x : Int) (k : Nat) : ∀ n, k < n → f k = x → hasB f x n = true
  | 0, h, _ => absurd h (Nat.not_lt_zero _)
  | n + 1, h, hb => by
    by_cases e : k = n
    · subst e; simp [hasB, hb]
    · simp [hasB, hasB_of f x k n (by omega) hb]

set_option maxHeartbeats 400000 in
theorem Has_c (x : Int) (a : Option Addr) (n cap : Nat) (f : Nat → Int) (w : World) (hf : Ints w a n f) (hn : n ≤ 1048576) :
    Calls Tryz.prog 55 #[.slice a n cap, .int .i64 x] w fun e w' => e = .returned (.bool (hasB f x n)) ∧ w = w' := by
  go_enter Tryz.func55, Tryz.ntmps55
  go_wp2
  go_loop [5] (fun i => ∃ k : Nat, k ≤ n ∧ i = .int .i64 k ∧ hasB f x k = false) (fun i => n - (intOf i).toNat)
  case atStart => exact ⟨0, Nat.zero_le _, rfl, rfl⟩
  case round =>
    obtain ⟨k, hk, rfl, ho⟩ := hrel
    have Ho := Lib.hid ho
    clear ho
    by_cases hlt : k < n
    · obtain ⟨b, off, rfl, hbs, hc⟩ := Cells.at hf k hlt
      have hck := hc k hlt
      clear hc
      by_cases h1 : f k = x
      · go_wp2
        go_ret
        exact ⟨ret_b (hasB_of f x k n hlt h1).symm, rfl⟩
      go_wp2
      go_round
      case rel => exact ⟨k + 1, by omega, by go_num, by simp only [hasB, Ho.out, Bool.false_or]; exact decide_eq_false h1⟩
      case measure => simp [intOf]; omega
    · go_wp2
      go_ret
      exact ⟨ret_b (by obtain rfl : k = n := by omega
                       exact Ho.out.symm), rfl⟩

def clashB (f : Nat → W2) (i k : Nat) : Bool := decide ((f i).s = (f k).s) || decide ((f i).m = (f k).m)

set_option maxHeartbeats 1000000 in
theorem Clash_c (S M : Int) (a : Option Addr) (n cap : Nat) (f : Nat → W2) (i k : Nat) (w : World) (hf : Wants w a n f) (hi : i < n) (hk : k < n) :
    Calls Tryz.prog 67 #[bookV S M a n cap, .int .i64 i, .int .i64 k] w fun e w' => e = .returned (.bool (clashB f i k)) ∧ Below w.heap.size w w' := by
  obtain ⟨W, hW⟩ : ∃ W, w.alloc (.cells #[.int .i64 S, .int .i64 M, .slice a n cap] 24) = W := ⟨_, rfl⟩
  have hB : Below w.heap.size w W := by rw [← hW]; exact Below.alloc1 (Below.refl _ _) _ (Nat.le_refl _)
  have hR : W.heap[w.heap.size]? = some (.cells #[.int .i64 S, .int .i64 M, .slice a n cap] 24 (0, 0)) := by rw [← hW]; exact heap_new_at _ _ _ rfl
  have r2 : W.cell? ⟨w.heap.size, 2, none⟩ = some (.slice a n cap) := RowIs.cell hR 2
  clear hR
  obtain ⟨b, off, rfl, hbs, c0, c1⟩ := Wants.at (hf.below hB) i hi
  obtain ⟨b', off', he, -, d0, d1⟩ := Wants.at (hf.below hB) k hk
  cases he
  clear hf
  cases hs : decide ((f i).s = (f k).s)
  · go_enter Tryz.func67, Tryz.ntmps67
    have hs' : ((f i).s == (f k).s) = false := by simpa using hs
    go_wp2
    go_quiet (fail)
    go_wp2
    go_ret
    exact ⟨ret_b (by simp only [clashB, hs, Bool.false_or] <;> first | rfl | simp), below_drewN hB _⟩
  · go_enter Tryz.func67, Tryz.ntmps67
    have hs' : ((f i).s == (f k).s) = true := by simpa using hs
    go_wp2
    go_quiet (fail)
    go_wp2
    go_ret
    exact ⟨ret_b (by simp only [clashB, hs, Bool.true_or]), below_drewN hB _⟩

/-- A list of numbers from 0 on below another one, strictly increasing. -/
def listBad (f : Nat → Int) (top : Int) (i : Nat) : Bool := decide (f i < 0 ∨ top ≤ f i ∨ (0 < i ∧ f i ≤ f (i - 1)))
def listB (f : Nat → Int) (top : Int) : Nat → Bool
  | 0 => true
  | k + 1 => listB f top k && !listBad f top k
theorem listB_no (f : Nat → Int) (top : Int) (k : Nat) : ∀ n, k < n → listBad f top k = true → listB f top n = false
  | 0, h, _ => absurd h (Nat.not_lt_zero _)
  | n + 1, h, hb => by
    by_cases e : k = n
    · subst e; simp [listB, hb]
    · simp [listB, listB_no f top k n (by omega) hb]

set_option maxHeartbeats 4000000 in
theorem isList_c (top : Int) (a : Option Addr) (n cap : Nat) (f : Nat → Int) (w : World) (hf : Ints w a n f) (hn : n ≤ 1048576) :
    Calls Tryz.prog 54 #[.slice a n cap, .int .i64 top] w fun e w' => e = .returned (.bool (listB f top n)) ∧ Below w.heap.size w w' := by
  go_enter Tryz.func54, Tryz.ntmps54
  go_wp2
  go_loopw [5] (fun i wr => ∃ k : Nat, k ≤ n ∧ i = .int .i64 k ∧ listB f top k = true ∧ ∃ q, wr = w.drewN q) (fun i _ => n - (intOf i).toNat)
  case atStart => exact ⟨0, Nat.zero_le _, rfl, rfl, 0, rfl⟩
  case round =>
    obtain ⟨k, hk, rfl, ho, q, rfl⟩ := hrel
    have Ho := Lib.hid ho
    clear ho
    by_cases hlt : k < n
    · obtain ⟨b, off, rfl, hbs, hc⟩ := Cells.at hf k hlt
      have hck := hc k hlt
      by_cases b1 : f k < 0
      · clear hc
        have t1 : decide (f k < 0) = true := decide_eq_true b1
        go_wp2
        go_quiet (fail)
        go_wp2
        go_ret
        exact ⟨ret_b (listB_no f top k n hlt (decide_eq_true (.inl b1))).symm, below_drewN (below_drewN (Below.refl _ _) _) _⟩
      have t1 : decide (f k < 0) = false := decide_eq_false b1
      by_cases b2 : top ≤ f k
      · clear hc
        have t2 : decide (top ≤ f k) = true := decide_eq_true b2
        go_wp2
        go_quiet (fail)
        go_wp2
        go_ret
        exact ⟨ret_b (listB_no f top k n hlt (decide_eq_true (.inr (.inl b2)))).symm, below_drewN (below_drewN (Below.refl _ _) _) _⟩
      have t2 : decide (top ≤ f k) = false := decide_eq_false b2
      rcases k with - | j
      · clear hc
        have hc0 : w.cell? ⟨b, off, none⟩ = some (.int .i64 (f 0)) := hck
        have t3 : decide ((0 : Int) < ((0 : Nat) : Int)) = false := by simp
        simp only [Int.natCast_zero] at t3 ⊢
        go_wp2
        go_quiet (fail)
        go_wp2
        go_roundw
        case rel => exact ⟨1, by omega, by go_num, by simp only [listB, Bool.true_and, listBad]; simp; omega, _, rfl⟩
        case measure => simp [intOf]; omega
      · have hcj := hc j (by omega)
        clear hc
        have hj : IntKind.i64.wrap (((j + 1 : Nat) : Int) - 1) = j := by rw [IntWalk.i64_in _ (by omega)]; omega
        have t3 : decide ((0 : Int) < ((j + 1 : Nat) : Int)) = true := decide_eq_true (by omega)
        by_cases b3 : f (j + 1) ≤ f j
        · have t4 : decide (f (j + 1) ≤ f j) = true := decide_eq_true b3
          go_wp2
          go_quiet (fail)
          go_wp2
          go_ret
          exact ⟨ret_b (listB_no f top (j + 1) n hlt (decide_eq_true (.inr (.inr ⟨by omega, b3⟩)))).symm, below_drewN (below_drewN (Below.refl _ _) _) _⟩
        have t4 : decide (f (j + 1) ≤ f j) = false := decide_eq_false b3
        go_wp2
        go_quiet (fail)
        go_wp2
        go_roundw
        case rel => exact ⟨j + 1 + 1, by omega, by go_num, by rw [listB, Ho.out]; simp [listBad]; omega, _, rfl⟩
        case measure => simp [intOf]; omega
    · go_wp2
      go_ret
      exact ⟨ret_b (by obtain rfl : k = n := by omega
                       exact Ho.out.symm), below_drewN (Below.refl _ _) _⟩

end Go.Proofs.YtbjgbgchagfokaaGreat

namespace Go.Proofs.YtbjgbgchagfokaaGreat
open Go Go.RowKit

/-- Do two wants clash, asked with whole numbers. -/
def clashI (f : Nat → W2) (i k : Int) : Bool := clashB f i.toNat k.toNat
theorem clashI_c (S M : Int) (a : Option Addr) (n cap : Nat) (f : Nat → W2) (i k : Int) (w : World) (hf : Wants w a n f) (hi : 0 ≤ i ∧ i < n) (hk : 0 ≤ k ∧ k < n) :
    Calls Tryz.prog 67 #[bookV S M a n cap, .int .i64 i, .int .i64 k] w fun e w' => e = .returned (.bool (clashI f i k)) ∧ Below w.heap.size w w' := by
  obtain ⟨i, rfl⟩ := Int.eq_ofNat_of_zero_le hi.1
  obtain ⟨k, rfl⟩ := Int.eq_ofNat_of_zero_le hk.1
  exact Clash_c S M a n cap f i k w hf (by omega) (by omega)

def dayRow (f : Nat → W2) (g : Nat → Int) (i : Nat) : Nat → Bool
  | 0 => true
  | k + 1 => dayRow f g i k && !clashI f (g i) (g k)
def dayB (f : Nat → W2) (g : Nat → Int) : Nat → Bool
  | 0 => true
  | i + 1 => dayB f g i && dayRow f g i i
theorem dayRow_no (f : Nat → W2) (g : Nat → Int) (i k : Nat) : ∀ n, k < n → clashI f (g i) (g k) = true → dayRow f g i n = false
  | 0, h, _ => absurd h (Nat.not_lt_zero _)
  | n + 1, h, hb => by
    by_cases e : k = n
    · subst e; simp [dayRow, hb]
    · simp [dayRow, dayRow_no f g i k n (by omega) hb]
theorem dayB_no (f : Nat → W2) (g : Nat → Int) (k : Nat) : ∀ n, k < n → dayRow f g k k = false → dayB f g n = false
  | 0, h, _ => absurd h (Nat.not_lt_zero _)
  | n + 1, h, hb => by
    by_cases e : k = n
    · subst e; simp [dayB, hb]
    · simp [dayB, dayB_no f g k n (by omega) hb]


end Go.Proofs.YtbjgbgchagfokaaGreat

namespace Go.Proofs.YtbjgbgchagfokaaGreat
open Go Go.RowKit

def rightRow (f : Nat → W2) (g : Nat → Int) (i : Nat) : Nat → Bool
  | 0 => true
  | k + 1 => rightRow f g i k && !(decide (g i = g k) && clashB f i k)
def rightB (f : Nat → W2) (g : Nat → Int) : Nat → Bool
  | 0 => true
  | i + 1 => rightB f g i && rightRow f g i i
theorem rightRow_no (f : Nat → W2) (g : Nat → Int) (i k : Nat) : ∀ n, k < n → g i = g k → clashB f i k = true → rightRow f g i n = false
  | 0, h, _, _ => absurd h (Nat.not_lt_zero _)
  | n + 1, h, hg, hb => by
    by_cases e : k = n
    · subst e; simp [rightRow, hb, hg]
    · simp [rightRow, rightRow_no f g i k n (by omega) hg hb]
theorem rightB_no (f : Nat → W2) (g : Nat → Int) (k : Nat) : ∀ n, k < n → rightRow f g k k = false → rightB f g n = false
  | 0, h, _ => absurd h (Nat.not_lt_zero _)
  | n + 1, h, hb => by
    by_cases e : k = n
    · subst e; simp [rightB, hb]
    · simp [rightB, rightB_no f g k n (by omega) hb]

set_option maxHeartbeats 4000000 in
theorem IsRight_c (S M : Int) (a : Option Addr) (n cap : Nat) (f : Nat → W2) (la : Option Addr) (len lcap : Nat) (g : Nat → Int) (w : World) (hf : Wants w a n f) (hg : Ints w la len g) (hl : len ≤ 1048576) (hr : len ≤ n) :
    Calls Tryz.prog 85 #[bookV S M a n cap, .slice la len lcap] w fun e w' => e = .returned (.bool (rightB f g len)) ∧ Below w.heap.size w w' := by
  obtain ⟨W, hW⟩ : ∃ W, w.alloc (.cells #[.int .i64 S, .int .i64 M, .slice a n cap] 24) = W := ⟨_, rfl⟩
  have hB : Below w.heap.size w W := by rw [← hW]; exact Below.alloc1 (Below.refl _ _) _ (Nat.le_refl _)
  have hR : W.heap[w.heap.size]? = some (.cells #[.int .i64 S, .int .i64 M, .slice a n cap] 24 (0, 0)) := by rw [← hW]; exact heap_new_at _ _ _ rfl
  have r0 : W.cell? ⟨w.heap.size, 0, none⟩ = some (.int .i64 S) := RowIs.cell hR 0
  have r1 : W.cell? ⟨w.heap.size, 1, none⟩ = some (.int .i64 M) := RowIs.cell hR 1
  have r2 : W.cell? ⟨w.heap.size, 2, none⟩ = some (.slice a n cap) := RowIs.cell hR 2
  have rz : w.heap.size < W.heap.size := (Array.getElem?_eq_some_iff.1 hR).1
  have HfW := Lib.hid (hf.below hB)
  have HgW := Lib.hid (Cells.below hg hB)
  clear hf hg hR
  go_enter Tryz.func85, Tryz.ntmps85
  go_wp2
  clear hW
  go_loopw [5, 6] (fun i _ wr => ∃ k : Nat, k ≤ len ∧ i = .int .i64 k ∧ rightB f g k = true ∧ Below W.heap.size W wr) (fun i _ _ => len - (intOf i).toNat)
  case atStart => exact ⟨0, Nat.zero_le _, rfl, rfl, Below.refl _ _⟩
  case round =>
    obtain ⟨k, hk, rfl, hd, hB2⟩ := hrel
    have Hd := Lib.hid hd
    clear hd
    by_cases hlt : k < len
    · go_wp2
      go_loopw [6] (fun c wi => ∃ j : Nat, j ≤ k ∧ c = .int .i64 j ∧ rightRow f g k j = true ∧ Below W.heap.size W wi) (fun c _ => k - (intOf c).toNat)
      case atStart => exact ⟨0, Nat.zero_le _, rfl, rfl, hB2⟩
      case round =>
        obtain ⟨j, hj, rfl, he, hB3⟩ := hrel
        have He := Lib.hid he
        clear he
        by_cases hjk : j < k
        · have q0 := (hB3.cell (p := ⟨w.heap.size, 0, none⟩) rz).trans r0
          have q1 := (hB3.cell (p := ⟨w.heap.size, 1, none⟩) rz).trans r1
          have q2 := (hB3.cell (p := ⟨w.heap.size, 2, none⟩) rz).trans r2
          have qz := Nat.lt_of_lt_of_le rz hB3.size
          obtain ⟨b, off, rfl, hbs, hc⟩ := Cells.at (Cells.below HgW.out hB3) k hlt
          have ck := hc k hlt
          have cj := hc j (by omega)
          have HF := Lib.hid (Wants.below HfW.out hB3)
          clear hc r0 r1 r2
          have hlc := fun (x : Later wr) => later_cell x
          cases ht : decide (g k = g j)
          · have ht' : (g k == g j) = false := by simpa using ht
            have HT := Lib.hid ht
            clear ht
            go_wp2
            refine wp_region_later (by kernel_rfl) (by kernel_rfl) ?_
            repeat (go_big_quiet_step (fail))
            refine wpQuiet_nil ?_
            clear hlc
            rintro ⟨w1, hb1⟩
            go_wp2
            go_roundw
            case rel => exact ⟨j + 1, by omega, by go_num, by rw [rightRow, He.out, HT.out]; rfl, bup hB3 hb1⟩
            case measure => simp [intOf]; omega
          have ht' : (g k == g j) = true := by simpa using ht
          have HT := Lib.hid ht
          clear ht
          go_wp2
          refine wp_region_later (by kernel_rfl) (by kernel_rfl) ?_
          repeat (go_big_quiet_step ((refine calls_later (Clash_c S M a n cap f k j _ (Wants.below HF.out (Later.h _)) (by omega) (by omega)))))
          refine wpQuiet_nil ?_
          clear hlc
          rintro ⟨w1, hb1⟩
          cases hc : clashB f k j
          · go_wp2
            go_roundw
            case rel => exact ⟨j + 1, by omega, by go_num, by rw [rightRow, He.out, hc, HT.out]; rfl, bup hB3 hb1⟩
            case measure => simp [intOf]; omega
          · go_wp2
            go_ret
            exact ⟨ret_b (rightB_no f g k len hlt (rightRow_no f g k j k hjk (of_decide_eq_true HT.out) hc)).symm, bup hB (bup hB3 hb1)⟩
        · go_wp2
          go_roundw
          case rel => exact ⟨k + 1, by omega, by go_num, by obtain rfl : j = k := by omega
                                                            rw [rightB, Hd.out, He.out]; rfl, hB3⟩
          case measure => simp [intOf]; omega
    · go_wp2
      go_ret
      exact ⟨ret_b (by obtain rfl : k = len := by omega
                       exact Hd.out.symm), bup hB hB2⟩

/-- How many different numbers a list has. -/
def differentN (g : Nat → Int) : Nat → Nat
  | 0 => 0
  | k + 1 => differentN g k + if hasB g (g k) k then 0 else 1
theorem differentN_le (g : Nat → Int) : ∀ n, differentN g n ≤ n
  | 0 => Nat.le_refl _
  | n + 1 => by have := differentN_le g n; unfold differentN; split <;> omega

set_option maxHeartbeats 4000000 in
theorem Different_c (la : Option Addr) (len lcap : Nat) (g : Nat → Int) (w : World) (hg : Ints w la len g) (hl : len ≤ 1048576) (hc2 : len ≤ lcap) (hc3 : lcap ≤ 9223372036854775807) :
    Calls Tryz.prog 31 #[.slice la len lcap] w fun e w' => e = .returned (.int .i64 (differentN g len)) ∧ Below w.heap.size w w' := by
  go_enter Tryz.func31, Tryz.ntmps31
  go_wp2
  go_loopw [3, 4] (fun s i wr => ∃ k : Nat, k ≤ len ∧ i = .int .i64 k ∧ s = .int .i64 (differentN g k) ∧ Below w.heap.size w wr) (fun _ i _ => len - (intOf i).toNat)
  case atStart => exact ⟨0, Nat.zero_le _, rfl, rfl, Below.refl _ _⟩
  case round =>
    obtain ⟨k, hk, rfl, rfl, hB2⟩ := hrel
    have hD := differentN_le g k
    by_cases hlt : k < len
    · obtain ⟨b, off, rfl, hbs, hc⟩ := Cells.at (Cells.below hg hB2) k hlt
      have ck := hc k hlt
      have HG := Lib.hid (show Ints wr (some ⟨b, off, none⟩) k g from .inr ⟨b, off, rfl, hbs, fun i hi => hc i (by omega)⟩)
      clear hc hg
      have hlc := fun (x : Later wr) => later_cell x
      go_wp2
      refine wp_region_later (by kernel_rfl) (by kernel_rfl) ?_
      repeat (go_big_quiet_step ((refine calls_later_same (Has_c (g k) (some ⟨b, off, none⟩) k lcap g _ (Cells.below HG.out (Later.h _)) (by omega)))))
      refine wpQuiet_nil ?_
      clear hlc
      rintro ⟨w1, hb1⟩
      cases hh : hasB g (g k) k
      · go_wp2
        go_roundw
        case rel => exact ⟨k + 1, by omega, by go_num, by rw [differentN, hh]; go_num, bup hB2 hb1⟩
        case measure => simp [intOf]; omega
      · go_wp2
        go_roundw
        case rel => exact ⟨k + 1, by omega, by go_num, by rw [differentN, hh]; rfl, bup hB2 hb1⟩
        case measure => simp [intOf]; omega
    · go_wp2
      go_ret
      exact ⟨ret_i (by obtain rfl : k = len := by omega
                       rfl), hB2⟩

end Go.Proofs.YtbjgbgchagfokaaGreat

namespace Go.Proofs.YtbjgbgchagfokaaGreat
open Go Go.RowKit

/-- The error of a list. -/
def listE (S M : Int) (n : Nat) (f : Nat → W2) (len : Nat) (g : Nat → Int) : Int :=
  if bookE S M n f = 0 then (if listB g n len = true then (if dayB f g len = true then 0 else 18) else 3) else bookE S M n f
theorem listB_range (g : Nat → Int) (top : Int) : ∀ n, listB g top n = true → ∀ i, i < n → 0 ≤ g i ∧ g i < top
  | 0, _, _, h => absurd h (Nat.not_lt_zero _)
  | n + 1, h, i, hi => by
    simp only [listB, Bool.and_eq_true, Bool.not_eq_true', listBad, decide_eq_false_iff_not] at h
    by_cases e : i = n
    · subst e; omega
    · exact listB_range g top n h.1 i (by omega)


/-- Are all numbers of a list days. -/
def daysIn (g : Nat → Int) : Nat → Bool
  | 0 => true
  | k + 1 => daysIn g k && decide (0 ≤ g k ∧ g k ≤ 13)
theorem daysIn_no (g : Nat → Int) (k : Nat) : ∀ n, k < n → (g k < 0 ∨ 13 < g k) → daysIn g n = false
  | 0, h, _ => absurd h (Nat.not_lt_zero _)
  | n + 1, h, hb => by
    by_cases e : k = n
    · subst e; simp [daysIn]; omega
    · simp [daysIn, daysIn_no g k n (by omega) hb]

/-- The error of days. -/
def daysE (S M : Int) (n : Nat) (f : Nat → W2) (len : Nat) (g : Nat → Int) : Int :=
  if bookE S M n f = 0 then (if len = n then (if daysIn g len = true then (if rightB f g len = true then 0 else 18) else 3) else 15) else bookE S M n f
/-- How many days, if there is no error. -/
def daysN (e : Int) (g : Nat → Int) (len : Nat) : Int := if e = 0 then differentN g len else 0

set_option maxHeartbeats 8000000 in
theorem rcheckDays_c (S M : Int) (a : Option Addr) (n cap : Nat) (f : Nat → W2) (la : Option Addr) (len lcap : Nat) (g : Nat → Int) (w : World) (hf : Wants w a n f) (hn : n ≤ 1048576) (hg : Ints w la len g) (hl : len ≤ 1048576) (hc2 : len ≤ lcap) (hc3 : lcap ≤ 9223372036854775807) :
    Calls Tryz.prog 66 #[bookV S M a n cap, .slice la len lcap] w fun e w' => e = .returned (.tuple #[.int .i64 (daysN (daysE S M n f len g) g len), .int .i64 (daysE S M n f len g)]) ∧ Below w.heap.size w w' := by
  obtain ⟨W, hW⟩ : ∃ W, w.alloc (.cells #[.int .i64 S, .int .i64 M, .slice a n cap] 24) = W := ⟨_, rfl⟩
  have hB : Below w.heap.size w W := by rw [← hW]; exact Below.alloc1 (Below.refl _ _) _ (Nat.le_refl _)
  have hR : W.heap[w.heap.size]? = some (.cells #[.int .i64 S, .int .i64 M, .slice a n cap] 24 (0, 0)) := by rw [← hW]; exact heap_new_at _ _ _ rfl
  have r0 : W.cell? ⟨w.heap.size, 0, none⟩ = some (.int .i64 S) := RowIs.cell hR 0
  have r1 : W.cell? ⟨w.heap.size, 1, none⟩ = some (.int .i64 M) := RowIs.cell hR 1
  have r2 : W.cell? ⟨w.heap.size, 2, none⟩ = some (.slice a n cap) := RowIs.cell hR 2
  have rz : w.heap.size < W.heap.size := (Array.getElem?_eq_some_iff.1 hR).1
  have HfW := Lib.hid (hf.below hB)
  have HgW := Lib.hid (Cells.below hg hB)
  clear hf hg hR
  obtain ⟨v, hv⟩ : ∃ v, bookE S M n f = v := ⟨_, rfl⟩
  have ev : daysE S M n f len g = if v = 0 then (if len = n then (if daysIn g len = true then (if rightB f g len = true then 0 else 18) else 3) else 15) else v := by rw [daysE, hv]
  obtain ⟨u, hu⟩ : ∃ u, daysE S M n f len g = u := ⟨_, rfl⟩
  rw [hu]
  have EV := Lib.hid (hu.symm.trans ev)
  clear hu ev
  obtain ⟨d, hd⟩ : ∃ d, daysN u g len = d := ⟨_, rfl⟩
  rw [hd]
  have DV := Lib.hid (hd.symm.trans (show daysN u g len = if u = 0 then (differentN g len : Int) else 0 from rfl))
  clear hd
  go_enter Tryz.func66, Tryz.ntmps66
  go_wp2_with fail
  refine (rcheckBook_c S M a n cap f W HfW.out hn).mono ?_
  rintro e w1 ⟨rfl, hb1⟩
  rw [hv]
  have q0 := (hb1.cell (p := ⟨w.heap.size, 0, none⟩) rz).trans r0
  have q1 := (hb1.cell (p := ⟨w.heap.size, 1, none⟩) rz).trans r1
  have q2 := (hb1.cell (p := ⟨w.heap.size, 2, none⟩) rz).trans r2
  replace rz := Nat.lt_of_lt_of_le rz hb1.size
  have Hf1 := Lib.hid (Wants.below HfW.out hb1)
  have Hg1 := Lib.hid (Cells.below HgW.out hb1)
  have hB1 := bup hB hb1
  clear hW r0 r1 r2 HfW HgW hB hb1
  by_cases hv0 : v = 0
  case neg =>
    have t0 : (v != 0) = true := by simpa using hv0
    go_wp2_with fail
    refine (rcheckBook_c S M a n cap f w1 Hf1.out hn).mono ?_
    rintro e w2 ⟨rfl, hb2⟩
    rw [hv]
    go_wp2_with fail
    refine bodyPost_ret (v := .tuple #[.int .i64 0, .int .i64 v]) (by simp [results, Tryz.results66, go_sem]) rfl ⟨?_, ?_⟩
    · have h1 : u = v := by rw [EV.out, if_neg hv0]
      rw [DV.out, h1, if_neg hv0]
    · exact bup hB1 hb2
  subst hv0
  have HV := Lib.hid hv
  clear hv
  by_cases hln : len = n
  case neg =>
    have t1 : ((len : Int) != (n : Int)) = true := by simp; omega
    have HL := Lib.hid hln
    clear hln
    go_wp2_with fail
    refine bodyPost_ret (v := .tuple #[.int .i64 0, .int .i64 15]) (by simp [results, Tryz.results66, go_sem]) rfl ⟨?_, ?_⟩
    · have h1 : u = 15 := by simp [EV.out, HL.out]
      rw [DV.out, h1]; rfl
    · exact hB1
  subst hln
  go_wp2_with fail
  go_loopw [6] (fun i wr => ∃ k : Nat, k ≤ len ∧ i = .int .i64 k ∧ daysIn g k = true ∧ w1 = wr) (fun i _ => len - (intOf i).toNat)
  case atStart => exact ⟨0, Nat.zero_le _, rfl, rfl, rfl⟩
  case round =>
    obtain ⟨k, hk, rfl, ho, rfl⟩ := hrel
    have Ho := Lib.hid ho
    clear ho
    by_cases hlt : k < len
    · obtain ⟨b, off, rfl, hbs, hc⟩ := Cells.at Hg1.out k hlt
      have ck := hc k hlt
      clear hc
      by_cases b1 : g k < 0
      · go_wp2_with fail
        refine bodyPost_ret (v := .tuple #[.int .i64 0, .int .i64 3]) (by simp [results, Tryz.results66, go_sem]) rfl ⟨?_, ?_⟩
        · have h1 : u = 3 := by simp [EV.out, daysIn_no g k len hlt (.inl b1)]
          rw [DV.out, h1]; rfl
        · exact hB1
      by_cases b2 : 13 < g k
      · go_wp2_with fail
        refine bodyPost_ret (v := .tuple #[.int .i64 0, .int .i64 3]) (by simp [results, Tryz.results66, go_sem]) rfl ⟨?_, ?_⟩
        · have h1 : u = 3 := by simp [EV.out, daysIn_no g k len hlt (.inr b2)]
          rw [DV.out, h1]; rfl
        · exact hB1
      go_wp2_with fail
      go_roundw
      case rel => exact ⟨k + 1, by omega, by go_num, by simp only [daysIn, Ho.out, Bool.true_and]; exact decide_eq_true (by omega), trivial⟩
      case measure => simp [intOf]; omega
    · obtain rfl : k = len := by omega
      go_wp2_with fail
      refine (IsRight_c S M a k cap f la k lcap g w1 Hf1.out Hg1.out hl (Nat.le_refl _)).mono ?_
      rintro e w3 ⟨rfl, hb3⟩
      have Hg3 := Lib.hid (Cells.below Hg1.out hb3)
      replace hB1 := bup hB1 hb3
      clear Hf1 Hg1 q0 q1 q2
      cases hD : rightB f g k
      · have HD := Lib.hid hD
        clear hD
        go_wp2_with fail
        refine bodyPost_ret (v := .tuple #[.int .i64 0, .int .i64 18]) (by simp [results, Tryz.results66, go_sem]) rfl ⟨?_, ?_⟩
        · have h1 : u = 18 := by simp [EV.out, Ho.out, HD.out]
          rw [DV.out, h1]; rfl
        · exact hB1
      have HD := Lib.hid hD
      clear hD
      go_wp2_with fail
      refine (Different_c la k lcap g w3 Hg3.out hl hc2 hc3).mono ?_
      rintro e w4 ⟨rfl, hb4⟩
      go_wp2_with fail
      refine bodyPost_ret (v := .tuple #[.int .i64 (differentN g k), .int .i64 0]) (by simp [results, Tryz.results66, go_sem]) rfl ⟨?_, ?_⟩
      · have h1 : u = 0 := by simp [EV.out, Ho.out, HD.out]
        rw [DV.out, h1]; rfl
      · exact bup hB1 hb4

end Go.Proofs.YtbjgbgchagfokaaGreat

namespace Go.Proofs.YtbjgbgchagfokaaGreat
open Go Go.RowKit

/-- A row of so many numbers. -/
def rowA (s : Nat) (h : Nat → Int) : Array Value := ((List.range s).map fun i => Value.int .i64 (h i)).toArray
theorem rowA_get (s : Nat) (h : Nat → Int) (j : Nat) (hj : j < s) : (rowA s h)[j]? = some (.int .i64 (h j)) := by simp [rowA, hj]
theorem rowA_set (s : Nat) (h g : Nat → Int) (j : Nat) (v : Int) (hv : v = g j) (hg : ∀ i, i < s → i ≠ j → g i = h i) : (rowA s h).setIfInBounds j (.int .i64 v) = rowA s g := by
  apply Array.ext_getElem?
  intro i
  simp only [rowA, Array.getElem?_setIfInBounds]
  by_cases e : j = i
  · subst e
    by_cases hj : j < s
    · simp [hj, hv]
    · simp [hj]
  · by_cases hi : i < s
    · simp [e, hi, hg i hi (fun h => e h.symm)]
    · simp [e, hi]
theorem make_row : ∀ (s : Nat) (_ : s ≤ 6) (w : World), (Instr.makeSlice 25 (.int .i64 (s : Int)) (.int .i64 (s : Int))).run Tryz.prog w = .ok (.slice (some ⟨w.heap.size, 0, none⟩) s s) (w.alloc (.cells (rowA s fun _ => 0) 3))
  | 0, _, w => by
    have h : (Instr.makeSlice 25 (.int .i64 0) (.int .i64 0)).run Tryz.prog w = .ok (.slice (some ⟨w.heap.size, 0, none⟩) 0 0) (w.alloc (.cells (rowA 0 fun _ => 0) 3)) := by kernel_rfl
    exact h
  | 1, _, w => by
    have h : (Instr.makeSlice 25 (.int .i64 1) (.int .i64 1)).run Tryz.prog w = .ok (.slice (some ⟨w.heap.size, 0, none⟩) 1 1) (w.alloc (.cells (rowA 1 fun _ => 0) 3)) := by kernel_rfl
    exact h
  | 2, _, w => by
    have h : (Instr.makeSlice 25 (.int .i64 2) (.int .i64 2)).run Tryz.prog w = .ok (.slice (some ⟨w.heap.size, 0, none⟩) 2 2) (w.alloc (.cells (rowA 2 fun _ => 0) 3)) := by kernel_rfl
    exact h
  | 3, _, w => by
    have h : (Instr.makeSlice 25 (.int .i64 3) (.int .i64 3)).run Tryz.prog w = .ok (.slice (some ⟨w.heap.size, 0, none⟩) 3 3) (w.alloc (.cells (rowA 3 fun _ => 0) 3)) := by kernel_rfl
    exact h
  | 4, _, w => by
    have h : (Instr.makeSlice 25 (.int .i64 4) (.int .i64 4)).run Tryz.prog w = .ok (.slice (some ⟨w.heap.size, 0, none⟩) 4 4) (w.alloc (.cells (rowA 4 fun _ => 0) 3)) := by kernel_rfl
    exact h
  | 5, _, w => by
    have h : (Instr.makeSlice 25 (.int .i64 5) (.int .i64 5)).run Tryz.prog w = .ok (.slice (some ⟨w.heap.size, 0, none⟩) 5 5) (w.alloc (.cells (rowA 5 fun _ => 0) 3)) := by kernel_rfl
    exact h
  | 6, _, w => by
    have h : (Instr.makeSlice 25 (.int .i64 6) (.int .i64 6)).run Tryz.prog w = .ok (.slice (some ⟨w.heap.size, 0, none⟩) 6 6) (w.alloc (.cells (rowA 6 fun _ => 0) 3)) := by kernel_rfl
    exact h
  | n + 7, h, _ => absurd h (by omega)

end Go.Proofs.YtbjgbgchagfokaaGreat
