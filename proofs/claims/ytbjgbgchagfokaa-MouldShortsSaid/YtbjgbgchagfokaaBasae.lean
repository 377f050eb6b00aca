/- Contracts of package kit: the best of some lists. -/
import Derived.RangeFuncBound
import Derived.Shelf.Abstract
import Derived.Shelf.RegionOpen
import Derived.OwnWalkIn
import Derived.TacticsInMore
import Derived.LoopNIn
import Derived.LoopIn
import Derived.Scope
import Derived.Test.YtbjgbgchagfokaaProg
import Derived.Test.YtbjgbgchagfokaaBasaa
import Derived.Test.YtbjgbgchagfokaaBasab
import Derived.Test.YtbjgbgchagfokaaBasad
import Derived.Test.YtbjgbgchagfokaaBasac
namespace Go.Proofs.Ytbjgbgchagfokaa
open Go Go.RowKit Go.Shelf
attribute [local go_sem] Oper.semAt_some

/-- The first one of a list than which none is better. -/
def bestStep {α : Type} (lt : α → α → Bool) (o : Option α) (x : α) : Option α := match o with
  | none => some x
  | some y => if lt x y then some x else some y
def bestS {α : Type} (lt : α → α → Bool) (l : List α) : Option α := l.foldl (bestStep lt) none
theorem bestS_take {α : Type} (lt : α → α → Bool) {l : List α} {k : Nat} (h : k < l.length) : bestS lt (l.take (k + 1)) = bestStep lt (bestS lt (l.take k)) l[k] := by
  unfold bestS
  rw [List.take_succ_eq_append_getElem h, List.foldl_append]
  rfl
theorem bestS_mem {α : Type} (lt : α → α → Bool) : ∀ (l : List α) (o : Option α) (y : α), l.foldl (bestStep lt) o = some y → o = some y ∨ y ∈ l
  | [], _, _, h => .inl h
  | x :: l, o, y, h => by
    rcases bestS_mem lt l _ y h with h | h
    · cases o with
      | none => simp only [bestStep, Option.some.injEq] at h; exact .inr (by simp [h])
      | some z =>
        simp only [bestStep] at h
        split at h
        · simp only [Option.some.injEq] at h; exact .inr (by simp [h])
        · exact .inl h
    · exact .inr (by simp [h])
theorem bestS_in {α : Type} {lt : α → α → Bool} {l : List α} {k : Nat} {y : α} (h : bestS lt (l.take k) = some y) : y ∈ l := by
  rcases bestS_mem lt _ _ _ h with h | h
  · cases h
  · exact List.mem_of_mem_take h

/-- What is kept behind k lists lies in box b. -/
def KeptAt (lt : List Nat → List Nat → Bool) (L : List (List Nat)) (k b : Nat) (A : World) : Prop :=
  ∃ p cap, RowIs A b #[.slice p ((bestS lt (L.take k)).getD []).length cap] 25 ∧ Lst A ((bestS lt (L.take k)).getD []) p cap
theorem kept_still {r : Nat} (lt : List Nat → List Nat → Bool) (L : List (List Nat)) (k b : Nat) : Still r (KeptAt lt L k b) :=
  .ex fun _ => .ex fun _ => (Still.row _ _ _ _).and (Lst.still _ _ _)
theorem kept_start (lt : List Nat → List Nat → Bool) (L : List (List Nat)) (b : Nat) (A : World) (h : RowIs A b #[.slice none 0 0] 25) : KeptAt lt L 0 b A := ⟨none, 0, h, lst_nil⟩

set_option maxRecDepth 100000 in
set_option maxHeartbeats 4000000 in
theorem bestList_c (gf : Nat) (gfirst glb : Array Value) (K : Nat → Prop) (L : List (List Nat)) (bf : Nat) (bfirst blb : Array Value) (lt : List Nat → List Nat → Bool) (w : World)
    (hG : GivesA Try.prog gf gfirst glb K L LstV w) (hK : ∀ k, K k → k < w.heap.size) (eg : ∀ args w, (callFunc gf args).run Try.prog w = .ok (.enter gf args) w) (eb : ∀ args w, (callFunc bf args).run Try.prog w = .ok (.enter bf args) w)
    (hbt : ∀ W, Below w.heap.size w W → ∀ x ∈ L, ∀ y ∈ L, ∀ p cap q cap', Lst W x p cap → Lst W y q cap' → Calls Try.prog bf (bfirst ++ #[.slice p x.length cap, .slice q y.length cap'] ++ blb) W fun e w' => e = .returned (.bool (lt x y)) ∧ Below W.heap.size W w') :
    Calls Try.prog 85 #[.func (.func gf) gfirst glb, .func (.func bf) bfirst blb] w fun e w' => ∃ p cap, e = .returned (.tuple #[.slice p ((bestS lt L).getD []).length cap, .bool (bestS lt L).isSome]) ∧ Lst w' ((bestS lt L).getD []) p cap ∧ Below w.heap.size w w' := by
  obtain ⟨W, hW⟩ : ∃ W, ((w.alloc (.cells #[.func (.func bf) bfirst blb] 35)).alloc (.cells #[.slice none 0 0] 25)).alloc (.cells #[.bool false] 4) = W := ⟨_, rfl⟩
  have hB0 : Below w.heap.size w W := by rw [← hW]; exact Below.alloc1 (Below.alloc1 (Below.alloc1 (Below.refl _ _) _ (Nat.le_refl _)) _ (Nat.le_refl _)) _ (Nat.le_refl _)
  have h3 : RowIs W w.heap.size #[.func (.func bf) bfirst blb] 35 := by rw [← hW]; exact RowIs.alloc (RowIs.alloc (heap_new_at _ _ _ rfl) _) _
  have h6 : RowIs W (w.heap.size + 1) #[.slice none 0 0] 25 := by rw [← hW]; exact RowIs.alloc (heap_new_at _ _ _ (by simp)) _
  have h7 : RowIs W (w.heap.size + 2) #[.bool false] 4 := by rw [← hW]; exact heap_new_at _ _ _ (by simp)
  have hzW : W.heap.size = w.heap.size + 3 := by rw [← hW]; simp
  have c7 : W.cell? ⟨w.heap.size + 2, 0, none⟩ = some (.bool false) := h7.cell 0
  have z7 := h7.frozen 0
  have zz7 : w.heap.size + 2 < W.heap.size := by omega
  have H3 := Lib.hid h3
  have H6 := Lib.hid h6
  have H7 := Lib.hid h7
  have HzW := Lib.hid hzW
  have HB0 := Lib.hid hB0
  have HG := Lib.hid hG
  have HK := Lib.hid hK
  have Hbt := Lib.hid hbt
  clear h3 h6 h7 hzW hB0 hG hK hbt
  refine (callsIn_wide (n := 1)).1 ?_
  refine callsIn_of_wp_marks Try.func85 rfl trivial ?_ rfl
  simp only [Try.ntmps85, List.size_toArray, List.length_cons, List.length_nil, Nat.reduceAdd, Nat.reduceSub, Array.replicate_succ, Array.replicate_zero, List.push_toArray, List.append_toArray, List.nil_append, List.cons_append]
  gi_wp2_with fail
  obtain ⟨W2, hW2⟩ : ∃ W2, W.setCell ⟨w.heap.size + 1 + 1, 0, none⟩ (.bool false) = W2 := ⟨_, rfl⟩
  have hb2 : Below (w.heap.size + 2) W W2 := by rw [← hW2]; exact (Below.refl _ _).setCell (p := ⟨w.heap.size + 1 + 1, 0, none⟩) (Nat.le_refl _) _
  have hf2 : RowIs W2 (w.heap.size + 2) #[.bool false] 4 := by rw [← hW2]; exact RowIs.set H7.out 0 (.bool false)
  have hzW2 : W2.heap.size = w.heap.size + 3 := by rw [← hW2]; simp [World.setCell, HzW.out]
  have hB2 : Below w.heap.size w W2 := HB0.out.trans (hb2.mono (by omega))
  have h32 := (hb2.block w.heap.size (by omega)).trans H3.out
  have h62 := (hb2.block (w.heap.size + 1) (by omega)).trans H6.out
  have hG2 := HG.out.later HK.out hB2.size fun k hk => hB2.block k (HK.out k hk)
  rw [hW2]
  clear hW2 hW c7 z7
  refine wpIn_rangeA (gf := gf) (first := gfirst) (lb := glb) rfl eg hG2 (fun k hk => Nat.lt_of_lt_of_le (HK.out k hk) hB2.size) (fun A x vs h => by obtain ⟨p, cap, rfl, _⟩ := h; rfl)
    (fun x vs => .ex fun _ => .ex fun _ => (Still.pure _).and (Lst.still _ _ _))
    (fun k A => (Below w.heap.size w A ∧ w.heap.size ≤ A.heap.size) ∧ RowIs A w.heap.size #[.func (.func bf) bfirst blb] 35 ∧ KeptAt lt L k (w.heap.size + 1) A ∧ RowIs A (w.heap.size + 2) #[.bool (bestS lt (L.take k)).isSome] 4)
    (fun _ _ _ => False)
    (fun k => (Still.below _ _ (by omega)).and ((Still.row _ _ _ _).and ((kept_still _ _ _ _).and (Still.row _ _ _ _))))
    (fun _ _ => Still.pure _)
    ⟨⟨hB2, hB2.size⟩, h32, kept_start _ _ _ _ h62, hf2⟩
    (fun k vs a' _ => ∃ v, vs = #[v] ∧ a' = { tmps := #[.func (.func gf) gfirst glb, .func (.func bf) bfirst blb, undef, .pointer (some ⟨w.heap.size, 0, none⟩), .slice none 0 0, .bool false, .pointer (some ⟨w.heap.size + 1, 0, none⟩), .pointer (some ⟨w.heap.size + 1 + 1, 0, none⟩), v, .func (.func gf) gfirst glb, v, undef, undef, undef, undef, undef, undef, undef, undef, undef, undef, undef], defers := [] })
    (fun k vs a' => Still.pure _)
    ?assign ?body ?done ?stop
  case assign =>
    rintro lx k hk A vs T hA hI ⟨p, cap, rfl, hL⟩ hT
    gi_wp2
    exact hT _ _ (Below.refl _ _) ⟨_, rfl, rfl⟩
  case body =>
    rintro lx k hk vs a' A hA ⟨⟨g1, g1'⟩, g2, ⟨q, qc, g3, g4⟩, g5⟩ ⟨p, cap, rfl, hL⟩ ⟨v, hv, rfl⟩
    obtain rfl : Value.slice p L[k].length cap = v := by simpa using hv
    have hst := bestS_take lt hk
    obtain ⟨x, hxx⟩ : ∃ x, L[k] = x := ⟨_, rfl⟩
    have hxm : x ∈ L := by rw [← hxx]; exact List.getElem_mem hk
    rw [hxx] at hst hL ⊢
    have f0 : A.cell? ⟨w.heap.size + 2, 0, none⟩ = some (.bool (bestS lt (L.take k)).isSome) := g5.cell 0
    have f1 := RowIs.frozen g5 0
    have b0 : A.cell? ⟨w.heap.size, 0, none⟩ = some (.func (.func bf) bfirst blb) := g2.cell 0
    have k0 : A.cell? ⟨w.heap.size + 1, 0, none⟩ = some (.slice q ((bestS lt (L.take k)).getD []).length qc) := g3.cell 0
    have k1 := RowIs.frozen g3 0
    have z3 : w.heap.size + 2 < A.heap.size := by omega
    have z2 : w.heap.size + 1 < A.heap.size := by omega
    have z0 : w.heap.size < A.heap.size := by omega
    have hfin : ∀ (A' : World) (f : Bool) (v : Value), Below A.heap.size A A' → RowIs A' (w.heap.size + 2) #[.bool f] 4 → RowIs A' (w.heap.size + 1) #[v] 25 → ∀ a, bestS lt (L.take (k + 1)) = some x → roundQ K W2.heap.size (fun k A => (Below w.heap.size w A ∧ w.heap.size ≤ A.heap.size) ∧ RowIs A w.heap.size #[.func (.func bf) bfirst blb] 35 ∧ KeptAt lt L k (w.heap.size + 1) A ∧ RowIs A (w.heap.size + 2) #[.bool (bestS lt (L.take k)).isSome] 4) (fun _ _ _ => False) k A .normal a ((A'.setCell ⟨w.heap.size + 1, 0, none⟩ (.slice p x.length cap)).setCell ⟨w.heap.size + 1 + 1, 0, none⟩ (.bool true)) := by
      intro A' f v hA' hr hr2 a hs
      have hb : Below (w.heap.size + 1) A ((A'.setCell ⟨w.heap.size + 1, 0, none⟩ (.slice p x.length cap)).setCell ⟨w.heap.size + 1 + 1, 0, none⟩ (.bool true)) := ((hA'.mono (show w.heap.size + 1 ≤ A.heap.size by omega)).setCell (p := ⟨w.heap.size + 1, 0, none⟩) (Nat.le_refl _) _).setCell (p := ⟨w.heap.size + 1 + 1, 0, none⟩) (Nat.le_succ _) _
      have hsame : ∀ i, i < A.heap.size → i ≠ w.heap.size + 1 → i ≠ w.heap.size + 2 → ((A'.setCell ⟨w.heap.size + 1, 0, none⟩ (.slice p x.length cap)).setCell ⟨w.heap.size + 1 + 1, 0, none⟩ (.bool true)).heap[i]? = A.heap[i]? := fun i h1 h2 h3 => by
        rw [Below.heap_setCell _ _ _ _ h3, Below.heap_setCell _ _ _ _ h2]
        exact hA'.block i h1
      have hks : KeptAt lt L (k + 1) (w.heap.size + 1) ((A'.setCell ⟨w.heap.size + 1, 0, none⟩ (.slice p x.length cap)).setCell ⟨w.heap.size + 1 + 1, 0, none⟩ (.bool true)) := by
        unfold KeptAt
        rw [hs]
        exact ⟨p, cap, RowIs.other (RowIs.set hr2 0 _) 0 _ (by omega), hL.others hb.size hsame (row_noint g3 fun _ h => by cases h) (row_noint g5 fun _ h => by cases h)⟩
      refine ⟨⟨hb.size, fun i h1 h2 => hsame i h1 ?_ ?_⟩, ⟨g1.trans (hb.mono (by omega)), Nat.le_trans g1' hb.size⟩, (hsame _ (by omega) (by omega) (by omega)).trans g2, hks, ?_⟩
      · rcases h2 with h2 | h2
        · have := HK.out i h2; omega
        · omega
      · rcases h2 with h2 | h2
        · have := HK.out i h2; omega
        · omega
      · rw [hs]
        exact RowIs.set (RowIs.other hr 0 _ (by omega)) 0 (.bool true)
    have Hfin := Lib.hid hfin
    have G1 := Lib.hid g1
    have G2 := Lib.hid g2
    have G3 := Lib.hid g3
    have G4 := Lib.hid g4
    have G5 := Lib.hid g5
    have Hst := Lib.hid hst
    have HL := Lib.hid hL
    clear hfin g1 g2 g3 g4 g5 hst hL hxx hv h32 h62 hf2 hb2 hB2 hG2
    cases hb : bestS lt (L.take k) with
    | none =>
      have Hb := Lib.hid hb
      rw [hb] at f0 k0
      clear hb
      have hs : bestS lt (L.take (k + 1)) = some x := by rw [Hst.out, Hb.out]; rfl
      have Hs := Lib.hid hs
      clear hs
      gi_wp2_with fail
      refine ⟨fun _ h => (by cases h), ?_⟩
      gi_wp2_with fail
      exact Hfin.out A _ _ (Below.refl _ _) G5.out G3.out _ Hs.out
    | some y =>
      have hym : y ∈ L := bestS_in hb
      have Hb := Lib.hid hb
      rw [hb] at f0 k0 G4
      clear hb
      have hc := Hbt.out A G1.out x hxm y hym p cap q qc HL.out G4.out
      rw [Array.append_assoc] at hc
      simp only [Option.getD_some] at k0
      cases hlt : lt x y with
      | true =>
        have hs : bestS lt (L.take (k + 1)) = some x := by rw [Hst.out, Hb.out]; simp [bestStep, hlt]
        rw [hlt] at hc
        have Hs := Lib.hid hs
        have Hc := Lib.hid hc
        clear hc hs hlt
        gi_wp2_with fail
        refine ⟨trivial, ?_⟩
        refine (CallsIn.inRound lx (callsIn_wide.2 Hc.out)).mono ?_
        rintro e A1 ⟨rfl, hb1⟩
        have g5 := (hb1.block (w.heap.size + 2) (by omega)).trans G5.out
        have g3 := (hb1.block (w.heap.size + 1) (by omega)).trans G3.out
        clear f0 f1 b0 k0 k1
        have f0 : A1.cell? ⟨w.heap.size + 2, 0, none⟩ = some (.bool (bestS lt (L.take k)).isSome) := RowIs.cell g5 0
        have f1 := RowIs.frozen g5 0
        have k0 := RowIs.cell g3 0
        have k1 := RowIs.frozen g3 0
        simp only [List.getElem?_toArray, List.getElem?_cons_zero] at k0
        have z3 : w.heap.size + 2 < A1.heap.size := by have := hb1.size; omega
        have HG5 := Lib.hid g5
        have HG3 := Lib.hid g3
        clear g5 g3
        gi_wp2_with fail
        exact Hfin.out A1 _ _ hb1 HG5.out HG3.out _ Hs.out
      | false =>
        have hs : bestS lt (L.take (k + 1)) = some y := by rw [Hst.out, Hb.out]; simp [bestStep, hlt]
        rw [hlt] at hc
        have Hs := Lib.hid hs
        have Hc := Lib.hid hc
        clear hc hs hlt
        gi_wp2_with fail
        refine ⟨trivial, ?_⟩
        refine (CallsIn.inRound lx (callsIn_wide.2 Hc.out)).mono ?_
        rintro e A1 ⟨rfl, hb1⟩
        have hz1 := hb1.size
        gi_wp2_with fail
        refine ⟨Spares.of_below hb1, ⟨G1.out.trans (hb1.mono (by omega)), by omega⟩, (hb1.block _ (by omega)).trans G2.out, ⟨q, qc, ?_, ?_⟩, ?_⟩
        · rw [Hs.out]
          have := (hb1.block _ (by omega)).trans G3.out
          rw [Hb.out] at this
          exact this
        · rw [Hs.out]
          exact G4.out.below hb1
        · rw [Hs.out]
          have := (hb1.block _ (by omega)).trans G5.out
          rw [Hb.out] at this
          exact this
  case done =>
    rintro B hBz ⟨⟨g1, g1'⟩, g2, ⟨q, qc, g3, g4⟩, g5⟩ hK
    rw [List.take_length] at g3 g4 g5
    have f0 : B.cell? ⟨w.heap.size + 2, 0, none⟩ = some (.bool (bestS lt L).isSome) := g5.cell 0
    have k0 : B.cell? ⟨w.heap.size + 1, 0, none⟩ = some (.slice q ((bestS lt L).getD []).length qc) := g3.cell 0
    have z3 : w.heap.size + 2 < B.heap.size := by omega
    have z2 : w.heap.size + 1 < B.heap.size := by omega
    have G1 := Lib.hid g1
    have G4 := Lib.hid g4
    have HK' := Lib.hid hK
    clear g1 g2 g3 g4 g5 hK h32 h62 hf2 hb2 hB2 hG2
    dsimp only
    gi_wp2_with fail
    refine (wpIn_wide (n := 1)).2 ?_
    go_region
    gi_wp2_with fail
    have hU : Lst B.drew ((bestS lt L).getD []) q qc := G4.out.below (Below.refl _ _).drew
    have hb1 : Below w.heap.size w B.drew := G1.out.drew
    have hK2 : B.drew.heap[W2.heap.size]? = some (.deferred (some [])) := HK'.out
    clear f0 k0 z3 z2 G4 G1 HK'
    generalize B.drew = U2 at hU hb1 hK2 ⊢
    refine ⟨by simp, .inl ⟨_, _, rfl, run_takeDeferred hK2, ?_⟩⟩
    have hno : ∀ o n, U2.cell? ⟨W2.heap.size, o, none⟩ ≠ some (.int .i64 n) := fun o n e => by simp [World.cell?, hK2] at e
    have hL : Lst (U2.putObj W2.heap.size (.deferred none)) ((bestS lt L).getD []) q qc := hU.others (by simp) (fun i hi h1 _ => World.putObj_heap_other h1) hno hno
    have hb : Below w.heap.size w (U2.putObj W2.heap.size (.deferred none)) := hb1.trans (below_put _ (by omega))
    exact ⟨.tuple #[.slice q ((bestS lt L).getD []).length qc, .bool (bestS lt L).isSome], by simp [results, Try.results85, go_sem], q, qc, rfl, hL, hb⟩
  case stop =>
    rintro cd k B hBz h hK
    exact h.elim

end Go.Proofs.Ytbjgbgchagfokaa

namespace Go.Proofs.Ytbjgbgchagfokaa
open Go Go.RowKit Go.Shelf

/-- A new variable is made, and a desk is stored into it. -/
structure NewDesk (w1 V U : World) (z : Nat) (S M : Int) (a : Option Addr) (n cap : Nat) (h : Nat → Int) : Prop where
  made : w1.alloc (.cells #[.int .i64 0, .int .i64 0, .slice none 0 0, .int .i64 0, .int .i64 0, .int .i64 0, .int .i64 0, .int .i64 0, .int .i64 0, .int .i64 0, .int .i64 0, .int .i64 0, .int .i64 0, .int .i64 0, .int .i64 0] 67) = V
  size : w1.heap.size = z
  stored : putL V z 0 (deskL S M a n cap h) = U
  zero : RowIs V z (deskRow 0 0 none 0 0 fun _ => 0) 67
  row : RowIs U z (deskRow S M a n cap h) 67
  below : Below w1.heap.size w1 U
  fit : U.heap.size = z + 1

theorem newDesk (w1 : World) (S M : Int) (a : Option Addr) (n cap : Nat) (h : Nat → Int) : ∃ V U z, NewDesk w1 V U z S M a n cap h := by
  have hz : RowIs (w1.alloc (.cells (deskRow 0 0 none 0 0 fun _ => 0) 67)) w1.heap.size (deskRow 0 0 none 0 0 fun _ => 0) 67 := heap_new_at _ _ _ rfl
  refine ⟨_, _, _, rfl, rfl, rfl, hz, ?_, ?_, ?_⟩
  · rw [← setL_desk S M a n cap (fun _ => 0) h 0 0 none 0 0]
    exact putL_row hz
  · exact (Below.alloc1 (Below.refl _ _) _ (Nat.le_refl _)).trans (putL_below (Nat.le_refl _))
  · rw [putL_size]; simp

theorem longer_c (p : Option Addr) (k cap : Nat) (q : Option Addr) (m cap' : Nat) (w : World) :
    Calls Try.prog 86 #[.slice p k cap, .slice q m cap'] w fun e w' => e = .returned (.bool (decide (m < k))) ∧ Below w.heap.size w w' := by
  go_enter Try.func86, Try.ntmps86
  go_wp2_with fail
  go_ret
  refine ⟨?_, Below.refl _ _⟩
  simp

/-- Does a want clash with none of a list. -/
def apartL (f : Nat → W2) (n : Nat) (x : List Nat) (i : Nat) : Bool := apartB f n (fun j => ((x.getD j 0 : Nat) : Int)) x.length i
def longerB (x y : List Nat) : Bool := decide (y.length < x.length)
/-- The first one of the best lists. -/
def bestOf (f : Nat → W2) (n : Nat) : List Nat := (bestS longerB (listsL (apartL f n) n)).getD []

set_option maxHeartbeats 4000000 in
theorem longest_c (gf : Nat) (gfirst glb : Array Value) (K : Nat → Prop) (L : List (List Nat)) (w : World)
    (hG : GivesA Try.prog gf gfirst glb K L LstV w) (hK : ∀ k, K k → k < w.heap.size) (eg : ∀ args w, (callFunc gf args).run Try.prog w = .ok (.enter gf args) w) :
    Calls Try.prog 57 #[.func (.func gf) gfirst glb] w fun e w' => ∃ p cap, e = .returned (.slice p ((bestS longerB L).getD []).length cap) ∧ Lst w' ((bestS longerB L).getD []) p cap ∧ Below w.heap.size w w' := by
  have hc := bestList_c gf gfirst glb K L 86 #[] #[] longerB w hG hK eg (enters_of Try.func86 (by kernel_rfl) rfl)
    (fun W' _ x _ y _ p c q c' _ _ => longer_c p x.length c q y.length c' W')
  have HC := Lib.hid hc
  clear hc hG hK eg
  go_enter Try.func57, Try.ntmps57
  go_wp2_with fail
  refine HC.out.mono ?_
  rintro e Y ⟨p, c, rfl, hL, hb⟩
  go_wp2_with fail
  refine bodyPost_ret (v := .slice p ((bestS longerB L).getD []).length c) (by simp [results, Try.results57, go_sem]) rfl ⟨p, c, rfl, hL, hb⟩

set_option maxHeartbeats 4000000 in
theorem List_no_c (S M : Int) (a : Option Addr) (n cap : Nat) (f : Nat → W2) (w : World) (hf : Wants w a n f) (hn : n ≤ 1048576) (hE : bookE S M n f ≠ 0) :
    Calls Try.prog 25 #[bookV S M a n cap] w fun e w' => e = .returned (.tuple #[.slice none 0 0, .int .i64 (bookE S M n f)]) ∧ Below w.heap.size w w' := by
  obtain ⟨W, hW⟩ : ∃ W, w.alloc (.cells #[.int .i64 S, .int .i64 M, .slice a n cap] 24) = W := ⟨_, rfl⟩
  have hB : Below w.heap.size w W := by rw [← hW]; exact Below.alloc1 (Below.refl _ _) _ (Nat.le_refl _)
  have hR : RowIs W w.heap.size #[.int .i64 S, .int .i64 M, .slice a n cap] 24 := by rw [← hW]; exact heap_new_at _ _ _ rfl
  have r0 : W.cell? ⟨w.heap.size, 0, none⟩ = some (.int .i64 S) := RowIs.cell hR 0
  have r1 : W.cell? ⟨w.heap.size, 1, none⟩ = some (.int .i64 M) := RowIs.cell hR 1
  have r2 : W.cell? ⟨w.heap.size, 2, none⟩ = some (.slice a n cap) := RowIs.cell hR 2
  have HfW := Lib.hid (hf.below hB)
  clear hf hR
  have hc := newDesk_no_c S M a n cap f W HfW.out hn hE
  obtain ⟨v, hv⟩ : ∃ v, bookE S M n f = v := ⟨_, rfl⟩
  rw [hv] at hE hc ⊢
  have HC := Lib.hid hc
  have t0 : (v != 0) = true := by simpa using hE
  clear hc hv HfW
  go_enter Try.func25, Try.ntmps25
  go_wp2_with fail
  refine HC.out.mono ?_
  rintro e w1 ⟨rfl, hb1⟩
  have hB1 := bup hB hb1
  obtain ⟨V, U, z, hN⟩ := newDesk w1 0 0 none 0 0 fun _ => 0
  have hV := hN.made
  have hz := hN.size
  have hU := hN.stored
  simp only [putL, deskL, Nat.reduceAdd] at hU
  obtain ⟨f0, f1, f2, f3, f4, f5, f6, f7, f8, f9, f10, f11, f12, f13, f14⟩ := deskfree hN.zero
  obtain ⟨e0, e1, e2, e3, e4, e5, e6, e7, e8, e9, e10, e11, e12, e13, e14, ez⟩ := deskcells hN.zero
  have hB2 := bup hB1 hN.below
  clear hN hW r0 r1 r2 hB hb1 hB1 HC
  go_wp2_with fail
  refine bodyPost_ret (v := .tuple #[.slice none 0 0, .int .i64 v]) (by simp [results, Try.results25, go_sem]) rfl ⟨rfl, hB2⟩

set_option maxHeartbeats 8000000 in
theorem List_yes_c (S M : Int) (a : Option Addr) (n cap : Nat) (f : Nat → W2) (w : World) (hf : Wants w a n f) (hn : n ≤ 1048576) (hE : bookE S M n f = 0) :
    Calls Try.prog 25 #[bookV S M a n cap] w fun e w' => ∃ p c, e = .returned (.tuple #[.slice p (bestOf f n).length c, .int .i64 0]) ∧ Lst w' (bestOf f n) p c ∧ Below w.heap.size w w' := by
  obtain ⟨W, hW⟩ : ∃ W, w.alloc (.cells #[.int .i64 S, .int .i64 M, .slice a n cap] 24) = W := ⟨_, rfl⟩
  have hB : Below w.heap.size w W := by rw [← hW]; exact Below.alloc1 (Below.refl _ _) _ (Nat.le_refl _)
  have hR : RowIs W w.heap.size #[.int .i64 S, .int .i64 M, .slice a n cap] 24 := by rw [← hW]; exact heap_new_at _ _ _ rfl
  have r0 : W.cell? ⟨w.heap.size, 0, none⟩ = some (.int .i64 S) := RowIs.cell hR 0
  have r1 : W.cell? ⟨w.heap.size, 1, none⟩ = some (.int .i64 M) := RowIs.cell hR 1
  have r2 : W.cell? ⟨w.heap.size, 2, none⟩ = some (.slice a n cap) := RowIs.cell hR 2
  have HfW := Lib.hid (hf.below hB)
  have Hf := Lib.hid hf
  have hn14 := (book_good hE).2.2.1
  clear hR hf
  have hc := newDesk_yes_c S M a n cap f W HfW.out hn hE
  obtain ⟨l, hl⟩ : ∃ l, bookL f n = l := ⟨_, rfl⟩
  rw [hl] at hc
  have HC := Lib.hid hc
  clear hc hl HfW
  go_enter Try.func25, Try.ntmps25
  go_wp2_with fail
  refine HC.out.mono ?_
  rintro e w1 ⟨rfl, hb1⟩
  have hB1 := bup hB hb1
  obtain ⟨V, U, z, hN⟩ := newDesk w1 S M a n cap l
  have hV := hN.made
  have hz := hN.size
  have hU := hN.stored
  simp only [putL, deskL, Nat.reduceAdd] at hU
  obtain ⟨f0, f1, f2, f3, f4, f5, f6, f7, f8, f9, f10, f11, f12, f13, f14⟩ := deskfree hN.zero
  obtain ⟨e0, e1, e2, e3, e4, e5, e6, e7, e8, e9, e10, e11, e12, e13, e14, ez⟩ := deskcells hN.zero
  obtain ⟨c0, c1, c2, c3, c4, c5, c6, c7, c8, c9, c10, c11, c12, c13, c14, cz⟩ := deskcells hN.row
  have hB2 := bup hB1 hN.below
  have HN := Lib.hid hN
  clear hN hW r0 r1 r2 hB hb1 hB1 HC
  go_wp2_with fail
  refine (lists_c n 59 #[deskV S M a n cap l] #[] U).mono ?_
  rintro e X ⟨rfl, hX⟩
  have hBX : Below U.heap.size U X := by rw [← hX]; exact Below.alloc1 (Below.alloc1 (Below.alloc1 (Below.refl _ _) _ (Nat.le_refl _)) _ (Nat.le_refl _)) _ (Nat.le_refl _)
  have x0 : RowIs X U.heap.size #[.func (.func 59) #[deskV S M a n cap l] #[]] 84 := by rw [← hX]; exact RowIs.alloc (RowIs.alloc (heap_new_at _ _ _ rfl) _) _
  have x1 : RowIs X (U.heap.size + 1) #[.int .i64 n] 3 := by rw [← hX]; exact RowIs.alloc (heap_new_at _ _ _ (by simp)) _
  have x2 : RowIs X (U.heap.size + 1 + 1) #[.func (.func 88) #[] #[.pointer (some ⟨U.heap.size, 0, none⟩)]] 84 := by rw [← hX]; exact heap_new_at _ _ _ (by simp)
  have hzX : X.heap.size = U.heap.size + 3 := by rw [← hX]; simp
  have hBwX := bup hB2 hBX
  have hfX : Wants X a n f := Wants.below Hf.out hBwX
  have hG := lists_gives 59 #[deskV S M a n cap l] #[] (apartL f n) n (fun k => k = U.heap.size ∨ k = U.heap.size + 1 ∨ k = U.heap.size + 1 + 1 ∨ (n ≠ 0 ∧ ∃ off, a = some ⟨k, off, none⟩)) U.heap.size X hn (enters_of Try.func59 (by kernel_rfl) rfl) x0 x1 x2 ⟨.inl rfl, .inr (.inl rfl), .inr (.inr (.inl rfl))⟩
    (fun A x p cp i hkeep hzA hL hx hi _ => by
      have hfA := wants_block hfX hzA (fun k off e => hkeep k (.inr (.inr (.inr ⟨by omega, off, e⟩))))
      have := apart_c S M a n cap f l p x.length cp (fun j => ((x.getD j 0 : Nat) : Int)) i A hfA hL.cells hi hn (by have := rising_len hx; omega)
      exact this)
  have hbest := longest_c 101 #[] #[.pointer (some ⟨U.heap.size + 1, 0, none⟩), .pointer (some ⟨U.heap.size + 1 + 1, 0, none⟩)] _ (listsL (apartL f n) n) X hG
    (fun k hk => by
      rcases hk with rfl | rfl | rfl | ⟨hn0, off, rfl⟩
      · omega
      · omega
      · omega
      · rcases hfX with h0 | ⟨b, o, e, hb, _⟩
        · exact absurd h0 hn0
        · cases e; exact hb)
    (enters_of Try.func101 (by kernel_rfl) rfl)
  have HB := Lib.hid hbest
  clear hX x0 x1 x2 hG hbest hBX hzX hfX c0 c1 c2 c3 c4 c5 c6 c7 c8 c9 c10 c11 c12 c13 c14 cz f0 f1 f2 f3 f4 f5 f6 f7 f8 f9 f10 f11 f12 f13 f14 e0 e1 e2 e3 e4 e5 e6 e7 e8 e9 e10 e11 e12 e13 e14 ez hV hU
  go_wp2_with fail
  refine HB.out.mono ?_
  rintro e Y ⟨p, c, rfl, hL, hbY⟩
  go_wp2_with fail
  refine bodyPost_ret (v := .tuple #[.slice p (bestOf f n).length c, .int .i64 0]) (by simp [results, Try.results25, go_sem, bestOf]) rfl ⟨p, c, rfl, hL, bup hBwX hbY⟩

end Go.Proofs.Ytbjgbgchagfokaa
