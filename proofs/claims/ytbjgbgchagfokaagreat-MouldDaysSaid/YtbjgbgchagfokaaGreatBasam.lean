/- Contracts of layer 2: a new variable that holds a plan; days that are wrong. -/
import Derived.Test.YtbjgbgchagfokaaGreatProg
import Derived.Test.YtbjgbgchagfokaaGreatBasaa
import Derived.Test.YtbjgbgchagfokaaGreatBasae
import Derived.Test.YtbjgbgchagfokaaGreatBasal
import Derived.RangeFuncNested
import Derived.RangeFuncCalls
import Derived.RangeFuncLeaves
import Derived.Test.YtbjgbgchagfokaaGreatBasab
import Derived.Test.YtbjgbgchagfokaaGreatBasad
namespace Go.Proofs.YtbjgbgchagfokaaGreat
open Go Go.RowKit Go.Shelf

/-- A new variable is made, and a plan is stored into it. -/
structure NewPlan (w1 V U : World) (z : Nat) (S M : Int) (a : Option Addr) (n cap : Nat) (h : Nat → Int) (da : Option Addr) (k dcap : Nat) : Prop where
  made : w1.alloc (.cells #[.int .i64 0, .int .i64 0, .slice none 0 0, .int .i64 0, .int .i64 0, .int .i64 0, .int .i64 0, .int .i64 0, .int .i64 0, .int .i64 0, .int .i64 0, .int .i64 0, .int .i64 0, .int .i64 0, .int .i64 0, .slice none 0 0] 56) = V
  size : w1.heap.size = z
  stored : putL V z 0 (planL S M a n cap h da k dcap) = U
  zero : RowIs V z (planRow 0 0 none 0 0 (fun _ => 0) none 0 0) 56
  row : RowIs U z (planRow S M a n cap h da k dcap) 56
  below : Below w1.heap.size w1 U
  fit : U.heap.size = z + 1

theorem newPlanV (w1 : World) (S M : Int) (a : Option Addr) (n cap : Nat) (h : Nat → Int) (da : Option Addr) (k dcap : Nat) : ∃ V U z, NewPlan w1 V U z S M a n cap h da k dcap := by
  have hz : RowIs (w1.alloc (.cells (planRow 0 0 none 0 0 (fun _ => 0) none 0 0) 56)) w1.heap.size (planRow 0 0 none 0 0 (fun _ => 0) none 0 0) 56 := heap_new_at _ _ _ rfl
  refine ⟨_, _, _, rfl, rfl, rfl, hz, ?_, ?_, ?_⟩
  · rw [← setL_plan S M a n cap (fun _ => 0) h da k dcap 0 0 none 0 0 none 0 0]
    exact putL_row hz
  · exact (Below.alloc1 (Below.refl _ _) _ (Nat.le_refl _)).trans (putL_below (Nat.le_refl _))
  · rw [putL_size]; simp

set_option maxHeartbeats 8000000 in
theorem CheckDays_no_c (S M : Int) (a : Option Addr) (n cap : Nat) (da : Option Addr) (k dcap : Nat) (v : Int) (hv : v ≠ 0) (w : World)
    (hp : ∀ W, Below w.heap.size w W → Calls Tryz.prog 34 #[bookV S M a n cap, .slice da k dcap] W fun e w' => e = .returned (.tuple #[noPlanV, .int .i64 v]) ∧ Below W.heap.size W w') :
    Calls Tryz.prog 20 #[bookV S M a n cap, .slice da k dcap] w fun e w' => e = .returned (.tuple #[.int .i64 0, .int .i64 v]) ∧ Below w.heap.size w w' := by
  obtain ⟨W, hW⟩ : ∃ W, w.alloc (.cells #[.int .i64 S, .int .i64 M, .slice a n cap] 24) = W := ⟨_, rfl⟩
  have hB : Below w.heap.size w W := by rw [← hW]; exact Below.alloc1 (Below.refl _ _) _ (Nat.le_refl _)
  have hR : RowIs W w.heap.size #[.int .i64 S, .int .i64 M, .slice a n cap] 24 := by rw [← hW]; exact heap_new_at _ _ _ rfl
  have r0 : W.cell? ⟨w.heap.size, 0, none⟩ = some (.int .i64 S) := RowIs.cell hR 0
  have r1 : W.cell? ⟨w.heap.size, 1, none⟩ = some (.int .i64 M) := RowIs.cell hR 1
  have r2 : W.cell? ⟨w.heap.size, 2, none⟩ = some (.slice a n cap) := RowIs.cell hR 2
  have HC := Lib.hid (hp W hB)
  have t0 : (v != 0) = true := by simpa using hv
  clear hp hR
  go_enter Tryz.func20, Tryz.ntmps20
  go_wp2_with fail
  refine HC.out.mono ?_
  rintro e w1 ⟨rfl, hb1⟩
  have hB1 := bup hB hb1
  obtain ⟨V, U, z, hN⟩ := newPlanV w1 0 0 none 0 0 (fun _ => 0) none 0 0
  have hV := hN.made
  have hz := hN.size
  have hU := hN.stored
  simp only [putL, planL, Nat.reduceAdd] at hU
  obtain ⟨f0, f1, f2, f3, f4, f5, f6, f7, f8, f9, f10, f11, f12, f13, f14, f15⟩ := planfree hN.zero
  obtain ⟨e0, e1, e2, e3, e4, e5, e6, e7, e8, e9, e10, e11, e12, e13, e14, e15, ez⟩ := plancells hN.zero
  have hB2 := bup hB1 hN.below
  clear hN hW r0 r1 r2 hB hb1 hB1 HC
  go_wp2_with fail
  refine bodyPost_ret (v := .tuple #[.int .i64 0, .int .i64 v]) (by simp [results, Tryz.results20, go_sem]) rfl ⟨rfl, hB2⟩

end Go.Proofs.YtbjgbgchagfokaaGreat

namespace Go.Proofs.YtbjgbgchagfokaaGreat
open Go Go.RowKit

/-- The records of loops over iterators. -/
def coll (ds : List Nat) : List Deferred := ds.map fun b => { target := .collected b, args := #[] }
theorem coll_cons (b : Nat) (ds : List Nat) : ({ target := .collected b, args := #[] } : Deferred) :: coll ds = coll (b :: ds) := rfl

theorem leaves_coll {F : Fence} {n : Nat} {P : Program} {fn : Func} {tmps : Array Value} {R : Ending → World → Prop} {B : Nat} : ∀ (ds : List Nat) (w : World), (∀ b ∈ ds, w.heap[b]? = some (.deferred (some [])) ∧ B ≤ b) → ds.Nodup →
    (∀ w', Below B w w' → (∀ k, k ∉ ds → w'.heap[k]? = w.heap[k]?) → LeavesInM F n P fn tmps R [] .returning w') → LeavesInM F n P fn tmps R (coll ds) .returning w
  | [], w, _, _, h => h w (Below.refl _ _) fun _ _ => rfl
  | b :: ds, w, hd, hn, h => by
    have h1 := hd b List.mem_cons_self
    have hn2 := List.nodup_cons.1 hn
    refine ⟨by simp, .inl ⟨b, _, rfl, run_takeDeferred h1.1, ?_⟩⟩
    refine leaves_coll (B := B) ds _ (fun k hk => ⟨(World.putObj_heap_other (fun e => by subst e; exact hn2.1 hk)).trans (hd k (List.mem_cons_of_mem _ hk)).1, (hd k (List.mem_cons_of_mem _ hk)).2⟩) hn2.2 fun w' hw' hs => ?_
    refine h w' ((below_put _ h1.2).trans hw') fun k hk => ?_
    rw [List.mem_cons, not_or] at hk
    exact (hs k hk.2).trans (World.putObj_heap_other hk.1)

/-- What records there are, all from B on. -/
structure Recs (B : Nat) (ds : List Nat) (w : World) : Prop where
  here : ∀ b ∈ ds, w.heap[b]? = some (.deferred (some [])) ∧ B ≤ b ∧ b < w.heap.size
  nodup : ds.Nodup
theorem recs_nil (B : Nat) (w : World) : Recs B [] w := ⟨fun _ h => absurd h List.not_mem_nil, List.nodup_nil⟩
theorem Recs.kept {B : Nat} {ds : List Nat} {w w' : World} (h : Recs B ds w) (hz : w.heap.size ≤ w'.heap.size) (hb : ∀ b ∈ ds, w'.heap[b]? = w.heap[b]?) : Recs B ds w' :=
  ⟨fun b hb' => ⟨(hb b hb').trans (h.here b hb').1, (h.here b hb').2.1, Nat.lt_of_lt_of_le (h.here b hb').2.2 hz⟩, h.nodup⟩
theorem Recs.below {B : Nat} {ds : List Nat} {w w' : World} (h : Recs B ds w) (hb : Below w.heap.size w w') : Recs B ds w' := h.kept hb.size fun b hb' => hb.block b (h.here b hb').2.2
theorem Recs.more {B b : Nat} {ds : List Nat} {w w' : World} (h : Recs B ds w') (hz : w.heap.size = b) (hds : ∀ d ∈ ds, d < b) (hb : w'.heap[b]? = some (.deferred (some []))) (hB : B ≤ b) : Recs B (b :: ds) w' :=
  ⟨fun d hd => by
    rcases List.mem_cons.1 hd with e | e
    · subst e; exact ⟨hb, hB, (Array.getElem?_eq_some_iff.1 hb).1⟩
    · exact h.here d e, List.nodup_cons.2 ⟨fun h1 => by have := hds b h1; omega, h.nodup⟩⟩
theorem Recs.leaves {F : Fence} {n : Nat} {P : Program} {fn : Func} {tmps : Array Value} {R : Ending → World → Prop} {B : Nat} {ds : List Nat} {w : World} (h : Recs B ds w)
    (hR : ∀ w', Below B w w' → (∀ (k : Nat) (o : Obj), (∀ d, o ≠ Obj.deferred d) → w.heap[k]? = some o → w'.heap[k]? = some o) → LeavesInM F n P fn tmps R [] .returning w') : LeavesInM F n P fn tmps R (coll ds) .returning w :=
  leaves_coll ds w (fun b hb => ⟨(h.here b hb).1, (h.here b hb).2.1⟩) h.nodup fun w' hw' hs => hR w' hw' fun k o ho hk => (hs k fun hm => by
    have := (h.here k hm).1
    rw [hk] at this
    exact ho _ (Option.some.inj this)).trans hk

end Go.Proofs.YtbjgbgchagfokaaGreat

namespace Go.Proofs.YtbjgbgchagfokaaGreat
open Go Go.RowKit

/-- A list of its own, in blocks from B on. -/
def Own (A : World) (B : Nat) (x : List Nat) (v : Value) : Prop := A.ownsRow B 3 1 v x.length (natL x)
theorem own_nil (A : World) (B : Nat) : Own A B [] (.slice none 0 0) := World.ownsRow_nil _ _ _ _
theorem Own.alloc {A : World} {B : Nat} {x : List Nat} {v : Value} (h : Own A B x v) (o : Obj) : Own (A.alloc o) B x v := World.ownsRow.alloc h o
theorem Own.below {A A' : World} {B : Nat} {x : List Nat} {v : Value} (h : Own A B x v) (hb : Below A.heap.size A A') : Own A' B x v := by
  obtain ⟨h1, h2⟩ := h
  refine ⟨h1, ?_⟩
  rcases h2 with h2 | ⟨g, cap, cur, hv, hB, hg, h3⟩
  · exact .inl h2
  · exact .inr ⟨g, cap, cur, hv, hB, (hb.block g (Array.getElem?_eq_some_iff.1 hg).1).trans hg, h3⟩
theorem Own.lst {A : World} {B : Nat} {x : List Nat} {v : Value} (h : Own A B x v) : ∃ p cap, v = .slice p x.length cap ∧ Lst A x p cap ∧ ∀ b off, p = some ⟨b, off, none⟩ → B ≤ b := by
  rcases h.2 with ⟨hv, h0⟩ | ⟨g, cap, cur, hv, hB, _⟩
  · obtain rfl : x = [] := List.eq_nil_of_length_eq_zero h0
    exact ⟨none, 0, hv, lst_nil, fun _ _ e => by cases e⟩
  · refine ⟨some ⟨g, 0, none⟩, cap, hv, ?_, fun b off e => by cases e; exact hB⟩
    subst hv
    exact lst_of_own rfl h
/-- What is one's own holds no other type's row. -/
theorem Own.other {A A' : World} {B bb : Nat} {x : List Nat} {v : Value} {c : Array Value} {T : TypeId} (h : Own A B x v) (hg : A.grownBy A' v.ownBlock) (hr : RowIs A bb c T) (hT : T ≠ 3) : RowIs A' bb c T := by
  refine (hg.block bb hr.lt ?_).trans hr
  rcases h.2 with ⟨hv, _⟩ | ⟨g, cap, cur, hv, hB, hgb, _⟩
  · subst hv; simp [Value.ownBlock]
  · subst hv
    intro e
    have : bb = g := by simpa [Value.ownBlock] using e
    subst this
    rw [hr] at hgb
    cases hgb
    exact hT rfl
theorem own_loop {A : World} {B r : Nat} {x : List Nat} {v : Value} {o o' : Loop} (h : Own A B x v) (ho : A.heap[r]? = some (.loop o)) : Own (A.putObj r (.loop o')) B x v := by
  obtain ⟨h1, h2⟩ := h
  refine ⟨h1, ?_⟩
  rcases h2 with h2 | ⟨g, cap, cur, hv, hB, hg, h3⟩
  · exact .inl h2
  · exact .inr ⟨g, cap, cur, hv, hB, (World.putObj_heap_other (fun e => by subst e; rw [ho] at hg; cases hg)).trans hg, h3⟩
theorem own_put {A : World} {B r : Nat} {x : List Nat} {v : Value} {ds o : Option (List Deferred)} (h : Own A B x v) (ho : A.heap[r]? = some (.deferred ds)) : Own (A.putObj r (.deferred o)) B x v := by
  obtain ⟨h1, h2⟩ := h
  refine ⟨h1, ?_⟩
  rcases h2 with h2 | ⟨g, cap, cur, hv, hB, hg, h3⟩
  · exact .inl h2
  · exact .inr ⟨g, cap, cur, hv, hB, (World.putObj_heap_other (fun e => by subst e; rw [ho] at hg; cases hg)).trans hg, h3⟩
theorem own_still {r : Nat} (B : Nat) (x : List Nat) (v : Value) : Still r fun A => Own A B x v := ⟨fun _ _ h hb => h.below hb, fun _ _ _ ho h => own_loop h ho⟩
/-- A store into another type's row. -/
theorem Own.far {A : World} {B bb : Nat} {x : List Nat} {v u : Value} {c : Array Value} {T : TypeId} (h : Own A B x v) (hr : RowIs A bb c T) (hT : T ≠ 3) : Own (A.setCell ⟨bb, 0, none⟩ u) B x v := by
  obtain ⟨h1, h2⟩ := h
  refine ⟨h1, ?_⟩
  rcases h2 with h2 | ⟨g, cap, cur, hv, hB, hg, h3⟩
  · exact .inl h2
  · refine .inr ⟨g, cap, cur, hv, hB, (Below.heap_setCell _ _ _ _ (fun e => ?_)).trans hg, h3⟩
    have e' : g = bb := e
    subst e'
    rw [hr] at hg
    cases hg
    exact hT rfl
/-- What is no cells lies on. -/
theorem Own.walk {A A' : World} {B bb : Nat} {x : List Nat} {v : Value} {o : Obj} (h : Own A B x v) (hg : A.grownBy A' v.ownBlock) (ho : A.heap[bb]? = some o) (hn : o.isCells = false) : A'.heap[bb]? = some o := by
  refine (hg.block bb (Array.getElem?_eq_some_iff.1 ho).1 ?_).trans ho
  rcases h.2 with ⟨hv, _⟩ | ⟨g, cap, cur, hv, hB, hgb, _⟩
  · subst hv; simp [Value.ownBlock]
  · subst hv
    intro e
    have : bb = g := by simpa [Value.ownBlock] using e
    subst this
    rw [ho] at hgb
    cases hgb
    cases hn
/-- One more number. -/
theorem Own.append {A : World} {B : Nat} {x : List Nat} {v : Value} (h : Own A B x v) (b i : Nat) (hb : RowIs A b #[.int .i64 (i : Int)] 3) (hB : B ≤ A.heap.size) (hx : x.length ≤ 1048576) :
    ∃ v' A', (Builtin.append_ #[25, 25] 25 #[v, .slice (some ⟨b, 0, none⟩) 1 1]).run Tryz.prog A = .ok v' A' ∧ Own A' B (x ++ [i]) v' ∧ A.grownBy A' v.ownBlock ∧ Below B A A' := by
  obtain ⟨i0, hi, hi0, hi1, hi2⟩ := info_parts1 infoInt
  have hnews : ∀ j u, [Value.int .i64 (i : Int)][j]? = some u → A.cell? ((⟨b, 0, none⟩ : Addr).add j) = some u := fun j u hj => by
    cases j with
    | zero => rw [← hj]; exact (hb.cell 0)
    | succ j => simp at hj
  obtain ⟨v', w', hrun, h1, h2, _⟩ := run_append_own (P := Tryz.prog) A B 25 25 3 i0 (.int .i64 0) 1 8 Tryz.underlying25 hi hi0 hi1 hi2 rfl (by decide) v x.length (natL x) h ⟨b, 0, none⟩ 1 1 [.int .i64 (i : Int)] rfl hnews (by intro u hu; simp at hu; subst hu; rfl) (by unfold maxLen; omega) (by omega) hB
  refine ⟨v', w', hrun, ?_, h2, ⟨h2.os, h2.tape, h2.output, h2.size, fun k hk => h2.block k (by omega) ?_⟩⟩
  · have e : natL (x ++ [i]) = natL x ++ [Value.int .i64 (i : Int)] := by simp [natL]
    unfold Own
    rw [e, List.length_append]
    exact h1
  · intro e
    have := (h.lt k e.symm).1
    omega

end Go.Proofs.YtbjgbgchagfokaaGreat

namespace Go.Proofs.YtbjgbgchagfokaaGreat
open Go Go.RowKit Go.Shelf

set_option maxHeartbeats 1000000 in
theorem wanting_c (S M : Int) (a : Option Addr) (n cap : Nat) (l : Nat → Int) (lv : Value) (shop : Nat) (w : World) (hs : shop < 6) :
    Calls Tryz.prog 52 #[deskV S M a n cap l, lv, .int .i64 shop] w fun e w' => e = .returned (.bool (decide (0 < l shop))) ∧ Below w.heap.size w w' := by
  obtain ⟨W, hW⟩ : ∃ W, w.alloc (.cells (deskRow S M a n cap l) 47) = W := ⟨_, rfl⟩
  have hB : Below w.heap.size w W := by rw [← hW]; exact Below.alloc1 (Below.refl _ _) _ (Nat.le_refl _)
  have hR : RowIs W w.heap.size (deskRow S M a n cap l) 47 := by rw [← hW]; exact heap_new_at _ _ _ rfl
  have hz := hR.lt
  have c0 : W.cell? ⟨w.heap.size, 3 + shop, none⟩ = some (.int .i64 (l shop)) := by
    rw [hR.cell (3 + shop)]
    have : shop = 0 ∨ shop = 1 ∨ shop = 2 ∨ shop = 3 ∨ shop = 4 ∨ shop = 5 := by omega
    rcases this with rfl | rfl | rfl | rfl | rfl | rfl <;> rfl
  clear hR
  simp only [deskRow] at hW
  go_enter Tryz.func52, Tryz.ntmps52
  go_wp2_with fail
  go_ret
  exact ⟨by simp, hB⟩

theorem wantsOf_c (x : W2) (bl : Nat) (la : Option Addr) (len lcap : Nat) (g : Nat → Int) (w : World) (hg : Ints w la len g) (hl : len ≤ 1048576) (hb : RowIs w bl #[.slice la len lcap] 25) :
    Calls Tryz.prog 79 #[wantV x, .pointer (some ⟨bl, 0, none⟩)] w fun e w' => e = .returned (.bool (hasB g x.s len)) ∧ Below w.heap.size w w' := by
  obtain ⟨W, hW⟩ : ∃ W, w.alloc (.cells #[.int .i64 x.s, .int .i64 x.m] 77) = W := ⟨_, rfl⟩
  have hB : Below w.heap.size w W := by rw [← hW]; exact Below.alloc1 (Below.refl _ _) _ (Nat.le_refl _)
  have hR : RowIs W w.heap.size #[.int .i64 x.s, .int .i64 x.m] 77 := by rw [← hW]; exact heap_new_at _ _ _ rfl
  have c0 : W.cell? ⟨w.heap.size, 0, none⟩ = some (.int .i64 x.s) := hR.cell 0
  have c1 : W.cell? ⟨bl, 0, none⟩ = some (.slice la len lcap) := (hb.below hB).cell 0
  have hz := (hb.below hB).lt
  have hz2 := hR.lt
  have Hg := Lib.hid (Cells.below hg hB)
  clear hR hg hb
  go_enter Tryz.func79, Tryz.ntmps79
  go_wp2_with fail
  refine (contains_c x.s la len lcap g W Hg.out hl).mono ?_
  rintro e w1 ⟨rfl, rfl⟩
  go_wp2_with fail
  go_ret
  exact ⟨rfl, hB⟩

/-- The first k moulds that are wanted. -/
def wbL (h : Nat → Int) (k : Nat) : List Nat := (List.range k).filter fun y => decide (0 < h (6 + y))
theorem wbL_no {h : Nat → Int} {k : Nat} (e : ¬ 0 < h (6 + k)) : wbL h (k + 1) = wbL h k := by simp [wbL, List.range_succ, e]
theorem wbL_yes {h : Nat → Int} {k : Nat} (e : 0 < h (6 + k)) : wbL h (k + 1) = wbL h k ++ [k] := by simp [wbL, List.range_succ, e]
theorem wbL_len (h : Nat → Int) (k : Nat) : (wbL h k).length ≤ k := by
  have := List.length_filter_le (fun y => decide (0 < h (6 + y))) (List.range k)
  simpa [wbL] using this
/-- The loads of the wants of these shops. -/
abbrev shopL (f : Nat → W2) (g : Nat → Int) (len n : Nat) : Nat → Int := fun x => ldF f (fun i => hasB g (f i).s len) x n

set_option maxRecDepth 100000 in
set_option maxHeartbeats 8000000 in
theorem wantedBy_c (S M : Int) (a : Option Addr) (n cap : Nat) (f : Nat → W2) (l : Nat → Int) (la : Option Addr) (len lcap : Nat) (g : Nat → Int) (w : World) (hf : Wants w a n f) (hG : GoodBook S M n f) (hg : Ints w la len g) (hl : len ≤ 1048576) :
    Calls Tryz.prog 51 #[deskV S M a n cap l, .slice la len lcap] w fun e w' => ∃ p c, e = .returned (.slice p (wbL (shopL f g len n) 6).length c) ∧ Lst w' (wbL (shopL f g len n) 6) p c ∧ Below w.heap.size w w' := by
  obtain ⟨W, hW⟩ : ∃ W, (w.alloc (.cells (deskRow S M a n cap l) 47)).alloc (.cells #[.slice la len lcap] 25) = W := ⟨_, rfl⟩
  have hB : Below w.heap.size w W := by rw [← hW]; exact Below.alloc1 (Below.alloc1 (Below.refl _ _) _ (Nat.le_refl _)) _ (Nat.le_refl _)
  have hD : RowIs W w.heap.size (deskRow S M a n cap l) 47 := by rw [← hW]; exact RowIs.alloc (heap_new_at _ _ _ rfl) _
  have hL : RowIs W (w.heap.size + 1) #[.slice la len lcap] 25 := by rw [← hW]; exact heap_new_at _ _ _ (by simp)
  obtain ⟨c0, c1, c2, c3, c4, c5, c6, c7, c8, c9, c10, c11, c12, c13, c14, cz⟩ := deskcells hD
  have hgW : Ints W la len g := Cells.below hg hB
  have hcall := dloadsOf_c S M a n cap f l 79 #[] #[.pointer (some ⟨w.heap.size + 1, 0, none⟩)] (fun i => hasB g (f i).s len) W (hf.below hB) hG (enters_of Tryz.func79 (by kernel_rfl) rfl)
    (fun W' hW' i _ => wantsOf_c (f i) (w.heap.size + 1) la len lcap g W' (Cells.below hgW hW') hl (hL.below hW'))
  obtain ⟨h, hh⟩ : ∃ h, shopL f g len n = h := ⟨_, rfl⟩
  rw [show (fun x => ldF f (fun i => hasB g (f i).s len) x n) = h from hh] at hcall
  rw [hh]
  have HC := Lib.hid hcall
  clear hcall hh hgW hL hD hg hf hG
  simp only [deskRow] at hW
  go_enter Tryz.func51, Tryz.ntmps51
  go_wp2_with fail
  refine HC.out.mono ?_
  rintro e w1 ⟨rfl, hb1⟩
  have hB1 := bup hB hb1
  obtain ⟨V, hV⟩ : ∃ V, w1.alloc (.cells (loadRow fun _ => 0) 45) = V := ⟨_, rfl⟩
  have hz1 : ∃ z, w1.heap.size = z := ⟨_, rfl⟩
  obtain ⟨z, hz⟩ := hz1
  have hZ : RowIs V z (loadRow fun _ => 0) 45 := by rw [← hV]; exact heap_new_at _ _ _ hz
  have hBV : Below w1.heap.size w1 V := by rw [← hV]; exact Below.alloc1 (Below.refl _ _) _ (Nat.le_refl _)
  obtain ⟨U, hU⟩ : ∃ U, putL V z 0 (loadL h) = U := ⟨_, rfl⟩
  have hRU : RowIs U z (loadRow h) 45 := by
    rw [← hU]
    have := putL_row (o := 0) (l := loadL h) hZ
    rwa [show setL (loadRow fun _ => 0) 0 (loadL h) = loadRow h by simp [setL, loadL, loadRow]] at this
  have hBU : Below w1.heap.size w1 U := by rw [← hU]; exact hBV.trans (putL_below (by omega))
  obtain ⟨f0, f1, f2, f3, f4, f5, f6, f7, f8, f9, f10, f11⟩ := loadfree hZ
  obtain ⟨e0, e1, e2, e3, e4, e5, e6, e7, e8, e9, e10, e11, ez⟩ := loadcells hZ
  have hB2 := bup hB1 hBU
  have HR := Lib.hid hRU
  have HB := Lib.hid hB2
  clear hW hB hb1 hB1 HC hZ hBV hRU hBU hB2 c0 c1 c2 c3 c4 c5 c6 c7 c8 c9 c10 c11 c12 c13 c14 cz
  simp only [putL, loadL, Nat.reduceAdd] at hU
  simp only [loadRow] at hV
  go_wp2_with fail
  clear hU hV f0 f1 f2 f3 f4 f5 f6 f7 f8 f9 f10 f11 e0 e1 e2 e3 e4 e5 e6 e7 e8 e9 e10 e11 ez
  go_loopw [6, 14] (fun s i wr => ∃ (k : Nat) (v : Value), k ≤ 6 ∧ i = .int .i64 k ∧ v = s ∧ Own wr U.heap.size (wbL h k) v ∧ Below U.heap.size U wr) (fun _ i _ => 6 - (intOf i).toNat)
  case atStart => exact ⟨0, _, Nat.zero_le _, rfl, rfl, own_nil _ _, Below.refl _ _⟩
  case round =>
    obtain ⟨k, v, hk, rfl, rfl, hown, hbr⟩ := hrel
    by_cases hlt : k < 6
    · have hr := HR.out.below hbr
      have ck : wr.cell? ⟨z, 6 + k, none⟩ = some (.int .i64 (h (6 + k))) := (RowIs.cell hr (6 + k)).trans (loadRow_at _ _ (by omega))
      have hz2 := hr.lt
      have hlen := wbL_len h k
      have hUr := hbr.size
      by_cases h0 : 0 < h (6 + k)
      · have t0 : decide (0 < h (6 + k)) = true := decide_eq_true h0
        have Hb := Lib.hid hbr
        clear hr hbr
        obtain ⟨X, hX⟩ : ∃ X, wr.alloc (.cells #[.int .i64 (k : Int)] 3) = X := ⟨_, rfl⟩
        have hXr : RowIs X wr.heap.size #[.int .i64 (k : Int)] 3 := by rw [← hX]; exact heap_new_at _ _ _ rfl
        have hXo : Own X U.heap.size (wbL h k) v := by rw [← hX]; exact hown.alloc _
        have hXb : Below wr.heap.size wr X := by rw [← hX]; exact Below.alloc1 (Below.refl _ _) _ (Nat.le_refl _)
        obtain ⟨v', A', hrun, hown', hgr, hbA⟩ := hXo.append wr.heap.size k hXr (Nat.le_trans hUr hXb.size) (by omega)
        have Hown := Lib.hid hown'
        clear hown hXr hXo hown' hgr
        go_wp2_with (at_builtin; refine wpList_append_run rfl _ _ 25 rfl rfl rfl hrun ?_)
        go_roundw
        case rel => exact ⟨k + 1, _, by omega, by go_num, rfl, by rw [wbL_yes h0]; exact Hown.out, (Hb.out.trans (hXb.mono hUr)).trans hbA⟩
        case measure => simp [intOf]; omega
      · have t0 : decide (0 < h (6 + k)) = false := decide_eq_false h0
        have Hown := Lib.hid hown
        clear hown
        go_wp2_with fail
        go_roundw
        case rel => exact ⟨k + 1, _, by omega, by go_num, rfl, by rw [wbL_no h0]; exact Hown.out, hbr⟩
        case measure => simp [intOf]; omega
    · obtain rfl : k = 6 := by omega
      obtain ⟨p, c, rfl, hL, -⟩ := hown.lst
      go_wp2_with fail
      refine bodyPost_ret (v := .slice p (wbL h 6).length c) (by simp [results, Tryz.results51, go_sem]) rfl ⟨p, c, rfl, hL, bup HB.out hbr⟩

end Go.Proofs.YtbjgbgchagfokaaGreat
