/- Regions that draw their order, within a round of a range over a function: as outside of one, where no operation defers a call. It imports nothing of the program. -/
import Derived.OrdersIn
import Derived.RangeFuncCalls
import Derived.Test.YtbjgbgchagfokaaBasaa
import Derived.Test.YtbjgbgchagfokaaProg
import Derived.Test.YtbjgbgchagfokaaBasab
import Derived.Shelf.Abstract
import Derived.RangeFuncBound
import Derived.Shelf.RegionOpen
import Derived.OwnWalkIn
import Derived.TacticsInMore
import Derived.LoopNIn
import Derived.LoopIn
import Derived.Scope
namespace Go.Proofs.Ytbjgbgchagfokaa
open Go Go.RowKit

def noDefer (ops : Array Oper) : Bool := ops.toList.all fun o => match o.op with
  | .defer _ => false
  | _ => true

theorem noDefer_at {ops : Array Oper} (h : noDefer ops = true) {i : Nat} {o : Oper} (hi : ops[i]? = some o) (c : Call) : o.op ≠ .defer c := by
  intro e
  have hm : o ∈ ops.toList := by
    rw [Array.mem_toList_iff]
    exact Array.mem_of_getElem? hi
  have := List.all_eq_true.1 h o hm
  rw [e] at this
  cases this

section
variable {P : Program} {ops : Array Oper} {md : Region.Mode} {Q : Exit → Act → World → Prop} {l n : Nat}

theorem rowsIn_wide {F : Fence} {P : Program} {row : String} {args : Array Value} {w : World} {R : Value → World → Prop} (hF : F = Fence.wide.inRound l) (h : Rows P row args w R) : RowsIn F n P row args w R := fun c cs _ => by
  subst hF
  obtain ⟨v, w', r, s⟩ := h c cs
  exact ⟨v, w', r, stepsIn_wide.2 s⟩

theorem opIn_of_op {o : Oper} {a : Act} {w : World} {K K' : Act → World → Prop} (ho : ∀ c, o.op ≠ .defer c) (hK : ∀ a w, K a w → K' a w) (h : o.wp P a w K Q) : o.wpIn (Fence.wide.inRound l) n P a w K' Q := by
  refine ⟨fun _ _ => trivial, ?_⟩
  rw [Oper.semAt_eq _ _ _ ho]
  unfold Oper.wp at h
  generalize (execOp a.eval o).run P w = r at h ⊢
  have hd : ¬ (Fence.wide.inRound l).depth.isSome = true := by simp [Fence.wide]
  cases r with
  | ok x w' =>
    cases x <;> simp only [Oper.upon] at h <;> simp only [Oper.uponIn]
    case value => exact hK _ _ h
    case skip => exact hK _ _ h
    case defer => exact hK _ _ h
    case enter f args =>
      refine ⟨fun h => absurd h hd, CallsIn.inRound l (callsIn_wide.2 (h.mono fun e w'' he => ?_))⟩
      cases e with
      | returned v => exact hK _ _ he
      | panicked chain => exact he
      | outgrown => exact he
    case row => exact ⟨fun h => absurd h hd, rowsIn_wide rfl (h.mono fun v w'' he => hK _ _ he)⟩
  | halt x w' => cases x <;> simp only [Oper.upon] at h <;> simp only [Oper.uponIn] <;> exact h

theorem wpAnyIn_of_any (hd : noDefer ops = true) (hq : ¬ LetsOut Q) : ∀ (fuel : Nat) (listed : Array Bool) (a : Act) (w : World), wpAny P md ops Q fuel listed a w → wpAnyIn (Fence.wide.inRound l) n P md ops Q fuel listed a w
  | 0, _, _, _, h => h
  | fuel + 1, listed, a, w, h => ⟨h.1, fun i hi => by
      have hop := h.2 i hi
      unfold wpOp at hop
      unfold wpOpIn
      cases ho : ops[i]? with
      | none =>
        simp only [ho] at hop
        exact wpAnyIn_of_any hd hq fuel _ _ _ hop
      | some o =>
        simp only [ho] at hop ⊢
        split
        · rename_i hw
          rw [if_pos hw] at hop
          exact opIn_of_op (noDefer_at hd ho) (fun a w => wpAnyIn_of_any hd hq fuel _ a w) (hop.resolve_right fun h => hq h.2)
        · rename_i hw
          rw [if_neg hw] at hop
          exact ⟨fun _ _ => trivial, wpAnyIn_of_any hd hq fuel _ _ _ hop⟩⟩

theorem wpIn_region_anyR {id : Nat} {a : Act} {w : World} (hm : P.follows .mixedOrders = true) (hd : noDefer ops = true) (hq : ¬ LetsOut Q)
    (h : wpAny P .any ops Q ops.size (Array.replicate ops.size false) a { w with drawn := w.drawn + 1 }) : (Code.region id ops true).wpIn (Fence.wide.inRound l) n P Q a w :=
  wpIn_region_any hm (wpAnyIn_of_any hd hq _ _ _ _ h)

/-- As wp_region_later, within a round. -/
theorem wpIn_region_laterR {id : Nat} {a : Act} {w : World} {os : List Oper} (hm : P.follows .mixedOrders = true) (hB : Region.lexB .any os.toArray = true) (hd : noDefer os.toArray = true) (hq : ¬ LetsOut Q)
    (h : wpQuiet P os.toArray (fun w' => ∃ x : Later w, w' = x.w) (fun a' => ∀ x : Later w, Q .normal a' x.w) os a) : (Code.region id os.toArray true).wpIn (Fence.wide.inRound l) n P Q a w := by
  simp only [Region.lexB, Bool.and_eq_true] at hB
  refine wpIn_region_anyR hm hd hq (wpAny_of_quiet (C := fun w' => ∃ x : Later w, w' = x.w) (Q := fun a' => ∀ x : Later w, Q .normal a' x.w) (fun _ w' hw' h => by obtain ⟨x, rfl⟩ := hw'; exact h x) _ _ _ _ ⟨⟨_, (Below.refl _ w).drew⟩, rfl⟩ ?_)
  have := wpAnyQ_lex (C := fun w' => ∃ x : Later w, w' = x.w) (md := .any) hB.1 os 0 (Array.replicate os.toArray.size false) a (by simp) (by simpa using hB.2) h
  simpa using this

/-- As wp_region_quiet_lit, within a round. -/
theorem wpIn_region_quietR {id : Nat} {a : Act} {w : World} {os : List Oper} (hm : P.follows .mixedOrders = true) (hB : Region.lexB .any os.toArray = true) (hd : noDefer os.toArray = true) (hq : ¬ LetsOut Q)
    (h : wpQuiet P os.toArray (fun w' => ∃ q, w' = w.drewN q) (fun a' => ∀ w', (∃ q, w' = w.drewN q) → Q .normal a' w') os a) : (Code.region id os.toArray true).wpIn (Fence.wide.inRound l) n P Q a w := by
  simp only [Region.lexB, Bool.and_eq_true] at hB
  refine wpIn_region_anyR hm hd hq (wpAny_of_quiet (C := fun w' => ∃ q, w' = w.drewN q) (Q := fun a' => ∀ w', (∃ q, w' = w.drewN q) → Q .normal a' w') (fun _ w' hw' h => h w' hw') _ _ _ _ ⟨1, rfl⟩ ?_)
  have := wpAnyQ_lex (C := fun w' => ∃ q, w' = w.drewN q) (md := .any) hB.1 os 0 (Array.replicate os.toArray.size false) a (by simp) (by simpa using hB.2) h
  simpa using this

theorem any_later_tail {Q : Exit → Act → World → Prop} {a : Act} {w : World} {l : List Oper} (n : Nat) (hB : Region.lexTailB .any l.toArray n = true)
    (h : wpQuiet P l.toArray (fun w' => ∃ x : Later w, w' = x.w) (fun a' => ∀ x : Later w, wpList P l.toArray Q (l.drop n) a' x.w) (l.take n) a) :
    wpAny P .any l.toArray Q l.toArray.size (Array.replicate l.toArray.size false) a { w with drawn := w.drawn + 1 } := by
  simp only [Region.lexTailB, Bool.and_eq_true, decide_eq_true_eq] at hB
  obtain ⟨⟨⟨⟨hsel, hn⟩, hs⟩, hc⟩, hlex⟩ := hB
  have hn' : n < l.length := by simpa using hn
  have htl : (l.take n).length = n := by simp; omega
  have hdl : (l.drop n).length = l.toArray.size - n := by simp
  have inv0 : HeadInv .any l.toArray n (Array.replicate l.toArray.size false) :=
    ⟨by simp, fun j oj _ hl => (by rw [getD_replicate_false] at hl; cases hl), fun t _ ht => getD_in (by simpa using ht) (getD_replicate_false _ _)⟩
  have H := headQ_lex (md := .any) (g := l.toArray.size - n) hsel hs hc hn (l.take n) 0 _ a (fun j hj => by
    rw [htl] at hj
    simp [hj]) (by simpa using htl) inv0 (by rw [htl]; exact hlex) h
  have := headQ_any (Q := Q) (g := l.toArray.size - n) (fun done a' w' hw' hL => by
    obtain ⟨x, rfl⟩ := hw'
    have := wpAny_of_seq (md := .any) (Q' := Q) (l.drop n) n done a' x.w (fun j => by simp [List.getElem?_drop]) (by rw [hdl]; exact hL.1) (hL.2 x)
    rwa [hdl] at this) _ _ _ { w with drawn := w.drawn + 1 } ⟨⟨_, (Below.refl _ w).drew⟩, rfl⟩ H
  rw [htl, show n + (l.toArray.size - n) = l.toArray.size by omega] at this
  exact this

/-- As wp_region_later_tail, within a round. -/
theorem wpIn_region_later_tailR {id : Nat} {a : Act} {w : World} {os : List Oper} (m : Nat) (hm : P.follows .mixedOrders = true) (hB : Region.lexTailB .any os.toArray m = true) (hd : noDefer os.toArray = true) (hq : ¬ LetsOut Q)
    (h : wpQuiet P os.toArray (fun w' => ∃ x : Later w, w' = x.w) (fun a' => ∀ x : Later w, wpList P os.toArray Q (os.drop m) a' x.w) (os.take m) a) : (Code.region id os.toArray true).wpIn (Fence.wide.inRound l) n P Q a w :=
  wpIn_region_anyR hm hd hq (any_later_tail m hB h)
end

end Go.Proofs.Ytbjgbgchagfokaa

namespace Go.Proofs.Ytbjgbgchagfokaa
open Go Go.RowKit

abbrev wantV (x : W2) : Value := .agg #[.int .i64 x.s, .int .i64 x.m]
/-- Twelve numbers. -/
def loadRow (h : Nat → Int) : Array Value := #[.int .i64 (h 0), .int .i64 (h 1), .int .i64 (h 2), .int .i64 (h 3), .int .i64 (h 4), .int .i64 (h 5), .int .i64 (h 6), .int .i64 (h 7), .int .i64 (h 8), .int .i64 (h 9), .int .i64 (h 10), .int .i64 (h 11)]
abbrev loadV (h : Nat → Int) : Value := .agg #[.int .i64 (h 0), .int .i64 (h 1), .int .i64 (h 2), .int .i64 (h 3), .int .i64 (h 4), .int .i64 (h 5), .int .i64 (h 6), .int .i64 (h 7), .int .i64 (h 8), .int .i64 (h 9), .int .i64 (h 10), .int .i64 (h 11)]
def deskRow (S M : Int) (a : Option Addr) (n cap : Nat) (h : Nat → Int) : Array Value := #[.int .i64 S, .int .i64 M, .slice a n cap, .int .i64 (h 0), .int .i64 (h 1), .int .i64 (h 2), .int .i64 (h 3), .int .i64 (h 4), .int .i64 (h 5), .int .i64 (h 6), .int .i64 (h 7), .int .i64 (h 8), .int .i64 (h 9), .int .i64 (h 10), .int .i64 (h 11)]
abbrev deskV (S M : Int) (a : Option Addr) (n cap : Nat) (h : Nat → Int) : Value := .agg #[.int .i64 S, .int .i64 M, .slice a n cap, .int .i64 (h 0), .int .i64 (h 1), .int .i64 (h 2), .int .i64 (h 3), .int .i64 (h 4), .int .i64 (h 5), .int .i64 (h 6), .int .i64 (h 7), .int .i64 (h 8), .int .i64 (h 9), .int .i64 (h 10), .int .i64 (h 11)]

theorem loadRow_at (h : Nat → Int) (x : Nat) (hx : x < 12) : (loadRow h)[x]? = some (.int .i64 (h x)) := by
  have : x = 0 ∨ x = 1 ∨ x = 2 ∨ x = 3 ∨ x = 4 ∨ x = 5 ∨ x = 6 ∨ x = 7 ∨ x = 8 ∨ x = 9 ∨ x = 10 ∨ x = 11 := by omega
  rcases this with rfl | rfl | rfl | rfl | rfl | rfl | rfl | rfl | rfl | rfl | rfl | rfl <;> rfl
theorem loadRow_rowA (h : Nat → Int) : loadRow h = rowA 12 h := rfl
theorem loadRow_set (h g : Nat → Int) (j : Nat) (v : Int) (hv : v = g j) (hg : ∀ i, i < 12 → i ≠ j → g i = h i) : (loadRow h).setIfInBounds j (.int .i64 v) = loadRow g := rowA_set 12 h g j v hv hg

/-- What the twelve cells of loads hold. -/
theorem loadcells {w : World} {b : Nat} {h : Nat → Int} {T : TypeId} (hr : RowIs w b (loadRow h) T) :
    w.cell? ⟨b, 0, none⟩ = some (.int .i64 (h 0)) ∧ w.cell? ⟨b, 1, none⟩ = some (.int .i64 (h 1)) ∧ w.cell? ⟨b, 2, none⟩ = some (.int .i64 (h 2)) ∧ w.cell? ⟨b, 3, none⟩ = some (.int .i64 (h 3)) ∧ w.cell? ⟨b, 4, none⟩ = some (.int .i64 (h 4)) ∧ w.cell? ⟨b, 5, none⟩ = some (.int .i64 (h 5)) ∧
    w.cell? ⟨b, 6, none⟩ = some (.int .i64 (h 6)) ∧ w.cell? ⟨b, 7, none⟩ = some (.int .i64 (h 7)) ∧ w.cell? ⟨b, 8, none⟩ = some (.int .i64 (h 8)) ∧ w.cell? ⟨b, 9, none⟩ = some (.int .i64 (h 9)) ∧ w.cell? ⟨b, 10, none⟩ = some (.int .i64 (h 10)) ∧ w.cell? ⟨b, 11, none⟩ = some (.int .i64 (h 11)) ∧ b < w.heap.size :=
  ⟨hr.cell 0, hr.cell 1, hr.cell 2, hr.cell 3, hr.cell 4, hr.cell 5, hr.cell 6, hr.cell 7, hr.cell 8, hr.cell 9, hr.cell 10, hr.cell 11, (Array.getElem?_eq_some_iff.1 hr).1⟩
theorem loadfree {w : World} {b : Nat} {h : Nat → Int} {T : TypeId} (hr : RowIs w b (loadRow h) T) :
    w.frozen? ⟨b, 0, none⟩ = false ∧ w.frozen? ⟨b, 1, none⟩ = false ∧ w.frozen? ⟨b, 2, none⟩ = false ∧ w.frozen? ⟨b, 3, none⟩ = false ∧ w.frozen? ⟨b, 4, none⟩ = false ∧ w.frozen? ⟨b, 5, none⟩ = false ∧
    w.frozen? ⟨b, 6, none⟩ = false ∧ w.frozen? ⟨b, 7, none⟩ = false ∧ w.frozen? ⟨b, 8, none⟩ = false ∧ w.frozen? ⟨b, 9, none⟩ = false ∧ w.frozen? ⟨b, 10, none⟩ = false ∧ w.frozen? ⟨b, 11, none⟩ = false :=
  ⟨hr.frozen 0, hr.frozen 1, hr.frozen 2, hr.frozen 3, hr.frozen 4, hr.frozen 5, hr.frozen 6, hr.frozen 7, hr.frozen 8, hr.frozen 9, hr.frozen 10, hr.frozen 11⟩
/-- What the fifteen cells of a desk hold. -/
theorem deskcells {w : World} {b : Nat} {S M : Int} {a : Option Addr} {n cap : Nat} {h : Nat → Int} {T : TypeId} (hr : RowIs w b (deskRow S M a n cap h) T) :
    w.cell? ⟨b, 0, none⟩ = some (.int .i64 S) ∧ w.cell? ⟨b, 1, none⟩ = some (.int .i64 M) ∧ w.cell? ⟨b, 2, none⟩ = some (.slice a n cap) ∧ w.cell? ⟨b, 3, none⟩ = some (.int .i64 (h 0)) ∧ w.cell? ⟨b, 4, none⟩ = some (.int .i64 (h 1)) ∧ w.cell? ⟨b, 5, none⟩ = some (.int .i64 (h 2)) ∧ w.cell? ⟨b, 6, none⟩ = some (.int .i64 (h 3)) ∧ w.cell? ⟨b, 7, none⟩ = some (.int .i64 (h 4)) ∧ w.cell? ⟨b, 8, none⟩ = some (.int .i64 (h 5)) ∧
    w.cell? ⟨b, 9, none⟩ = some (.int .i64 (h 6)) ∧ w.cell? ⟨b, 10, none⟩ = some (.int .i64 (h 7)) ∧ w.cell? ⟨b, 11, none⟩ = some (.int .i64 (h 8)) ∧ w.cell? ⟨b, 12, none⟩ = some (.int .i64 (h 9)) ∧ w.cell? ⟨b, 13, none⟩ = some (.int .i64 (h 10)) ∧ w.cell? ⟨b, 14, none⟩ = some (.int .i64 (h 11)) ∧ b < w.heap.size :=
  ⟨hr.cell 0, hr.cell 1, hr.cell 2, hr.cell 3, hr.cell 4, hr.cell 5, hr.cell 6, hr.cell 7, hr.cell 8, hr.cell 9, hr.cell 10, hr.cell 11, hr.cell 12, hr.cell 13, hr.cell 14, (Array.getElem?_eq_some_iff.1 hr).1⟩
theorem RowIs.below {w w' : World} {b : Nat} {c : Array Value} {e : TypeId} (h : RowIs w b c e) (hb : Below w.heap.size w w') : RowIs w' b c e := (hb.block b (Array.getElem?_eq_some_iff.1 h).1).trans h
theorem RowIs.lt {w : World} {b : Nat} {c : Array Value} {e : TypeId} (h : RowIs w b c e) : b < w.heap.size := (Array.getElem?_eq_some_iff.1 h).1

/-- Twelve cells are written. -/
def put12 (w : World) (b : Nat) (h : Nat → Int) : World :=
  (((((((((((w.setCell ⟨b, 0, none⟩ (.int .i64 (h 0))).setCell ⟨b, 1, none⟩ (.int .i64 (h 1))).setCell ⟨b, 2, none⟩ (.int .i64 (h 2))).setCell ⟨b, 3, none⟩ (.int .i64 (h 3))).setCell ⟨b, 4, none⟩ (.int .i64 (h 4))).setCell ⟨b, 5, none⟩ (.int .i64 (h 5))).setCell ⟨b, 6, none⟩ (.int .i64 (h 6))).setCell ⟨b, 7, none⟩ (.int .i64 (h 7))).setCell ⟨b, 8, none⟩ (.int .i64 (h 8))).setCell ⟨b, 9, none⟩ (.int .i64 (h 9))).setCell ⟨b, 10, none⟩ (.int .i64 (h 10))).setCell ⟨b, 11, none⟩ (.int .i64 (h 11))
theorem put12_row {w : World} {b : Nat} {g : Nat → Int} {T : TypeId} (h : RowIs w b (loadRow g) T) (f : Nat → Int) : RowIs (put12 w b f) b (loadRow f) T := by
  have := (((((((((((h.set 0 (.int .i64 (f 0))).set 1 (.int .i64 (f 1))).set 2 (.int .i64 (f 2))).set 3 (.int .i64 (f 3))).set 4 (.int .i64 (f 4))).set 5 (.int .i64 (f 5))).set 6 (.int .i64 (f 6))).set 7 (.int .i64 (f 7))).set 8 (.int .i64 (f 8))).set 9 (.int .i64 (f 9))).set 10 (.int .i64 (f 10))).set 11 (.int .i64 (f 11))
  simpa [put12, loadRow] using this
theorem put12_below {w : World} {b B : Nat} (h : B ≤ b) (f : Nat → Int) : Below B w (put12 w b f) :=
  ((((((((((((Below.refl B w).setCell (p := ⟨b, 0, none⟩) h _).setCell (p := ⟨b, 1, none⟩) h _).setCell (p := ⟨b, 2, none⟩) h _).setCell (p := ⟨b, 3, none⟩) h _).setCell (p := ⟨b, 4, none⟩) h _).setCell (p := ⟨b, 5, none⟩) h _).setCell (p := ⟨b, 6, none⟩) h _).setCell (p := ⟨b, 7, none⟩) h _).setCell (p := ⟨b, 8, none⟩) h _).setCell (p := ⟨b, 9, none⟩) h _).setCell (p := ⟨b, 10, none⟩) h _).setCell (p := ⟨b, 11, none⟩) h _

/-- How many of the first wants that are meant are of the shop x, or of the mould x - 6. -/
def ldF (f : Nat → W2) (p : Nat → Bool) (x : Nat) : Nat → Int
  | 0 => 0
  | k + 1 => ldF f p x k + if p k = true ∧ ((f k).s = x ∨ 6 + (f k).m = x) then 1 else 0
theorem ldF_bd (f : Nat → W2) (p : Nat → Bool) (x : Nat) : ∀ k, 0 ≤ ldF f p x k ∧ ldF f p x k ≤ k
  | 0 => ⟨Int.le_refl _, Int.le_refl _⟩
  | k + 1 => by have := ldF_bd f p x k; unfold ldF; split <;> omega

set_option maxHeartbeats 8000000 in
theorem dloadsOf_c (S M : Int) (a : Option Addr) (n cap : Nat) (f : Nat → W2) (h : Nat → Int) (mf : Nat) (mfirst mlb : Array Value) (p : Nat → Bool) (w : World) (hf : Wants w a n f) (hG : GoodBook S M n f) (em : ∀ args w, (callFunc mf args).run Try.prog w = .ok (.enter mf args) w)
    (hm : ∀ W, Below w.heap.size w W → ∀ i, i < n → Calls Try.prog mf (mfirst ++ #[wantV (f i)] ++ mlb) W fun e w' => e = .returned (.bool (p i)) ∧ Below W.heap.size W w') :
    Calls Try.prog 62 #[deskV S M a n cap h, .func (.func mf) mfirst mlb] w fun e w' => e = .returned (loadV fun x => ldF f p x n) ∧ Below w.heap.size w w' := by
  obtain ⟨hS, hM, hn, hr⟩ := hG
  obtain ⟨Z, hZ⟩ : ∃ Z, ((w.alloc (.cells (deskRow S M a n cap h) 67)).alloc (.cells (loadRow fun _ => 0) 65)).alloc (.cells (loadRow fun _ => 0) 65) = Z := ⟨_, rfl⟩
  have hB : Below w.heap.size w Z := by rw [← hZ]; exact Below.alloc1 (Below.alloc1 (Below.alloc1 (Below.refl _ _) _ (Nat.le_refl _)) _ (Nat.le_refl _)) _ (Nat.le_refl _)
  have hD : RowIs Z w.heap.size (deskRow S M a n cap h) 67 := by rw [← hZ]; exact RowIs.alloc (RowIs.alloc (heap_new_at _ _ _ rfl) _) _
  have hR : RowIs Z (w.heap.size + 1) (loadRow fun _ => 0) 65 := by rw [← hZ]; exact RowIs.alloc (heap_new_at _ _ _ (by simp)) _
  have hL : RowIs Z (w.heap.size + 2) (loadRow fun _ => 0) 65 := by rw [← hZ]; exact heap_new_at _ _ _ (by simp)
  have hzZ : Z.heap.size = w.heap.size + 3 := by rw [← hZ]; simp
  have d2 : Z.cell? ⟨w.heap.size, 2, none⟩ = some (.slice a n cap) := hD.cell 2
  have dz := hD.lt
  have Hm := Lib.hid hm
  have Hr := Lib.hid hr
  have Hf := Lib.hid hf
  have HD := Lib.hid hD
  have HR := Lib.hid hR
  have HL := Lib.hid hL
  have HB := Lib.hid hB
  have HzZ := Lib.hid hzZ
  clear hf hr hm hD hR hL hB hzZ
  simp only [deskRow, loadRow] at hZ
  go_enter Try.func62, Try.ntmps62
  go_wp2_with fail
  go_loopw [12] (fun i wr => ∃ k : Nat, k ≤ n ∧ i = .int .i64 k ∧ Below w.heap.size w wr ∧ w.heap.size + 3 ≤ wr.heap.size ∧ RowIs wr (w.heap.size + 1) (loadRow fun _ => 0) 65 ∧ RowIs wr (w.heap.size + 2) (loadRow fun x => ldF f p x k) 65) (fun i _ => n - (intOf i).toNat)
  case atStart => exact ⟨0, Nat.zero_le _, rfl, HB.out, Nat.le_of_eq HzZ.out.symm, HR.out, HL.out⟩
  case round =>
    obtain ⟨k, hk, rfl, hBr, hzr, hR2, hL2⟩ := hrel
    have HR2 := Lib.hid hR2
    have HL2 := Lib.hid hL2
    by_cases hlt : k < n
    · obtain ⟨b, off, rfl, hbs, -, -⟩ := Wants.at Hf.out k hlt
      obtain ⟨b', off', he, hbs', c0, c1⟩ := Wants.at (Wants.below Hf.out hBr) k hlt
      cases he
      obtain ⟨x, hx⟩ := Int.eq_ofNat_of_zero_le (Hr.out k hlt).1.1
      obtain ⟨y, hy⟩ := Int.eq_ofNat_of_zero_le (Hr.out k hlt).2.1
      have hxs : x < 6 := by have := (Hr.out k hlt).1.2; omega
      have hym : y < 6 := by have := (Hr.out k hlt).2.2; omega
      have hfk : f k = ⟨x, y⟩ := by
        cases hf : f k with
        | mk s m =>
          rw [hf] at hx hy
          simp only at hx hy
          rw [hx, hy]
      rw [hx] at c0
      rw [hy] at c1
      obtain ⟨V, hV⟩ : ∃ V, wr.alloc (.cells #[.int .i64 (x : Int), .int .i64 (y : Int)] 58) = V := ⟨_, rfl⟩
      have hBV : Below wr.heap.size wr V := by rw [← hV]; exact Below.alloc1 (Below.refl _ _) _ (Nat.le_refl _)
      have hW2 : RowIs V wr.heap.size #[.int .i64 (x : Int), .int .i64 (y : Int)] 58 := by rw [← hV]; exact heap_new_at _ _ _ rfl
      have q0 : V.cell? ⟨wr.heap.size, 0, none⟩ = some (.int .i64 (x : Int)) := hW2.cell 0
      have q1 : V.cell? ⟨wr.heap.size, 1, none⟩ = some (.int .i64 (y : Int)) := hW2.cell 1
      have qz := hW2.lt
      have hBwV : Below w.heap.size w V := hBr.trans (hBV.mono (by omega))
      have hc := Hm.out V hBwV k hlt
      rw [hfk] at hc
      rw [show mfirst ++ #[wantV ⟨x, y⟩] = mfirst.push (wantV ⟨x, y⟩) from rfl] at hc
      have Hx := Lib.hid hx
      have Hy := Lib.hid hy
      have Hc := Lib.hid hc
      clear hfk hx hy
      have HW2 := Lib.hid hW2
      have HBV := Lib.hid hBwV
      have HBr := Lib.hid hBr
      have HRV := Lib.hid (hR2.below hBV)
      have HLV := Lib.hid (hL2.below hBV)
      have hzV : w.heap.size + 3 ≤ V.heap.size := Nat.le_trans hzr hBV.size
      clear hc hW2 hBwV hR2 hL2 hBr
      go_wp2_with fail
      refine Hc.out.mono ?_
      rintro e w1 ⟨rfl, hb1⟩
      have hB1 : Below w.heap.size w w1 := HBV.out.trans (hb1.mono (by omega))
      have hz1 : w.heap.size + 3 ≤ w1.heap.size := Nat.le_trans hzV hb1.size
      have hR1 := HRV.out.below hb1
      have hL1 := HLV.out.below hb1
      have hQ1 := HW2.out.below hb1
      clear q0 q1 c0 c1 hV
      have q0 : w1.cell? ⟨wr.heap.size, 0, none⟩ = some (.int .i64 (x : Int)) := hQ1.cell 0
      have q1 : w1.cell? ⟨wr.heap.size, 1, none⟩ = some (.int .i64 (y : Int)) := hQ1.cell 1
      have qz1 := hQ1.lt
      have HR1 := Lib.hid hR1
      have HL1 := Lib.hid hL1
      have HB1 := Lib.hid hB1
      clear hR1 hL1 hQ1 hB1 hb1 qz
      cases hp : p k with
      | false =>
        have Hp := Lib.hid hp
        clear hp
        go_wp2_with fail
        go_roundw
        case rel =>
          refine ⟨k + 1, by omega, by go_num, HB1.out, hz1, HR1.out, ?_⟩
          have e : (fun x => ldF f p x (k + 1)) = fun x => ldF f p x k := funext fun z => by simp [ldF, Hp.out]
          rw [e]; exact HL1.out
        case measure => simp [intOf]; omega
      | true =>
        have Hp := Lib.hid hp
        clear hp
        have hlx := ldF_bd f p x k
        have hly := ldF_bd f p (6 + y) k
        have hy6 : 6 + y < 12 := by omega
        have hx12 : x < 12 := by omega
        have e0 : w1.cell? ⟨w.heap.size + 2, x, none⟩ = some (.int .i64 (ldF f p x k)) := (RowIs.cell HL1.out x).trans (loadRow_at _ x hx12)
        have e1 : w1.frozen? ⟨w.heap.size + 2, x, none⟩ = false := RowIs.frozen HL1.out x
        obtain ⟨X, hX⟩ : ∃ X, w1.setCell ⟨w.heap.size + 2, x, none⟩ (.int .i64 (ldF f p x k + 1)) = X := ⟨_, rfl⟩
        have hbX : Below (w.heap.size + 2) w1 X := by rw [← hX]; exact (Below.refl _ _).setCell (p := ⟨w.heap.size + 2, x, none⟩) (Nat.le_refl _) _
        have sX : X.heap.size = w1.heap.size := by rw [← hX]; simp [World.setCell]
        have oX : ∀ b, b ≠ w.heap.size + 2 → X.heap[b]? = w1.heap[b]? := fun b hb => by rw [← hX]; exact Below.heap_setCell _ _ _ _ hb
        have hlX : RowIs X (w.heap.size + 2) (loadRow fun z => if z = x then ldF f p x k + 1 else ldF f p z k) 65 := by
          rw [← hX]
          have := RowIs.set HL1.out x (.int .i64 (ldF f p x k + 1))
          rwa [loadRow_set _ (fun z => if z = x then ldF f p x k + 1 else ldF f p z k) x _ (by simp) (fun i _ hn => by simp [hn])] at this
        have hyx : 6 + y ≠ x := by omega
        have f0 : X.cell? ⟨w.heap.size + 2, 6 + y, none⟩ = some (.int .i64 (ldF f p (6 + y) k)) := by
          have := (RowIs.cell hlX (6 + y)).trans (loadRow_at _ (6 + y) hy6)
          simpa [hyx] using this
        have f1 : X.frozen? ⟨w.heap.size + 2, 6 + y, none⟩ = false := RowIs.frozen hlX (6 + y)
        have g1 : X.cell? ⟨wr.heap.size, 1, none⟩ = some (.int .i64 y) := (World.cell?_of_block (a := ⟨wr.heap.size, 1, none⟩) (oX wr.heap.size (by omega))).trans q1
        obtain ⟨Y, hY⟩ : ∃ Y, X.setCell ⟨w.heap.size + 2, 6 + y, none⟩ (.int .i64 (ldF f p (6 + y) k + 1)) = Y := ⟨_, rfl⟩
        have sY : Y.heap.size = w1.heap.size := by rw [← hY]; simp [World.setCell, sX]
        have oY : ∀ b, b ≠ w.heap.size + 2 → Y.heap[b]? = w1.heap[b]? := fun b hb => by rw [← hY]; exact (Below.heap_setCell _ _ _ _ hb).trans (oX b hb)
        have hbY : Below (w.heap.size + 2) w1 Y := by rw [← hY]; exact hbX.setCell (p := ⟨w.heap.size + 2, 6 + y, none⟩) (Nat.le_refl _) _
        have hlY : RowIs Y (w.heap.size + 2) (loadRow fun z => ldF f p z (k + 1)) 65 := by
          rw [← hY]
          have := RowIs.set hlX (6 + y) (.int .i64 (ldF f p (6 + y) k + 1))
          rwa [loadRow_set _ (fun z => ldF f p z (k + 1)) (6 + y) _ (by have := Hy.out; simp only [ldF, Hp.out, true_and]; rw [if_pos (by omega)]) (fun i _ hn => by
            have h1 := Hx.out
            have h2 := Hy.out
            by_cases c : i = x
            · subst c; simp only [ldF, Hp.out, true_and]; rw [if_pos (by omega), if_pos trivial]
            · simp only [ldF, Hp.out, c, if_false, true_and]
              rw [if_neg (by omega)]; omega)] at this
        have hw1 : IntKind.i64.wrap (ldF f p x k + 1) = ldF f p x k + 1 := IntWalk.i64_in _ (by omega)
        have hw2 : IntKind.i64.wrap (ldF f p (6 + y) k + 1) = ldF f p (6 + y) k + 1 := IntWalk.i64_in _ (by omega)
        have hw3 : IntKind.i64.wrap (6 + (y : Int)) = ((6 + y : Nat) : Int) := by rw [IntWalk.i64_in _ (by omega)]; omega
        have HlY := Lib.hid hlY
        have HoY := Lib.hid oY
        have HbY := Lib.hid hbY
        clear hlX hlY oX oY hbX hbY
        go_wp2_with fail
        go_roundw
        case rel => exact ⟨k + 1, by omega, by go_num, HB1.out.trans (HbY.out.mono (by omega)), by omega, (HoY.out _ (by omega)).trans HR1.out, HlY.out⟩
        case measure => simp [intOf]; omega
    · obtain rfl : k = n := by omega
      obtain ⟨l0, l1, l2, l3, l4, l5, l6, l7, l8, l9, l10, l11, lz⟩ := loadcells hL2
      obtain ⟨r0, r1, r2, r3, r4, r5, r6, r7, r8, r9, r10, r11⟩ := loadfree hR2
      obtain ⟨s0, s1, s2, s3, s4, s5, s6, s7, s8, s9, s10, s11, sz⟩ := loadcells hR2
      clear HR2 HL2 hL2
      go_wp2_with fail
      change bodyPost _ _ _ _ _ (put12 wr (w.heap.size + 1) fun x => ldF f p x k)
      have hU := put12_row hR2 fun x => ldF f p x k
      have hb := hBr.trans (put12_below (w := wr) (b := w.heap.size + 1) (B := w.heap.size) (by omega) fun x => ldF f p x k)
      generalize put12 wr (w.heap.size + 1) (fun x => ldF f p x k) = U at hU hb
      obtain ⟨t0, t1, t2, t3, t4, t5, t6, t7, t8, t9, t10, t11, tz⟩ := loadcells hU
      refine bodyPost_ret (v := loadV fun x => ldF f p x k) (by simp [results, Try.results62, go_sem, t0, t1, t2, t3, t4, t5, t6, t7, t8, t9, t10, t11]) rfl ⟨rfl, hb⟩

end Go.Proofs.Ytbjgbgchagfokaa

namespace Go.Proofs.Ytbjgbgchagfokaa
open Go Go.RowKit Go.Shelf

/-- Some cells of a block are written. -/
def putL (w : World) (b : Nat) : Nat → List Value → World
  | _, [] => w
  | o, v :: l => putL (w.setCell ⟨b, o, none⟩ v) b (o + 1) l
/-- Some cells of a row are written. -/
def setL (c : Array Value) : Nat → List Value → Array Value
  | _, [] => c
  | o, v :: l => setL (c.setIfInBounds o v) (o + 1) l
theorem putL_row {T : TypeId} {b : Nat} {w : World} {c : Array Value} {o : Nat} {l : List Value} : RowIs w b c T → RowIs (putL w b o l) b (setL c o l) T := by
  induction l generalizing w c o with
  | nil => exact id
  | cons v l ih => exact fun h => ih (h.set o v)
theorem putL_below {b B : Nat} (h : B ≤ b) : ∀ {w : World} {o : Nat} {l : List Value}, Below B w (putL w b o l)
  | w, _, [] => Below.refl B w
  | w, o, v :: _ => ((Below.refl B w).setCell (p := ⟨b, o, none⟩) h v).trans (putL_below h)
theorem putL_other {b k : Nat} (h : k ≠ b) : ∀ {w : World} {o : Nat} {l : List Value}, (putL w b o l).heap[k]? = w.heap[k]?
  | _, _, [] => rfl
  | w, o, v :: _ => (putL_other h (w := w.setCell ⟨b, o, none⟩ v)).trans (Below.heap_setCell _ _ _ _ h)
theorem putL_size {b : Nat} : ∀ {w : World} {o : Nat} {l : List Value}, (putL w b o l).heap.size = w.heap.size
  | _, _, [] => rfl
  | w, o, v :: _ => (putL_size (w := w.setCell ⟨b, o, none⟩ v)).trans (by simp [World.setCell])

def loadL (h : Nat → Int) : List Value := [.int .i64 (h 0), .int .i64 (h 1), .int .i64 (h 2), .int .i64 (h 3), .int .i64 (h 4), .int .i64 (h 5), .int .i64 (h 6), .int .i64 (h 7), .int .i64 (h 8), .int .i64 (h 9), .int .i64 (h 10), .int .i64 (h 11)]
def deskL (S M : Int) (a : Option Addr) (n cap : Nat) (h : Nat → Int) : List Value := [.int .i64 S, .int .i64 M, .slice a n cap, .int .i64 (h 0), .int .i64 (h 1), .int .i64 (h 2), .int .i64 (h 3), .int .i64 (h 4), .int .i64 (h 5), .int .i64 (h 6), .int .i64 (h 7), .int .i64 (h 8), .int .i64 (h 9), .int .i64 (h 10), .int .i64 (h 11)]
theorem setL_load (S M : Int) (a : Option Addr) (n cap : Nat) (g h : Nat → Int) : setL (deskRow S M a n cap g) 3 (loadL h) = deskRow S M a n cap h := by simp [setL, loadL, deskRow]
theorem setL_desk (S M : Int) (a : Option Addr) (n cap : Nat) (g h : Nat → Int) (S' M' : Int) (a' : Option Addr) (n' cap' : Nat) : setL (deskRow S' M' a' n' cap' g) 0 (deskL S M a n cap h) = deskRow S M a n cap h := by simp [setL, deskL, deskRow]
theorem deskfree {w : World} {b : Nat} {S M : Int} {a : Option Addr} {n cap : Nat} {h : Nat → Int} {T : TypeId} (hr : RowIs w b (deskRow S M a n cap h) T) :
    w.frozen? ⟨b, 0, none⟩ = false ∧ w.frozen? ⟨b, 1, none⟩ = false ∧ w.frozen? ⟨b, 2, none⟩ = false ∧ w.frozen? ⟨b, 3, none⟩ = false ∧ w.frozen? ⟨b, 4, none⟩ = false ∧ w.frozen? ⟨b, 5, none⟩ = false ∧ w.frozen? ⟨b, 6, none⟩ = false ∧ w.frozen? ⟨b, 7, none⟩ = false ∧ w.frozen? ⟨b, 8, none⟩ = false ∧
    w.frozen? ⟨b, 9, none⟩ = false ∧ w.frozen? ⟨b, 10, none⟩ = false ∧ w.frozen? ⟨b, 11, none⟩ = false ∧ w.frozen? ⟨b, 12, none⟩ = false ∧ w.frozen? ⟨b, 13, none⟩ = false ∧ w.frozen? ⟨b, 14, none⟩ = false :=
  ⟨hr.frozen 0, hr.frozen 1, hr.frozen 2, hr.frozen 3, hr.frozen 4, hr.frozen 5, hr.frozen 6, hr.frozen 7, hr.frozen 8, hr.frozen 9, hr.frozen 10, hr.frozen 11, hr.frozen 12, hr.frozen 13, hr.frozen 14⟩

abbrev noDeskV : Value := deskV 0 0 none 0 0 fun _ => 0
/-- The loads of a book. -/
abbrev bookL (f : Nat → W2) (n : Nat) : Nat → Int := fun x => ldF f (fun _ => true) x n

theorem all_c (v : Value) (x : W2) (w : World) (hv : v = wantV x) : Calls Try.prog 80 #[v] w fun e w' => e = .returned (.bool true) ∧ Below w.heap.size w w' := by
  subst hv
  go_enter Try.func80, Try.ntmps80
  go_wp2_with fail
  go_ret
  exact ⟨rfl, Below.alloc1 (Below.refl _ _) _ (Nat.le_refl _)⟩

set_option maxHeartbeats 4000000 in
theorem newDesk_no_c (S M : Int) (a : Option Addr) (n cap : Nat) (f : Nat → W2) (w : World) (hf : Wants w a n f) (hn : n ≤ 1048576) (hE : bookE S M n f ≠ 0) :
    Calls Try.prog 49 #[bookV S M a n cap] w fun e w' => e = .returned (.tuple #[noDeskV, .int .i64 (bookE S M n f)]) ∧ Below w.heap.size w w' := by
  obtain ⟨W, hW⟩ : ∃ W, (w.alloc (.cells #[.int .i64 S, .int .i64 M, .slice a n cap] 24)).alloc (.cells (deskRow 0 0 none 0 0 fun _ => 0) 67) = W := ⟨_, rfl⟩
  have hB : Below w.heap.size w W := by rw [← hW]; exact Below.alloc1 (Below.alloc1 (Below.refl _ _) _ (Nat.le_refl _)) _ (Nat.le_refl _)
  have hR : RowIs W w.heap.size #[.int .i64 S, .int .i64 M, .slice a n cap] 24 := by rw [← hW]; exact RowIs.alloc (heap_new_at _ _ _ rfl) _
  have hD : RowIs W (w.heap.size + 1) (deskRow 0 0 none 0 0 fun _ => 0) 67 := by rw [← hW]; exact heap_new_at _ _ _ (by simp)
  have r0 : W.cell? ⟨w.heap.size, 0, none⟩ = some (.int .i64 S) := RowIs.cell hR 0
  have r1 : W.cell? ⟨w.heap.size, 1, none⟩ = some (.int .i64 M) := RowIs.cell hR 1
  have r2 : W.cell? ⟨w.heap.size, 2, none⟩ = some (.slice a n cap) := RowIs.cell hR 2
  have rz := hR.lt
  have HD := Lib.hid hD
  have HfW := Lib.hid (hf.below hB)
  clear hf hR hD
  obtain ⟨v, hv⟩ : ∃ v, bookE S M n f = v := ⟨_, rfl⟩
  rw [hv] at hE ⊢
  have t0 : (v != 0) = true := by simpa using hE
  simp only [deskRow] at hW
  go_enter Try.func49, Try.ntmps49
  go_wp2_with fail
  refine (checkBook_c S M a n cap f W HfW.out hn).mono ?_
  rintro e w1 ⟨rfl, hb1⟩
  rw [hv]
  have hD1 := HD.out.below hb1
  have hB1 := bup hB hb1
  obtain ⟨f0, f1, f2, f3, f4, f5, f6, f7, f8, f9, f10, f11, f12, f13, f14⟩ := deskfree hD1
  obtain ⟨c0, c1, c2, c3, c4, c5, c6, c7, c8, c9, c10, c11, c12, c13, c14, cz⟩ := deskcells hD1
  clear hW r0 r1 r2 rz HfW hb1 HD
  go_wp2_with fail
  change bodyPost _ _ _ _ _ (putL w1 (w.heap.size + 1) 0 (deskL 0 0 none 0 0 fun _ => 0))
  have hU := putL_row (o := 0) (l := deskL 0 0 none 0 0 fun _ => 0) hD1
  rw [setL_desk] at hU
  have hb := hB1.trans (putL_below (w := w1) (b := w.heap.size + 1) (B := w.heap.size) (by omega) (o := 0) (l := deskL 0 0 none 0 0 fun _ => 0))
  generalize putL w1 (w.heap.size + 1) 0 (deskL 0 0 none 0 0 fun _ => 0) = U at hU hb
  clear f0 f1 f2 f3 f4 f5 f6 f7 f8 f9 f10 f11 f12 f13 f14 c0 c1 c2 c3 c4 c5 c6 c7 c8 c9 c10 c11 c12 c13 c14 cz
  obtain ⟨c0, c1, c2, c3, c4, c5, c6, c7, c8, c9, c10, c11, c12, c13, c14, cz⟩ := deskcells hU
  refine bodyPost_ret (v := .tuple #[noDeskV, .int .i64 v]) (by simp [results, Try.results49, go_sem, c0, c1, c2, c3, c4, c5, c6, c7, c8, c9, c10, c11, c12, c13, c14]) rfl ⟨rfl, hb⟩

set_option maxHeartbeats 8000000 in
theorem newDesk_yes_c (S M : Int) (a : Option Addr) (n cap : Nat) (f : Nat → W2) (w : World) (hf : Wants w a n f) (hn : n ≤ 1048576) (hE : bookE S M n f = 0) :
    Calls Try.prog 49 #[bookV S M a n cap] w fun e w' => e = .returned (.tuple #[deskV S M a n cap (bookL f n), .int .i64 0]) ∧ Below w.heap.size w w' := by
  obtain ⟨W, hW⟩ : ∃ W, (w.alloc (.cells #[.int .i64 S, .int .i64 M, .slice a n cap] 24)).alloc (.cells (deskRow 0 0 none 0 0 fun _ => 0) 67) = W := ⟨_, rfl⟩
  have hB : Below w.heap.size w W := by rw [← hW]; exact Below.alloc1 (Below.alloc1 (Below.refl _ _) _ (Nat.le_refl _)) _ (Nat.le_refl _)
  have hR : RowIs W w.heap.size #[.int .i64 S, .int .i64 M, .slice a n cap] 24 := by rw [← hW]; exact RowIs.alloc (heap_new_at _ _ _ rfl) _
  have hD : RowIs W (w.heap.size + 1) (deskRow 0 0 none 0 0 fun _ => 0) 67 := by rw [← hW]; exact heap_new_at _ _ _ (by simp)
  have r0 : W.cell? ⟨w.heap.size, 0, none⟩ = some (.int .i64 S) := RowIs.cell hR 0
  have r1 : W.cell? ⟨w.heap.size, 1, none⟩ = some (.int .i64 M) := RowIs.cell hR 1
  have r2 : W.cell? ⟨w.heap.size, 2, none⟩ = some (.slice a n cap) := RowIs.cell hR 2
  have rz := hR.lt
  have HD := Lib.hid hD
  have HfW := Lib.hid (hf.below hB)
  have HG := Lib.hid (book_good hE)
  clear hf hR hD
  simp only [deskRow] at hW
  obtain ⟨l, hl⟩ : ∃ l, bookL f n = l := ⟨_, rfl⟩
  rw [hl]
  have HLB := Lib.hid hl
  clear hl
  go_enter Try.func49, Try.ntmps49
  go_wp2_with fail
  refine (checkBook_c S M a n cap f W HfW.out hn).mono ?_
  rintro e w1 ⟨rfl, hb1⟩
  rw [hE]
  have q0 := (hb1.cell (p := ⟨w.heap.size, 0, none⟩) rz).trans r0
  have q1 := (hb1.cell (p := ⟨w.heap.size, 1, none⟩) rz).trans r1
  have q2 := (hb1.cell (p := ⟨w.heap.size, 2, none⟩) rz).trans r2
  have rz1 := Nat.lt_of_lt_of_le rz hb1.size
  have hD1 := HD.out.below hb1
  have hDz := hD1.lt
  have hB1 := bup hB hb1
  obtain ⟨V, hV⟩ : ∃ V, w1.alloc (.cells (deskRow 0 0 none 0 0 fun _ => 0) 67) = V := ⟨_, rfl⟩
  have hBV : Below w1.heap.size w1 V := by rw [← hV]; exact Below.alloc1 (Below.refl _ _) _ (Nat.le_refl _)
  have hDV : RowIs V w1.heap.size (deskRow 0 0 none 0 0 fun _ => 0) 67 := by rw [← hV]; exact heap_new_at _ _ _ rfl
  obtain ⟨z, hz⟩ : ∃ z, w1.heap.size = z := ⟨_, rfl⟩
  have hz1 : w.heap.size + 1 < z := by omega
  rw [hz] at hDV
  have hwz : w.heap.size < z := by omega
  obtain ⟨U, hU⟩ : ∃ U, putL V z 0 (deskL S M a n cap fun _ => 0) = U := ⟨_, rfl⟩
  have hBU : Below z V U := by rw [← hU]; exact putL_below (Nat.le_refl _)
  have hDU : RowIs U z (deskRow S M a n cap fun _ => 0) 67 := by
    rw [← hU, ← setL_desk S M a n cap (fun _ => 0) (fun _ => 0) 0 0 none 0 0]; exact putL_row hDV
  have hRU := (hBU.block (w.heap.size + 1) (by omega)).trans (hD1.below hBV)
  rw [hz] at hBV
  have hBVU := hBV.trans hBU
  have HfU := Lib.hid (Wants.below (Wants.below HfW.out hb1) (by rw [hz]; exact hBVU))
  have hBwU : Below w.heap.size w U := hB1.trans (hBVU.mono (by omega))
  obtain ⟨f0, f1, f2, f3, f4, f5, f6, f7, f8, f9, f10, f11, f12, f13, f14⟩ := deskfree hDV
  obtain ⟨e0, e1, e2, e3, e4, e5, e6, e7, e8, e9, e10, e11, e12, e13, e14, ez⟩ := deskcells hDV
  obtain ⟨c0, c1, c2, c3, c4, c5, c6, c7, c8, c9, c10, c11, c12, c13, c14, cz⟩ := deskcells hDU
  have HDU := Lib.hid hDU
  have HRU := Lib.hid hRU
  have HBU := Lib.hid hBwU
  have HE := Lib.hid hE
  have hcall := dloadsOf_c S M a n cap f (fun _ => 0) 80 #[] #[] (fun _ => true) U HfU.out HG.out (enters_of Try.func80 (by kernel_rfl) rfl) (fun W' _ i _ => all_c _ (f i) W' rfl)
  rw [show (fun x => ldF f (fun _ => true) x n) = l from HLB.out] at hcall
  have HC := Lib.hid hcall
  clear hW r0 r1 r2 rz HfW hb1 HD hD1 hDV hRU hDU hBV hBU hBwU hBVU hE hB1 hcall HfU HG
  simp only [deskRow] at hV
  simp only [putL, deskL, Nat.reduceAdd] at hU
  go_wp2_with fail
  refine HC.out.mono ?_
  rintro e w2 ⟨rfl, hb2⟩
  have hD2 := RowIs.below HDU.out hb2
  have hR2 := RowIs.below HRU.out hb2
  have hB2 := HBU.out.trans (hb2.mono HBU.out.size)
  clear hU hV f0 f1 f2 f3 f4 f5 f6 f7 f8 f9 f10 f11 f12 f13 f14 e0 e1 e2 e3 e4 e5 e6 e7 e8 e9 e10 e11 e12 e13 e14 ez c0 c1 c2 c3 c4 c5 c6 c7 c8 c9 c10 c11 c12 c13 c14 cz hb2 q0 q1 q2 rz1 hDz
  obtain ⟨X, hX⟩ : ∃ X, putL w2 z 3 (loadL l) = X := ⟨_, rfl⟩
  have hBX : Below z w2 X := by rw [← hX]; exact putL_below (Nat.le_refl _)
  have hDX : RowIs X z (deskRow S M a n cap l) 67 := by
    rw [← hX, ← setL_load S M a n cap (fun _ => 0) l]; exact putL_row hD2
  have hRX := (hBX.block (w.heap.size + 1) (by omega)).trans hR2
  have hBwX := hB2.trans (hBX.mono (by omega))
  obtain ⟨f0, f1, f2, f3, f4, f5, f6, f7, f8, f9, f10, f11, f12, f13, f14⟩ := deskfree hD2
  obtain ⟨e0, e1, e2, e3, e4, e5, e6, e7, e8, e9, e10, e11, e12, e13, e14, ez⟩ := deskcells hD2
  obtain ⟨c0, c1, c2, c3, c4, c5, c6, c7, c8, c9, c10, c11, c12, c13, c14, cz⟩ := deskcells hDX
  obtain ⟨k0, k1, k2, k3, k4, k5, k6, k7, k8, k9, k10, k11, k12, k13, k14⟩ := deskfree hRX
  obtain ⟨m0, m1, m2, m3, m4, m5, m6, m7, m8, m9, m10, m11, m12, m13, m14, mz⟩ := deskcells hRX
  have HRX := Lib.hid hRX
  have HBX := Lib.hid hBwX
  clear hD2 hR2 hB2 hBX hDX hRX hBwX HDU HRU HBU HC
  simp only [putL, loadL, Nat.reduceAdd] at hX
  go_wp2_with fail
  change bodyPost _ _ _ _ _ (putL X (w.heap.size + 1) 0 (deskL S M a n cap l))
  have hY := putL_row (o := 0) (l := deskL S M a n cap l) HRX.out
  rw [setL_desk] at hY
  have hb := HBX.out.trans (putL_below (w := X) (b := w.heap.size + 1) (B := w.heap.size) (by omega) (o := 0) (l := deskL S M a n cap l))
  generalize putL X (w.heap.size + 1) 0 (deskL S M a n cap l) = Y at hY hb
  clear f0 f1 f2 f3 f4 f5 f6 f7 f8 f9 f10 f11 f12 f13 f14 e0 e1 e2 e3 e4 e5 e6 e7 e8 e9 e10 e11 e12 e13 e14 ez c0 c1 c2 c3 c4 c5 c6 c7 c8 c9 c10 c11 c12 c13 c14 cz k0 k1 k2 k3 k4 k5 k6 k7 k8 k9 k10 k11 k12 k13 k14 m0 m1 m2 m3 m4 m5 m6 m7 m8 m9 m10 m11 m12 m13 m14 mz hX
  obtain ⟨c0, c1, c2, c3, c4, c5, c6, c7, c8, c9, c10, c11, c12, c13, c14, cz⟩ := deskcells hY
  refine bodyPost_ret (v := .tuple #[deskV S M a n cap l, .int .i64 0]) (by simp [results, Try.results49, go_sem, c0, c1, c2, c3, c4, c5, c6, c7, c8, c9, c10, c11, c12, c13, c14]) rfl ⟨rfl, hb⟩

end Go.Proofs.Ytbjgbgchagfokaa

namespace Go.Proofs.Ytbjgbgchagfokaa
open Go Go.RowKit Go.Shelf

set_option maxHeartbeats 1000000 in
theorem index_c (x : Int) (a : Option Addr) (len cap : Nat) (g : Nat → Int) (w : World) (hg : Ints w a len g) (hl : len ≤ 1048576) :
    Calls Try.prog 103 #[.slice a len cap, .int .i64 x] w fun e w' => (∃ r : Int, e = .returned (.int .i64 r) ∧ decide (0 ≤ r) = hasB g x len ∧ -1 ≤ r) ∧ w = w' := by
  go_enter Try.func103, Try.ntmps103
  go_wp2
  go_loop [8] (fun i => ∃ k : Nat, k ≤ len ∧ i = .int .i64 k ∧ hasB g x k = false) (fun i => len - (intOf i).toNat)
  case atStart => exact ⟨0, Nat.zero_le _, rfl, rfl⟩
  case round =>
    obtain ⟨k, hk, rfl, ho⟩ := hrel
    have Ho := Lib.hid ho
    clear ho
    by_cases hlt : k < len
    · obtain ⟨b, off, rfl, hbs, hc⟩ := Cells.at hg k hlt
      have ck := hc k hlt
      clear hc
      by_cases h1 : x = g k
      · subst h1
        go_wp2
        go_ret
        exact ⟨⟨(k : Int), rfl, by rw [hasB_of g (g k) k len hlt rfl]; exact decide_eq_true (by omega), by omega⟩, rfl⟩
      · have h2 : (x == g k) = false := by simpa using h1
        go_wp2
        go_round
        case rel => exact ⟨k + 1, by omega, by go_num, by simp only [hasB, Ho.out, Bool.false_or]; exact decide_eq_false (fun e => h1 e.symm)⟩
        case measure => simp [intOf]; omega
    · obtain rfl : k = len := by omega
      go_wp2
      go_ret
      exact ⟨⟨-1, rfl, by rw [Ho.out]; rfl, by omega⟩, rfl⟩

theorem contains_c (x : Int) (a : Option Addr) (len cap : Nat) (g : Nat → Int) (w : World) (hg : Ints w a len g) (hl : len ≤ 1048576) :
    Calls Try.prog 89 #[.slice a len cap, .int .i64 x] w fun e w' => e = .returned (.bool (hasB g x len)) ∧ w = w' := by
  go_enter Try.func89, Try.ntmps89
  go_wp2_with fail
  refine (index_c x a len cap g w hg hl).mono ?_
  rintro e w1 ⟨⟨r, rfl, hr, hr1⟩, rfl⟩
  go_wp2_with fail
  go_ret
  exact ⟨rfl, rfl⟩

/-- The greatest of the first k + 1. -/
def maxF (g : Nat → Int) : Nat → Int
  | 0 => g 0
  | k + 1 => if maxF g k < g (k + 1) then g (k + 1) else maxF g k

set_option maxHeartbeats 1000000 in
theorem max_c (a : Option Addr) (len cap : Nat) (g : Nat → Int) (w : World) (hg : Ints w a (len + 1) g) (hl : len ≤ 1048576) :
    Calls Try.prog 95 #[.slice a (len + 1) cap] w fun e w' => e = .returned (.int .i64 (maxF g len)) ∧ w = w' := by
  obtain ⟨b, off, rfl, hbs, hc⟩ := Cells.at hg 0 (by omega)
  have c0 : w.cell? ⟨b, off, none⟩ = some (.int .i64 (g 0)) := hc 0 (by omega)
  have t1 : ¬ ((len : Int) + 1 < 1) := by omega
  have HC := Lib.hid hc
  clear hc hg
  go_enter Try.func95, Try.ntmps95
  go_wp2
  go_loop [3, 4] (fun m i => ∃ k : Nat, k ≤ len ∧ i = .int .i64 (k + 1) ∧ m = .int .i64 (maxF g k)) (fun _ i => len + 1 - (intOf i).toNat)
  case atStart => exact ⟨0, Nat.zero_le _, rfl, rfl⟩
  case round =>
    obtain ⟨k, hk, rfl, rfl⟩ := hrel
    obtain ⟨m, hm⟩ : ∃ m, maxF g k = m := ⟨_, rfl⟩
    have HM := Lib.hid hm
    rw [hm]
    clear hm
    by_cases hlt : k < len
    · have ck := HC.out (k + 1) (by omega)
      by_cases h1 : m < g (k + 1)
      · go_wp2
        go_round
        case rel => exact ⟨k + 1, by omega, by go_num, by simp [maxF, HM.out, h1]⟩
        case measure => simp [intOf]; omega
      · go_wp2
        go_round
        case rel => exact ⟨k + 1, by omega, by go_num, by simp [maxF, HM.out, h1]⟩
        case measure => simp [intOf]; omega
    · obtain rfl : k = len := by omega
      go_wp2
      go_ret
      exact ⟨by rw [HM.out]; rfl, rfl⟩


/-- How few days are enough: the greatest load. -/
abbrev fewN (l : Nat → Int) : Int := maxF l 11

set_option maxHeartbeats 1000000 in
theorem fewest_c (S M : Int) (a : Option Addr) (n cap : Nat) (l : Nat → Int) (w : World) :
    Calls Try.prog 78 #[deskV S M a n cap l] w fun e w' => e = .returned (.int .i64 (fewN l)) ∧ Below w.heap.size w w' := by
  obtain ⟨W, hW⟩ : ∃ W, w.alloc (.cells (deskRow S M a n cap l) 67) = W := ⟨_, rfl⟩
  have hB : Below w.heap.size w W := by rw [← hW]; exact Below.alloc1 (Below.refl _ _) _ (Nat.le_refl _)
  have hR : RowIs W w.heap.size (deskRow S M a n cap l) 67 := by rw [← hW]; exact heap_new_at _ _ _ rfl
  have hi : Ints W (some ⟨w.heap.size, 3, none⟩) (11 + 1) l := by
    refine .inr ⟨w.heap.size, 3, rfl, hR.lt, fun i hi => ?_⟩
    have h2 := hR.cell (3 + i)
    rw [h2]
    have : i = 0 ∨ i = 1 ∨ i = 2 ∨ i = 3 ∨ i = 4 ∨ i = 5 ∨ i = 6 ∨ i = 7 ∨ i = 8 ∨ i = 9 ∨ i = 10 ∨ i = 11 := by omega
    rcases this with rfl | rfl | rfl | rfl | rfl | rfl | rfl | rfl | rfl | rfl | rfl | rfl <;> rfl
  have Hi := Lib.hid hi
  clear hi hR
  simp only [deskRow] at hW
  go_enter Try.func78, Try.ntmps78
  go_wp2_with fail
  refine (max_c _ 11 12 l W Hi.out (by omega)).mono ?_
  rintro e w1 ⟨rfl, rfl⟩
  go_wp2_with fail
  go_ret
  exact ⟨rfl, hB⟩

end Go.Proofs.Ytbjgbgchagfokaa

namespace Go.Proofs.Ytbjgbgchagfokaa
open Go Go.RowKit Go.Shelf
attribute [local go_sem] Oper.semAt_some

set_option maxHeartbeats 1000000 in
theorem clashes_c (S M : Int) (a : Option Addr) (n cap : Nat) (f : Nat → W2) (l : Nat → Int) (want : Nat) (w : World) (hf : Wants w a n f) (hw : want < n) (_ : n ≤ 1048576) :
    Calls Try.prog 81 #[deskV S M a n cap l, .int .i64 want] w fun e w' => e = .returned (.func (.func 98) #[] #[.pointer (some ⟨w.heap.size, 0, none⟩), .pointer (some ⟨w.heap.size + 1, 0, none⟩), .pointer (some ⟨w.heap.size + 2, 0, none⟩)]) ∧
      ((w.alloc (.cells (deskRow S M a n cap l) 67)).alloc (.cells #[.int .i64 want] 3)).alloc (.cells #[.int .i64 (f want).s, .int .i64 (f want).m] 58) = w' := by
  obtain ⟨b, off, rfl, hbs, c0, c1⟩ := Wants.at hf want hw
  obtain ⟨W, hW⟩ : ∃ W, (w.alloc (.cells (deskRow S M (some ⟨b, off, none⟩) n cap l) 67)).alloc (.cells #[.int .i64 want] 3) = W := ⟨_, rfl⟩
  have hB : Below w.heap.size w W := by rw [← hW]; exact Below.alloc1 (Below.alloc1 (Below.refl _ _) _ (Nat.le_refl _)) _ (Nat.le_refl _)
  have hD : RowIs W w.heap.size (deskRow S M (some ⟨b, off, none⟩) n cap l) 67 := by rw [← hW]; exact RowIs.alloc (heap_new_at _ _ _ rfl) _
  have hI : RowIs W (w.heap.size + 1) #[.int .i64 want] 3 := by rw [← hW]; exact heap_new_at _ _ _ (by simp)
  have hz : W.heap.size = w.heap.size + 2 := by rw [← hW]; simp
  have d2 : W.cell? ⟨w.heap.size, 2, none⟩ = some (.slice (some ⟨b, off, none⟩) n cap) := hD.cell 2
  have i0 : W.cell? ⟨w.heap.size + 1, 0, none⟩ = some (.int .i64 want) := hI.cell 0
  have e0 := (hB.cell (p := ⟨b, off + want * 2, none⟩) hbs).trans c0
  have e1 := (hB.cell (p := ⟨b, off + want * 2 + 1, none⟩) hbs).trans c1
  rw [hW]
  clear hD hI hB c0 c1
  simp only [deskRow] at hW
  go_enter Try.func81, Try.ntmps81
  go_wp2_with fail
  go_ret
  refine ⟨?_, rfl⟩
  rfl

/-- The first k wants that clash with one, as a list. -/
def clashL (f : Nat → W2) (want k : Nat) : List Nat := (List.range k).filter fun i => decide (i ≠ want) && clashB f i want
theorem clashL_no {f : Nat → W2} {want k : Nat} (h : (decide (k ≠ want) && clashB f k want) = false) : clashL f want (k + 1) = clashL f want k := by
  unfold clashL
  rw [List.range_succ, List.filter_append]
  simp only [List.filter_cons, h, List.filter_nil]
  simp
theorem clashL_yes {f : Nat → W2} {want k : Nat} (h : (decide (k ≠ want) && clashB f k want) = true) : clashL f want (k + 1) = clashL f want k ++ [k] := by
  unfold clashL
  rw [List.range_succ, List.filter_append]
  simp only [List.filter_cons, h, List.filter_nil]
  rfl
theorem clashL_pre {f : Nat → W2} {want : Nat} {j k : Nat} (h : j ≤ k) : clashL f want j <+: clashL f want k := by
  induction k with
  | zero => obtain rfl : j = 0 := by omega
            exact List.prefix_refl _
  | succ k ih =>
    by_cases e : j = k + 1
    · subst e; exact List.prefix_refl _
    · refine (ih (by omega)).trans ?_
      cases hb : decide (k ≠ want) && clashB f k want
      · rw [clashL_no hb]; exact List.prefix_refl _
      · rw [clashL_yes hb]; exact List.prefix_append _ _
theorem clashL_at {f : Nat → W2} {want k n : Nat} (hk : k < n) (h : (decide (k ≠ want) && clashB f k want) = true) : ∃ hl : (clashL f want k).length < (clashL f want n).length, (clashL f want n)[(clashL f want k).length] = k := by
  have hp := clashL_pre (f := f) (want := want) (show k + 1 ≤ n by omega)
  rw [clashL_yes h] at hp
  obtain ⟨t, ht⟩ := hp
  have h1 : (clashL f want k).length < (clashL f want n).length := by rw [← ht]; simp
  refine ⟨h1, ?_⟩
  have h2 : (clashL f want n)[(clashL f want k).length]? = some k := by rw [← ht]; simp
  rw [List.getElem?_eq_getElem h1] at h2
  exact Option.some.inj h2
theorem clashL_len {f : Nat → W2} {want k : Nat} (h : (decide (k ≠ want) && clashB f k want) = true) : (clashL f want (k + 1)).length = (clashL f want k).length + 1 := by rw [clashL_yes h]; simp
theorem clashL_mem {f : Nat → W2} {want n k : Nat} : k ∈ clashL f want n ↔ k < n ∧ k ≠ want ∧ clashB f k want = true := by simp [clashL]

/-- The blocks that such an iterator reads. -/
def clashK (a : Option Addr) (bd : Nat) (k : Nat) : Prop := k = bd ∨ k = bd + 1 ∨ k = bd + 2 ∨ ∃ off, a = some ⟨k, off, none⟩

theorem wants_block {w W : World} {a : Option Addr} {n : Nat} {f : Nat → W2} (h : Wants w a n f) (hz : w.heap.size ≤ W.heap.size) (hb : ∀ k off, a = some ⟨k, off, none⟩ → W.heap[k]? = w.heap[k]?) : Wants W a n f := by
  rcases h with h | ⟨b, off, rfl, hlt, hc⟩
  · exact .inl h
  · have e := hb b off rfl
    exact .inr ⟨b, off, rfl, Nat.lt_of_lt_of_le hlt hz, fun i hi => ⟨(World.cell?_of_block (a := ⟨b, _, none⟩) e).trans (hc i hi).1, (World.cell?_of_block (a := ⟨b, _, none⟩) e).trans (hc i hi).2⟩⟩

set_option maxRecDepth 100000 in
set_option maxHeartbeats 4000000 in
theorem clashes_gives (S M : Int) (a : Option Addr) (n cap : Nat) (f : Nat → W2) (l : Nat → Int) (want bd : Nat) (w : World) (hf : Wants w a n f) (hw : want < n) (hn : n ≤ 1048576)
    (hD : RowIs w bd (deskRow S M a n cap l) 67) (hI : RowIs w (bd + 1) #[.int .i64 want] 3) (hO : RowIs w (bd + 2) #[.int .i64 (f want).s, .int .i64 (f want).m] 58) :
    Gives Try.prog 98 #[] #[.pointer (some ⟨bd, 0, none⟩), .pointer (some ⟨bd + 1, 0, none⟩), .pointer (some ⟨bd + 2, 0, none⟩)] (clashK a bd) ((clashL f want n).map fun i : Nat => #[.int .i64 (i : Int)]) w := by
  intro lr J Jx W hW hz hJ hJx hY h0
  obtain ⟨b, off, rfl, hbs, -, -⟩ := Wants.at hf want hw
  have hfW := wants_block hf hz (fun k o e => (hW k (.inr (.inr (.inr ⟨o, e⟩)))).2)
  have hDW : RowIs W bd _ _ := (hW bd (.inl rfl)).2.trans hD
  have hIW : RowIs W (bd + 1) _ _ := (hW (bd + 1) (.inr (.inl rfl))).2.trans hI
  have hOW : RowIs W (bd + 2) _ _ := (hW (bd + 2) (.inr (.inr (.inl rfl)))).2.trans hO
  obtain ⟨D, hDz⟩ : ∃ D, W.heap.size = D := ⟨_, rfl⟩
  rw [hDz] at hJ hJx hY
  have hdD : bd + 2 < D := by rw [← hDz]; exact hOW.lt
  have hbD : b < D := by omega
  have HJ := Lib.hid hJ
  have HJx := Lib.hid hJx
  have HY := Lib.hid hY
  have Hf := Lib.hid hfW
  have HD := Lib.hid hDW
  have HI := Lib.hid hIW
  have HO := Lib.hid hOW
  have HDz := Lib.hid hDz
  have d2 : W.cell? ⟨bd, 2, none⟩ = some (.slice (some ⟨b, off, none⟩) n cap) := hDW.cell 2
  clear hJ hJx hY hfW hDW hIW hOW hD hI hO hf hW hz hDz hbs
  refine (callsIn_wide (n := 1)).1 ?_
  show CallsIn Fence.wide 1 Try.prog 98 #[.func (.yield lr) #[] #[], .pointer (some ⟨bd, 0, none⟩), .pointer (some ⟨bd + 1, 0, none⟩), .pointer (some ⟨bd + 2, 0, none⟩)] W _
  refine callsIn_of_wp Try.func98 rfl trivial ?_ rfl
  simp only [Try.ntmps98, List.size_toArray, List.length_cons, List.length_nil, Nat.reduceAdd, Nat.reduceSub, Array.replicate_succ, Array.replicate_zero, List.push_toArray, List.append_toArray, List.nil_append, List.cons_append]
  gi_wp2
  gi_loopw [11] (fun s wr => ∃ k : Nat, k ≤ n ∧ s = .int .i64 k ∧ J (clashL f want k).length wr ∧ Spares (clashK (some ⟨b, off, none⟩) bd) D W wr) (fun s _ => n - (intOf s).toNat)
  case atStart => exact ⟨0, Nat.zero_le _, rfl, h0, Spares.refl _ _ _⟩
  case round =>
    obtain ⟨k, hk, rfl, hj, hsp⟩ := hrel
    have hDr : D ≤ wr.heap.size := by have := hsp.size; have := HDz.out; omega
    have HJ0 := Lib.hid hj
    have Hsp := Lib.hid hsp
    by_cases hlt : k < n
    · have kw : ∀ {bb : Nat} {c : Array Value} {T : TypeId}, RowIs W bb c T → clashK (some ⟨b, off, none⟩) bd bb → RowIs wr bb c T := fun h1 h2 => (hsp.block _ h1.lt (.inl h2)).trans h1
      have hDr1 := kw HD.out (.inl rfl)
      have hIr := kw HI.out (.inr (.inl rfl))
      have hOr := kw HO.out (.inr (.inr (.inl rfl)))
      have hfr := wants_block Hf.out hsp.size (fun k o e => hsp.block k (by cases e; have := HDz.out; omega) (.inl (.inr (.inr (.inr ⟨o, e⟩)))))
      obtain ⟨b', off', he, hbz, c0, c1⟩ := Wants.at hfr k hlt
      cases he
      obtain ⟨V, hV⟩ : ∃ V, wr.alloc (.cells #[.int .i64 (f k).s, .int .i64 (f k).m] 58) = V := ⟨_, rfl⟩
      have hBV : Below wr.heap.size wr V := by rw [← hV]; exact Below.alloc1 (Below.refl _ _) _ (Nat.le_refl _)
      have hN : RowIs V wr.heap.size #[.int .i64 (f k).s, .int .i64 (f k).m] 58 := by rw [← hV]; exact heap_new_at _ _ _ rfl
      have n0 : V.cell? ⟨wr.heap.size, 0, none⟩ = some (.int .i64 (f k).s) := hN.cell 0
      have n1 : V.cell? ⟨wr.heap.size, 1, none⟩ = some (.int .i64 (f k).m) := hN.cell 1
      have o0 : V.cell? ⟨bd + 2, 0, none⟩ = some (.int .i64 (f want).s) := (hOr.below hBV).cell 0
      have o1 : V.cell? ⟨bd + 2, 1, none⟩ = some (.int .i64 (f want).m) := (hOr.below hBV).cell 1
      have i0 : V.cell? ⟨bd + 1, 0, none⟩ = some (.int .i64 want) := (hIr.below hBV).cell 0
      have hzV : D ≤ V.heap.size := Nat.le_trans hDr hBV.size
      have hjV := HJ.out _ wr V hj (hBV.mono hDr)
      have hspV := hsp.trans (Spares.of_below hBV)
      have HjV := Lib.hid hjV
      have HspV := Lib.hid hspV
      clear hj hsp kw hDr1 hIr hOr hfr hN hjV hspV h0
      cases hc : decide (k ≠ want) && clashB f k want with
      | false =>
        have HC := Lib.hid hc
        have hfin : (clashL f want (k + 1)).length = (clashL f want k).length := by rw [clashL_no hc]
        have HF := Lib.hid hfin
        clear hfin
        by_cases h1 : k = want
        · subst h1
          have t1 : ((k : Int) != (k : Int)) = false := by simp
          clear hc
          gi_wp2
          refine ⟨fun _ h => (by cases h), ?_⟩
          gi_wp2
          go_roundw
          case rel => exact ⟨k + 1, by omega, by go_num, by rw [HF.out]; exact HjV.out, HspV.out⟩
          case measure => simp [intOf]; omega
        · have t1 : ((k : Int) != (want : Int)) = true := by simp; omega
          simp only [ne_eq, h1, not_false_eq_true, decide_true, Bool.true_and, clashB, Bool.or_eq_false_iff, decide_eq_false_iff_not] at hc
          have t2 : ((f k).s == (f want).s) = false := by simpa using hc.1
          have t3 : ((f k).m == (f want).m) = false := by simpa using hc.2
          clear hc
          gi_wp2
          refine ⟨fun _ h => (by cases h), ?_⟩
          gi_wp2
          go_roundw
          case rel => exact ⟨k + 1, by omega, by go_num, by rw [HF.out]; exact HjV.out, HspV.out⟩
          case measure => simp [intOf]; omega
      | true =>
        have hL := clashL_len hc
        obtain ⟨hl, hg⟩ := clashL_at hlt hc
        have hyy := HY.out (clashL f want k).length (by simpa using hl) V hzV HjV.out
        rw [List.getElem_map, hg] at hyy
        have HL := Lib.hid hL
        clear hL hl hg
        simp only [ne_eq, Bool.and_eq_true, decide_eq_true_eq] at hc
        have t1 : ((k : Int) != (want : Int)) = true := by simp; omega
        obtain ⟨fn, tmps, assign, body, hy, hR⟩ := hyy
        try dsimp only at hy
        by_cases h2 : (f k).s = (f want).s
        · have t2 : ((f k).s == (f want).s) = true := by simpa using h2
          clear h2
          have HR := Lib.hid hR
          clear hc hR
          gi_wp2
          refine HR.out.mono ?_
          rintro e W3 (⟨rfl, hJ3, hS3⟩ | ⟨rfl, hJx3, hS3⟩)
          · clear n0 n1 o0 o1 i0 c0 c1 hV
            gi_wp2
            go_roundw
            case rel => exact ⟨k + 1, by omega, by go_num, by rw [HL.out]; exact hJ3, HspV.out.trans hS3⟩
            case measure => simp [intOf]; omega
          · clear n0 n1 o0 o1 i0 c0 c1 hV
            gi_wp2
            refine bodyPost_ret (results_none rfl _ _ _) rfl ?_
            exact ⟨⟨_, rfl⟩, .inr ⟨_, hJx3⟩⟩
        · have t2 : ((f k).s == (f want).s) = false := by simpa using h2
          have t3 : ((f k).m == (f want).m) = true := by
            have := hc.2
            simp only [clashB, Bool.or_eq_true, decide_eq_true_eq, h2, false_or] at this
            simpa using this
          clear h2
          have HR := Lib.hid hR
          clear hc hR
          gi_wp2
          refine HR.out.mono ?_
          rintro e W3 (⟨rfl, hJ3, hS3⟩ | ⟨rfl, hJx3, hS3⟩)
          · clear n0 n1 o0 o1 i0 c0 c1 hV
            gi_wp2
            go_roundw
            case rel => exact ⟨k + 1, by omega, by go_num, by rw [HL.out]; exact hJ3, HspV.out.trans hS3⟩
            case measure => simp [intOf]; omega
          · clear n0 n1 o0 o1 i0 c0 c1 hV
            gi_wp2
            refine bodyPost_ret (results_none rfl _ _ _) rfl ?_
            exact ⟨⟨_, rfl⟩, .inr ⟨_, hJx3⟩⟩
    · obtain rfl : k = n := by omega
      gi_wp2
      go_end0
      exact ⟨⟨_, rfl⟩, .inl (by simpa using hj)⟩

end Go.Proofs.Ytbjgbgchagfokaa
