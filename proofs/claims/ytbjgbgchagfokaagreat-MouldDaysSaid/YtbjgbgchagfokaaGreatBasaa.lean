/- Words that all texts of this seat share: slices that read as a function of their index, sums, draws. It imports nothing of the program. -/
import Derived.WalkKit
import Derived.WalkSpells
import Derived.WalkLawsBesides
import Derived.BigQuiet
import Derived.Deep.QuietTactic
import Derived.Lib.Hide
import Derived.StillTail
import Derived.Deep.RegionHeld3
import Derived.Deep.AppendLies
import Derived.Test.YtbjgbgchagfokaaGreatProg
namespace Go.Proofs.YtbjgbgchagfokaaGreat
open Go.RowKit

/-- What writes a frame out. -/
theorem puts : (∀ (a : Act) (d : Tmp) (v : Value), a.put (some d) v = { a with tmps := a.tmps.setIfInBounds d v }) ∧ (∀ (a : Act) (v : Value), a.put none v = a) ∧
    (∀ (α : Type) (l : List α) (i : Nat) (h : i < l.toArray.size), l.toArray[i] = l[i]'(by simpa using h)) ∧
    (∀ (α : Type) (x : α) (l : List α) (h : 0 < (x :: l).length), (x :: l)[0] = x) ∧
    (∀ (α : Type) (x : α) (l : List α) (i : Nat) (h : i + 1 < (x :: l).length), (x :: l)[i + 1] = l[i]'(by simpa using h)) ∧
    (∀ (α : Type) (l : List α) (i : Nat) (x : α), l.toArray.setIfInBounds i x = (l.set i x).toArray) ∧
    (∀ (α : Type) (x y : α) (l : List α), (x :: l).set 0 y = y :: l) ∧
    (∀ (α : Type) (x y : α) (l : List α) (i : Nat), (x :: l).set (i + 1) y = x :: l.set i y) :=
  ⟨fun _ _ _ => rfl, fun _ _ => rfl, fun _ _ _ _ => rfl, fun _ _ _ _ => rfl, fun _ _ _ _ _ => rfl, fun _ _ _ _ => by simp, fun _ _ _ _ => rfl, fun _ _ _ _ _ => rfl⟩

/-- The first n cells from a on hold what f says. -/
def Cells (w : World) (a : Option Addr) (n : Nat) (f : Nat → Value) : Prop :=
  n = 0 ∨ ∃ b off, a = some ⟨b, off, none⟩ ∧ b < w.heap.size ∧ ∀ i, i < n → w.cell? ⟨b, off + i, none⟩ = some (f i)

/-- A slice of int64s of length n whose elements are what f says. -/
def Ints (w : World) (a : Option Addr) (n : Nat) (f : Nat → Int) : Prop := Cells w a n fun i => .int .i64 (f i)

theorem Cells.below {w w' : World} {a : Option Addr} {n : Nat} {f : Nat → Value} (h : Cells w a n f) (hb : Below w.heap.size w w') : Cells w' a n f := by
  rcases h with h | ⟨b, off, rfl, hlt, hc⟩
  · exact .inl h
  · exact .inr ⟨b, off, rfl, Nat.lt_of_lt_of_le hlt hb.size, fun i hi => (hb.cell (p := ⟨b, off + i, none⟩) hlt).trans (hc i hi)⟩

theorem Cells.at {w : World} {a : Option Addr} {n : Nat} {f : Nat → Value} (h : Cells w a n f) (i : Nat) (hi : i < n) :
    ∃ b off, a = some ⟨b, off, none⟩ ∧ b < w.heap.size ∧ ∀ i, i < n → w.cell? ⟨b, off + i, none⟩ = some (f i) := by
  rcases h with h | h
  · omega
  · exact h

def sumF (f : Nat → Int) : Nat → Int
  | 0 => 0
  | k + 1 => sumF f k + f k

theorem sumF_bd (f : Nat → Int) (B : Int) : ∀ k, (∀ i, i < k → -B ≤ f i ∧ f i ≤ B) → -(B * k) ≤ sumF f k ∧ sumF f k ≤ B * k
  | 0, _ => by simp [sumF]
  | k + 1, h => by
    have := sumF_bd f B k fun i hi => h i (by omega)
    have h2 := h k (by omega)
    simp only [sumF]
    rw [show B * ((k + 1 : Nat) : Int) = B * k + B by rw [Int.natCast_add, Int.mul_add]; simp]
    omega

theorem drewN_drewN (w : World) (n m : Nat) : (w.drewN n).drewN m = w.drewN (n + m) := by
  simp [World.drewN, Nat.add_assoc]

theorem ret_i {k : IntKind} {a b : Int} (h : a = b) : Ending.returned (.int k a) = .returned (.int k b) := by rw [h]

theorem bcell {W w1 : World} (hb : Below W.heap.size W w1) : (∀ b o, b < W.heap.size → w1.cell? ⟨b, o, none⟩ = W.cell? ⟨b, o, none⟩) ∧ (∀ b o, b < W.heap.size → w1.frozen? ⟨b, o, none⟩ = W.frozen? ⟨b, o, none⟩) :=
  ⟨fun b o h => hb.cell (p := ⟨b, o, none⟩) h, fun b o h => hb.frozen (p := ⟨b, o, none⟩) h⟩


theorem ret_b {a b : Bool} (h : a = b) : Ending.returned (.bool a) = .returned (.bool b) := by rw [h]

/-- A metal: its price, and the ends of its lead and of its copper. -/
structure M5 where
  p : Int
  l0 : Int
  l1 : Int
  c0 : Int
  c1 : Int

/-- A slice of n metals that reads as what m says. -/
def Metals (w : World) (a : Option Addr) (n : Nat) (m : Nat → M5) : Prop :=
  n = 0 ∨ ∃ b off, a = some ⟨b, off, none⟩ ∧ b < w.heap.size ∧ ∀ i, i < n →
    w.cell? ⟨b, off + i * 5, none⟩ = some (.int .i64 (m i).p) ∧ w.cell? ⟨b, off + i * 5 + 1, none⟩ = some (.int .i64 (m i).l0) ∧ w.cell? ⟨b, off + i * 5 + 2, none⟩ = some (.int .i64 (m i).l1) ∧
    w.cell? ⟨b, off + i * 5 + 3, none⟩ = some (.int .i64 (m i).c0) ∧ w.cell? ⟨b, off + i * 5 + 4, none⟩ = some (.int .i64 (m i).c1)

theorem Metals.below {w w' : World} {a : Option Addr} {n : Nat} {m : Nat → M5} (h : Metals w a n m) (hb : Below w.heap.size w w') : Metals w' a n m := by
  rcases h with h | ⟨b, off, rfl, hlt, hc⟩
  · exact .inl h
  · refine .inr ⟨b, off, rfl, Nat.lt_of_lt_of_le hlt hb.size, fun i hi => ?_⟩
    obtain ⟨h0, h1, h2, h3, h4⟩ := hc i hi
    exact ⟨(hb.cell hlt).trans h0, (hb.cell hlt).trans h1, (hb.cell hlt).trans h2, (hb.cell hlt).trans h3, (hb.cell hlt).trans h4⟩

theorem Metals.at {w : World} {a : Option Addr} {n : Nat} {m : Nat → M5} (h : Metals w a n m) (i : Nat) (hi : i < n) :
    ∃ b off, a = some ⟨b, off, none⟩ ∧ b < w.heap.size ∧
    w.cell? ⟨b, off + i * 5, none⟩ = some (.int .i64 (m i).p) ∧ w.cell? ⟨b, off + i * 5 + 1, none⟩ = some (.int .i64 (m i).l0) ∧ w.cell? ⟨b, off + i * 5 + 2, none⟩ = some (.int .i64 (m i).l1) ∧
    w.cell? ⟨b, off + i * 5 + 3, none⟩ = some (.int .i64 (m i).c0) ∧ w.cell? ⟨b, off + i * 5 + 4, none⟩ = some (.int .i64 (m i).c1) := by
  rcases h with h | ⟨b, off, rfl, hlt, hc⟩
  · omega
  · exact ⟨b, off, rfl, hlt, hc i hi⟩

def rangeB (lo hi : Int) : Bool := decide (0 ≤ lo ∧ lo ≤ hi ∧ hi ≤ 1000)
def badB (m : M5) : Bool := decide (m.p < 0 ∨ 1000 < m.p) || !rangeB m.l0 m.l1 || !rangeB m.c0 m.c1
def anyBad (m : Nat → M5) : Nat → Bool
  | 0 => false
  | k + 1 => anyBad m k || badB (m k)
/-- CheckMetals: 6, 3 or 0. -/
def metalsE (n : Nat) (m : Nat → M5) : Int := if n < 1 ∨ 6 < n then 6 else if anyBad m n then 3 else 0
def touchE (l c : Int) : Int := if l < 0 ∨ 1000 < l ∨ c < 0 ∨ 1000 < c then 3 else 0


theorem anyBad_of (m : Nat → M5) (k : Nat) : ∀ n, k < n → badB (m k) = true → anyBad m n = true
  | 0, h, _ => by omega
  | n + 1, h, hb => by
    by_cases e : k = n
    · subst e; simp [anyBad, hb]
    · simp [anyBad, anyBad_of m k n (by omega) hb]

theorem Below.alloc1 {B : Nat} {a w : World} (h : Below B a w) (o : Obj) (hB : B ≤ a.heap.size) : Below B a (w.alloc o) := h.alloc (Nat.le_trans hB h.size) o


/-- n by d in least terms, d above 0. -/
def ratN (n d : Int) : Int := n.tdiv (Int.gcd n d)
def ratD (n d : Int) : Int := d / (Int.gcd n d)
abbrev ratV (n d : Int) : Value := .agg #[.int .i64 (ratN n d), .int .i64 (ratD n d)]

theorem gcd_bd (n d : Int) (hd : 0 < d) : 0 < (Int.gcd n d : Int) ∧ (Int.gcd n d : Int) ≤ d := by
  refine ⟨?_, Int.le_of_dvd hd (Int.gcd_dvd_right n d)⟩
  have := Int.gcd_pos_of_ne_zero_right n (b := d) (by omega)
  omega

theorem bup {W w1 w2 : World} (h : Below W.heap.size W w1) (k : Below w1.heap.size w1 w2) : Below W.heap.size W w2 := h.trans (k.mono h.size)


theorem mul_bd {x y A B : Int} (hx : 0 ≤ x) (hx' : x ≤ A) (hy : 0 ≤ y) (hy' : y ≤ B) : 0 ≤ x * y ∧ x * y ≤ A * B :=
  ⟨Int.mul_nonneg hx hy, Int.mul_le_mul hx' hy' hy (Int.le_trans hx hx')⟩

theorem sumF_nn (f : Nat → Int) (B : Int) : ∀ k, (∀ i, i < k → 0 ≤ f i ∧ f i ≤ B) → 0 ≤ sumF f k ∧ sumF f k ≤ B * k
  | 0, _ => by simp [sumF]
  | k + 1, h => by
    have := sumF_nn f B k fun i hi => h i (by omega)
    have h2 := h k (by omega)
    simp only [sumF]
    rw [show B * ((k + 1 : Nat) : Int) = B * k + B by rw [Int.natCast_add, Int.mul_add]; simp]
    omega

def bothE (n : Nat) (m : Nat → M5) (l c : Int) : Int := if metalsE n m ≠ 0 then metalsE n m else touchE l c
def anyOut (f : Nat → Int) : Nat → Bool
  | 0 => false
  | k + 1 => anyOut f k || decide (f k < 0 ∨ 1000000 < f k)
def mixE (n len : Nat) (f : Nat → Int) : Int := if len ≠ n then 15 else if anyOut f len then 3 else if sumF f len = 0 then 2 else 0
def bad (sure : Bool) (m : M5) : Int := if sure then m.l1 else m.l0
def good (sure : Bool) (m : M5) : Int := if sure then m.c0 else m.c1
def priceF (m : Nat → M5) (f : Nat → Int) (n : Nat) : Int := sumF (fun i => f i * (m i).p) n
def leadF (sure : Bool) (m : Nat → M5) (f : Nat → Int) (n : Nat) : Int := sumF (fun i => f i * bad sure (m i)) n
def copperF (sure : Bool) (m : Nat → M5) (f : Nat → Int) (n : Nat) : Int := sumF (fun i => f i * good sure (m i)) n
def goodB (sure : Bool) (n : Nat) (m : Nat → M5) (l c : Int) (f : Nat → Int) : Bool :=
  decide (leadF sure m f n ≤ l * sumF f n ∧ c * sumF f n ≤ copperF sure m f n)

theorem anyOut_of (f : Nat → Int) (k : Nat) : ∀ n, k < n → (f k < 0 ∨ 1000000 < f k) → anyOut f n = true
  | 0, h, _ => by omega
  | n + 1, h, hb => by
    by_cases e : k = n
    · subst e; simp [anyOut, hb]
    · simp [anyOut, anyOut_of f k n (by omega) hb]

theorem anyOut_no (f : Nat → Int) : ∀ n, anyOut f n = false → ∀ i, i < n → 0 ≤ f i ∧ f i ≤ 1000000
  | 0, _, i, hi => by omega
  | n + 1, h, i, hi => by
    simp only [anyOut, Bool.or_eq_false_iff, decide_eq_false_iff_not] at h
    by_cases e : i = n
    · subst e; omega
    · exact anyOut_no f n h.1 i (by omega)

/-- Valid metals, as the walks want it. -/
def Fine (n : Nat) (m : Nat → M5) : Prop := 1 ≤ n ∧ n ≤ 6 ∧ ∀ i, i < n → 0 ≤ (m i).p ∧ (m i).p ≤ 1000 ∧ 0 ≤ (m i).l0 ∧ (m i).l0 ≤ (m i).l1 ∧ (m i).l1 ≤ 1000 ∧ 0 ≤ (m i).c0 ∧ (m i).c0 ≤ (m i).c1 ∧ (m i).c1 ≤ 1000

theorem anyBad_no (m : Nat → M5) : ∀ n, anyBad m n = false → ∀ i, i < n → badB (m i) = false
  | 0, _, i, hi => by omega
  | n + 1, h, i, hi => by
    simp only [anyBad, Bool.or_eq_false_iff] at h
    by_cases e : i = n
    · subst e; exact h.2
    · exact anyBad_no m n h.1 i (by omega)

theorem fine_of {n : Nat} {m : Nat → M5} (h : metalsE n m = 0) : Fine n m := by
  unfold metalsE at h
  split at h
  · omega
  · split at h
    · omega
    · rename_i h1 h2
      refine ⟨by omega, by omega, fun i hi => ?_⟩
      have := anyBad_no m n (by simpa using h2) i hi
      simp [badB, rangeB] at this
      omega


theorem Cells.drewN {w : World} {a : Option Addr} {n : Nat} {f : Nat → Value} (h : Cells w a n f) (q : Nat) : Cells (w.drewN q) a n f := h.below (below_drewN (Below.refl _ _) q)
theorem Metals.drewN {w : World} {a : Option Addr} {n : Nat} {m : Nat → M5} (h : Metals w a n m) (q : Nat) : Metals (w.drewN q) a n m := h.below (below_drewN (Below.refl _ _) q)


/-- A world that comes behind w0: all that lay in w0 lies as it lay. -/
structure Later (w0 : World) where
  w : World
  h : Below w0.heap.size w0 w

instance laterNonempty (w0 : World) : Nonempty (Later w0) := ⟨⟨w0, Below.refl _ _⟩⟩

theorem later_cell {w0 : World} (x : Later w0) (b o : Nat) (h : b < w0.heap.size) : x.w.cell? ⟨b, o, none⟩ = w0.cell? ⟨b, o, none⟩ := x.h.cell (p := ⟨b, o, none⟩) h

/-- A region that draws its order, whose operations read and whose callees leave what lay there: one walk in the order of the text. -/
theorem wp_region_later {P : Program} {id : Nat} {Q : Exit → Act → World → Prop} {a : Act} {w : World} {l : List Oper} (hm : P.follows .mixedOrders = true) (hB : Region.lexB .any l.toArray = true)
    (h : wpQuiet P l.toArray (fun w' => ∃ x : Later w, w' = x.w) (fun a' => ∀ x : Later w, Q .normal a' x.w) l a) : (Code.region id l.toArray true).wp P Q a w :=
  wp_region_quiet (C := fun w' => ∃ x : Later w, w' = x.w) hm hB ⟨⟨_, (Below.refl _ w).drew⟩, rfl⟩ (by
    have : (fun a' => ∀ w', (∃ x : Later w, w' = x.w) → Q .normal a' w') = (fun a' => ∀ x : Later w, Q .normal a' x.w) := by
      funext a'
      exact propext ⟨fun h x => h _ ⟨x, rfl⟩, fun h _ ⟨x, hx⟩ => hx ▸ h x⟩
    rw [this]
    simpa using h)

theorem calls_later {P : Program} {f : FuncId} {args : Array Value} {w0 : World} {x : Later w0} {v : Value}
    (h : Calls P f args x.w fun e w' => e = .returned v ∧ Below x.w.heap.size x.w w') : Calls P f args x.w (fun e w'' => e = .returned v ∧ ∃ y : Later w0, w'' = y.w) :=
  h.mono fun _ w' ⟨he, hb⟩ => ⟨he, ⟨w', x.h.trans (hb.mono x.h.size)⟩, rfl⟩

theorem calls_later_same {P : Program} {f : FuncId} {args : Array Value} {w0 : World} {x : Later w0} {v : Value}
    (h : Calls P f args x.w fun e w' => e = .returned v ∧ x.w = w') : Calls P f args x.w (fun e w'' => e = .returned v ∧ ∃ y : Later w0, w'' = y.w) :=
  h.mono fun _ _ ⟨he, hb⟩ => ⟨he, x, hb.symm⟩

theorem calls_later_drew {P : Program} {f : FuncId} {args : Array Value} {w0 : World} {x : Later w0} {v : Value}
    (h : Calls P f args x.w fun e w' => e = .returned v ∧ ∃ q, w' = x.w.drewN q) : Calls P f args x.w (fun e w'' => e = .returned v ∧ ∃ y : Later w0, w'' = y.w) :=
  calls_later (h.mono fun _ _ ⟨he, q, hq⟩ => ⟨he, hq ▸ below_drewN (Below.refl _ _) q⟩)


theorem mix_ok {n len : Nat} {f : Nat → Int} (h : mixE n len f = 0) : len = n ∧ (∀ i, i < n → 0 ≤ f i ∧ f i ≤ 1000000) ∧ 0 < sumF f n := by
  unfold mixE at h
  split at h
  · omega
  · rename_i h1
    split at h
    · omega
    · rename_i h2
      split at h
      · omega
      · rename_i h3
        have e : len = n := by omega
        subst e
        have hf := anyOut_no f len (by simpa using h2)
        have := sumF_nn f 1000000 len hf
        exact ⟨rfl, hf, by omega⟩

/-- Cost: a fraction and an error. -/
def costR (n : Nat) (m : Nat → M5) (len : Nat) (f : Nat → Int) : Int × Int × Int :=
  if metalsE n m ≠ 0 then (0, 0, metalsE n m) else if mixE n len f ≠ 0 then (0, 0, mixE n len f) else (ratN (priceF m f n) (sumF f n), ratD (priceF m f n) (sumF f n), 0)
abbrev re2 (x : Int × Int × Int) : Value := .tuple #[.agg #[.int .i64 x.1, .int .i64 x.2.1], .int .i64 x.2.2]
def deservesE (n : Nat) (m : Nat → M5) (l c : Int) (s : Bool) (len : Nat) (f : Nat → Int) : Int :=
  if bothE n m l c ≠ 0 then bothE n m l c else if mixE n len f ≠ 0 then mixE n len f else if goodB s n m l c f then 0 else 17

theorem both_ok {n : Nat} {m : Nat → M5} {l c : Int} (h : bothE n m l c = 0) : metalsE n m = 0 ∧ 0 ≤ l ∧ l ≤ 1000 ∧ 0 ≤ c ∧ c ≤ 1000 := by
  unfold bothE at h
  split at h
  · omega
  · rename_i h1
    unfold touchE at h
    split at h
    · omega
    · omega


def withinB (lo hi : Int) (f : Nat → Int) : Nat → Bool
  | 0 => true
  | k + 1 => withinB lo hi f k && decide (lo ≤ f k ∧ f k ≤ hi)

theorem within_no (lo hi : Int) (f : Nat → Int) (k : Nat) : ∀ n, k < n → (f k < lo ∨ hi < f k) → withinB lo hi f n = false
  | 0, h, _ => by omega
  | n + 1, h, hb => by
    by_cases e : k = n
    · subst e
      have : decide (lo ≤ f k ∧ f k ≤ hi) = false := by simp; omega
      simp only [withinB, this, Bool.and_false]
    · simp only [withinB, within_no lo hi f k n (by omega) hb, Bool.false_and]

def gcdF (f : Nat → Int) : Nat → Nat
  | 0 => 0
  | k + 1 => Int.gcd (gcdF f k) (f k)
/-- The greatest common divisor, 1 if all are 0. -/
def divF (f : Nat → Int) (n : Nat) : Int := max (gcdF f n) 1

theorem gcd_tstep (d n : Int) : Int.gcd n (d.tmod n) = Int.gcd d n := by
  unfold Int.gcd
  rw [Int.natAbs_tmod, Nat.gcd_comm d.natAbs, Nat.gcd_rec n.natAbs d.natAbs, Nat.gcd_comm]

theorem ints_new (w : World) (T : TypeId) (m : Nat × Nat) (xs : List Int) : Ints (w.alloc (.cells (xs.map (Value.int .i64)).toArray T m)) (some ⟨w.heap.size, 0, none⟩) xs.length (fun i => xs.getD i 0) := by
  refine .inr ⟨w.heap.size, 0, rfl, by simp, fun i hi => ?_⟩
  have : (w.alloc (.cells (xs.map (Value.int .i64)).toArray T m)).heap[w.heap.size]? = some (.cells (xs.map (Value.int .i64)).toArray T m) := by
    show (w.heap.push _)[w.heap.size]? = _
    simp
  simp only [World.cell?, this, Nat.zero_add]
  simp [List.getD, List.getElem?_eq_getElem hi]


/-- Lists one behind the other. -/
def catF {α : Type} (g : Nat → List α) : Nat → List α
  | 0 => []
  | k + 1 => catF g k ++ g k

theorem catF_length {α : Type} (g : Nat → List α) (sz : Nat) (h : ∀ i, (g i).length = sz) : ∀ n, (catF g n).length = n * sz
  | 0 => by simp [catF]
  | n + 1 => by simp [catF, catF_length g sz h n, h, Nat.succ_mul]

theorem catF_get {α : Type} (g : Nat → List α) (sz : Nat) (h : ∀ i, (g i).length = sz) (i j : Nat) (hj : j < sz) : ∀ n, i < n → (catF g n)[i * sz + j]? = (g i)[j]?
  | 0, hi => by omega
  | n + 1, hi => by
    simp only [catF]
    by_cases e : i = n
    · subst e
      rw [List.getElem?_append_right (by rw [catF_length g sz h]; omega), catF_length g sz h]
      congr 1
      omega
    · have h1 : i * sz + j < n * sz := by
        have : (i + 1) * sz ≤ n * sz := Nat.mul_le_mul_right _ (by omega)
        rw [Nat.succ_mul] at this
        omega
      rw [List.getElem?_append_left (by rw [catF_length g sz h]; exact h1)]
      exact catF_get g sz h i j hj n (by omega)

/-- What one part has: parts, price, lead, copper. -/
structure U4 where
  q : Int
  p : Int
  l : Int
  c : Int

def U4.cells (u : U4) : List Value := [.int .i64 u.q, .int .i64 u.p, .int .i64 u.l, .int .i64 u.c]

def Units (w : World) (a : Option Addr) (n : Nat) (u : Nat → U4) : Prop :=
  n = 0 ∨ ∃ b off, a = some ⟨b, off, none⟩ ∧ b < w.heap.size ∧ ∀ i, i < n →
    w.cell? ⟨b, off + i * 4, none⟩ = some (.int .i64 (u i).q) ∧ w.cell? ⟨b, off + i * 4 + 1, none⟩ = some (.int .i64 (u i).p) ∧ w.cell? ⟨b, off + i * 4 + 2, none⟩ = some (.int .i64 (u i).l) ∧
    w.cell? ⟨b, off + i * 4 + 3, none⟩ = some (.int .i64 (u i).c)

theorem Units.below {w w' : World} {a : Option Addr} {n : Nat} {m : Nat → U4} (h : Units w a n m) (hb : Below w.heap.size w w') : Units w' a n m := by
  rcases h with h | ⟨b, off, rfl, hlt, hc⟩
  · exact .inl h
  · refine .inr ⟨b, off, rfl, Nat.lt_of_lt_of_le hlt hb.size, fun i hi => ?_⟩
    obtain ⟨h0, h1, h2, h3⟩ := hc i hi
    exact ⟨(hb.cell hlt).trans h0, (hb.cell hlt).trans h1, (hb.cell hlt).trans h2, (hb.cell hlt).trans h3⟩

theorem Units.at {w : World} {a : Option Addr} {n : Nat} {u : Nat → U4} (h : Units w a n u) (i : Nat) (hi : i < n) :
    ∃ b off, a = some ⟨b, off, none⟩ ∧ b < w.heap.size ∧
    w.cell? ⟨b, off + i * 4, none⟩ = some (.int .i64 (u i).q) ∧ w.cell? ⟨b, off + i * 4 + 1, none⟩ = some (.int .i64 (u i).p) ∧ w.cell? ⟨b, off + i * 4 + 2, none⟩ = some (.int .i64 (u i).l) ∧
    w.cell? ⟨b, off + i * 4 + 3, none⟩ = some (.int .i64 (u i).c) := by
  rcases h with h | ⟨b, off, rfl, hlt, hc⟩
  · omega
  · exact ⟨b, off, rfl, hlt, hc i hi⟩

theorem Units.drewN {w : World} {a : Option Addr} {n : Nat} {m : Nat → U4} (h : Units w a n m) (q : Nat) : Units (w.drewN q) a n m := h.below (below_drewN (Below.refl _ _) q)

theorem units_of_own {w : World} {base : Nat} {e : TypeId} {g n cap : Nat} {u : Nat → U4} (h : w.ownsRow base e 4 (.slice (some ⟨g, 0, none⟩) n cap) n (catF (fun i => (u i).cells) n)) : Units w (some ⟨g, 0, none⟩) n u := by
  have hg : g < w.heap.size := by
    obtain ⟨_, h2⟩ := h
    rcases h2 with ⟨hv, _⟩ | ⟨g', cap', cur, hv, hb, hh, _⟩
    · cases hv
    · cases hv
      exact (Array.getElem?_eq_some_iff.1 hh).1
  refine .inr ⟨g, 0, rfl, hg, fun i hi => ?_⟩
  have key : ∀ j, j < 4 → w.cell? ⟨g, 0 + i * 4 + j, none⟩ = (u i).cells[j]? := fun j hj => by
    have h1 : i * 4 + j < n * 4 := by omega
    have := h.cellAt (i * 4 + j) h1
    rw [catF_get (fun i => (u i).cells) 4 (fun i => rfl) i j hj n hi] at this
    rw [Nat.zero_add]
    exact this
  exact ⟨key 0 (by omega), key 1 (by omega), key 2 (by omega), key 3 (by omega)⟩

/-- The units of metals, with one end of each range. -/
def unitOf (ml mc : Bool) (m : M5) : U4 := ⟨1, m.p, if ml then m.l1 else m.l0, if mc then m.c1 else m.c0⟩

end Go.Proofs.YtbjgbgchagfokaaGreat

namespace Go.Proofs.YtbjgbgchagfokaaGreat
open Go Go.RowKit

section
variable {P : Program} {ops : Array Oper} {md : Region.Mode} {C : World → Prop}

/-- The first n operations, in whatever order, f of them still to come; behind them L. -/
def HeadQ (P : Program) (md : Region.Mode) (ops : Array Oper) (C : World → Prop) (n : Nat) (L : Array Bool → Act → Prop) : Nat → Array Bool → Act → Prop
  | 0, done, a => L done a
  | f + 1, done, a => Region.ready md ops done ≠ [] ∧ ∀ i ∈ Region.ready md ops done, i < n ∧ qOp P ops C i (HeadQ P md ops C n L f (done.setIfInBounds i true)) a

theorem headQ_any {n g : Nat} {L : Array Bool → Act → Prop} {Q : Exit → Act → World → Prop} (hL : ∀ done a w, C w → L done a → wpAny P md ops Q g done a w) :
    ∀ (f : Nat) (done : Array Bool) (a : Act) (w : World), C w → HeadQ P md ops C n L f done a → wpAny P md ops Q (f + g) done a w := by
  intro f
  induction f with
  | zero => intro done a w hw h; rw [Nat.zero_add]; exact hL _ _ _ hw h
  | succ f ih =>
    intro done a w hw h
    rw [Nat.succ_add]
    exact ⟨fun e => absurd e h.1, fun i hi => wpOp_of_qOp hw (fun a' w' hw' => ih _ a' w' hw') (h.2 i hi).2⟩

theorem headQ_first {n i : Nat} {oi : Oper} {v : Value} {L : Array Bool → Act → Prop} (hi : ops[i]? = some oi) (hsel : ∀ (j : Nat) (o : Oper) cs b, ops[j]? = some o → o.op ≠ .select cs b)
    (hs : Region.sinkB md ops n = true) (hc : Region.chainB md ops n = true) (hn : n < ops.size) (hin : i < n) (hend : ∀ done a, L done a → ∀ j ∈ Region.ready md ops done, n ≤ j) :
    ∀ (f : Nat) (done : Array Bool) (a : Act), HeadInv md ops n done →
      (∀ j oj, ops[j]? = some oj → j ≠ i → done.getD j true = false → (∀ e ∈ oj.after, Region.binds md e = true → e.on ≠ i) → oi.apart ops oj = true) →
      i ∈ Region.ready md ops done → YieldsIn P ops C oi v a →
      HeadQ P md ops C n L f (done.setIfInBounds i true) (a.put oi.dst v) → HeadQ P md ops C n L (f + 1) done a := by
  intro f
  induction f with
  | zero =>
    intro done a inv _ hr hy H
    have open_ := (mem_ready.1 hr).1
    refine ⟨List.ne_nil_of_mem hr, fun j hj => ?_⟩
    have hjn : j < n := Nat.lt_of_not_le fun h => tail_waits hs hc hn inv _ i rfl hin open_ j h hj
    refine ⟨hjn, ?_⟩
    rcases Nat.decEq j i with h | h
    · exact absurd (hend _ _ H j (ready_mono hj h)) (Nat.not_le_of_lt hjn)
    · subst h; exact hy.qOp hi H
  | succ f ih =>
    intro done a inv free hr hy H
    have open_ := (mem_ready.1 hr).1
    refine ⟨List.ne_nil_of_mem hr, fun j hj => ?_⟩
    have hjn : j < n := Nat.lt_of_not_le fun h => tail_waits hs hc hn inv _ i rfl hin open_ j h hj
    refine ⟨hjn, ?_⟩
    rcases Nat.decEq j i with h | h
    · have H1 := (H.2 j (ready_mono hj h)).2
      obtain ⟨jopen, oj, hoj, hall⟩ := mem_ready.1 hj
      have waits : ∀ e ∈ oj.after, Region.binds md e = true → e.on ≠ i := by
        intro e he hb heq
        have := hall e he hb
        rw [heq, getD_both open_] at this
        cases this
      have H2 := qOp_put hoj (free j oj hoj h jopen waits) (fun cs b => hsel i oi cs b hi) (fun cs b => hsel j oj cs b hoj) hy H1
      refine qOp_mono (fun a' h3 => ih _ a' (inv.set hj hjn) ?_ (ready_mono hr (Ne.symm h)) h3.1 ?_) H2
      · intro k ok hk hki kopen hno
        refine free k ok hk hki ?_ hno
        rcases Nat.decEq j k with e | e
        · rwa [getD_set_ne true e] at kopen
        · rw [← e]; exact jopen
      · rw [Array.setIfInBounds_comm _ _ h]; exact h3.2
    · subst h; exact hy.qOp hi H

theorem headQ_lex {n g : Nat} {Lq : Act → Prop} (hsel : Region.noSelect ops = true) (hs : Region.sinkB md ops n = true) (hc : Region.chainB md ops n = true) (hn : n < ops.size) :
    ∀ (l : List Oper) (k : Nat) (done : Array Bool) (a : Act), (∀ j, j < l.length → l[j]? = ops[k + j]?) → k + l.length = n → HeadInv md ops n done →
    Region.lexHead md ops g l.length k done = true → wpQuiet P ops C Lq l a →
    HeadQ P md ops C n (fun done' a' => Region.seqB md ops g n done' = true ∧ Lq a') l.length done a := by
  intro l
  induction l with
  | nil =>
    intro k done a _ hk _ hB h
    obtain rfl : k = n := by simpa using hk
    exact ⟨by simpa [Region.lexHead] using hB, h⟩
  | cons o l ih =>
    intro k done a hl hk inv hB h
    have h0 : ops[k]? = some o := by simpa using (hl 0 (by simp)).symm
    rw [List.length_cons] at hk
    simp only [List.length_cons, Region.lexHead, Bool.and_eq_true] at hB
    have hkn : k < n := by omega
    have hr : k ∈ Region.ready md ops done := by simpa using hB.1.1
    have hq : qOp P ops C k (wpQuiet P ops C Lq l) a := by unfold qOp; simp only [h0]; exact h
    obtain ⟨v, hy, hK⟩ := yieldsIn_of_qOp h0 hq
    refine headQ_first h0 (Region.noSelect_spec hsel) hs hc hn hkn (fun _ _ hL => seqB_ready hL.1) l.length done a inv (Region.free_spec h0 hB.1.2) hr hy (ih (k + 1) _ _ ?_ (by omega) (inv.set hr hkn) hB.2 hK)
    intro j hj
    have := hl (j + 1) (by simp; omega)
    simpa [Nat.add_assoc, Nat.add_comm 1 j] using this

theorem wp_region_later_tail {id : Nat} {Q : Exit → Act → World → Prop} {a : Act} {w : World} {l : List Oper} (n : Nat) (hm : P.follows .mixedOrders = true) (hB : Region.lexTailB .any l.toArray n = true)
    (h : wpQuiet P l.toArray (fun w' => ∃ x : Later w, w' = x.w) (fun a' => ∀ x : Later w, wpList P l.toArray Q (l.drop n) a' x.w) (l.take n) a) : (Code.region id l.toArray true).wp P Q a w := by
  simp only [Region.lexTailB, Bool.and_eq_true, decide_eq_true_eq] at hB
  obtain ⟨⟨⟨⟨hsel, hn⟩, hs⟩, hc⟩, hlex⟩ := hB
  have hn' : n < l.length := by simpa using hn
  have htl : (l.take n).length = n := by simp; omega
  have hdl : (l.drop n).length = l.toArray.size - n := by simp
  have inv0 : HeadInv .any l.toArray n (Array.replicate l.toArray.size false) :=
    ⟨by simp, fun j oj _ hl => (by rw [getD_replicate_false] at hl; cases hl), fun t _ ht => getD_in (by simpa using ht) (getD_replicate_false _ _)⟩
  have H := headQ_lex (md := .any) (g := l.toArray.size - n) hsel hs hc hn (l.take n) 0 _ a (fun j hj => by
    rw [htl] at hj
    simp [hj]) (by simpa using htl) inv0 (by rw [htl]; exact hlex) h
  refine wp_region_any hm ?_
  have := headQ_any (Q := Q) (g := l.toArray.size - n) (fun done a' w' hw' hL => by
    obtain ⟨x, rfl⟩ := hw'
    have := wpAny_of_seq (md := .any) (Q' := Q) (l.drop n) n done a' x.w (fun j => by simp [List.getElem?_drop]) (by rw [hdl]; exact hL.1) (hL.2 x)
    rwa [hdl] at this) _ _ _ { w with drawn := w.drawn + 1 } ⟨⟨_, (Below.refl _ w).drew⟩, rfl⟩ H
  rw [htl, show n + (l.toArray.size - n) = l.toArray.size by omega] at this
  exact this
end

theorem heap_new_at (w : World) (o : Obj) (s : Nat) (h : w.heap.size = s) : (w.alloc o).heap[s]? = some o := by
  subst h
  show (w.heap.push o)[w.heap.size]? = _
  simp

theorem heap_new_drew (w : World) (o : Obj) (s : Nat) (h : w.heap.size = s) : ((w.alloc o).drew).heap[s]? = some o := heap_new_at w o s h

/-- An append within the capacity, as one step of a region that draws its order. -/
theorem step_append_fits {P : Program} {w : World} {ops : Array Oper} {o : Oper} {a : Act} {K : Act → World → Prop} {Q : Exit → Act → World → Prop} {E : Prop} (hgd : o.guard = none) (s x : Operand) (t : TypeId)
    (hop : o.op = .call { callee := .builtin .append, args := #[s, x], argTypes := #[t, t] })
    (base : Nat) (e : TypeId) (i : TypeInfo) (size : Nat) (h1 : P.underlying t = some (.slice e)) (h2 : P.info? e = some i) (h4 : i.size = size)
    (g k cap : Nat) (xs : List Value) (hs : a.eval s = .slice (some ⟨g, 0, none⟩) k cap) (hown : w.ownsRow base e size (.slice (some ⟨g, 0, none⟩) k cap) k xs) (ad : Addr) (m c : Nat) (news : List Value) (hx : a.eval x = .slice (some ad) m c) (hn : news.length = m * size)
    (hc : ∀ j u, news[j]? = some u → w.cell? (ad.add j) = some u) (h1c : ∀ u ∈ news, u.oneCell' = true) (b1 : k + m ≤ cap)
    (hK : ∀ w', w'.ownsRow base e size (.slice (some ⟨g, 0, none⟩) (k + m) cap) (k + m) (xs ++ news) → w.grownBy w' (some g) → K (a.put o.dst (.slice (some ⟨g, 0, none⟩) (k + m) cap)) w') :
    if Region.wanted o (yielded ops a.tmps) = true then Oper.wp P o a w K Q else E := by
  have hw : Region.wanted o (yielded ops a.tmps) = true := by simp [Region.wanted, hgd]
  rw [if_pos hw]
  obtain ⟨w', hrun, r1, r2⟩ := run_append_fits (P := P) w base t o.type e i size h1 h2 h4 g k cap xs hown ad m c news hn hc h1c b1
  unfold Oper.wp
  simp [execOp, hop, resolve, invoke, builtin, hs, hx, hrun, Result.andThen]
  exact hK w' r1 r2
end Go.Proofs.YtbjgbgchagfokaaGreat

namespace Go.Proofs.YtbjgbgchagfokaaGreat
open Go Go.RowKit

/-- A want: its shop and its mould. -/
structure W2 where
  (s m : Int)

/-- A slice of wants of length n whose elements are what f says. -/
def Wants (w : World) (a : Option Addr) (n : Nat) (f : Nat → W2) : Prop :=
  n = 0 ∨ ∃ b off, a = some ⟨b, off, none⟩ ∧ b < w.heap.size ∧ ∀ i, i < n → w.cell? ⟨b, off + i * 2, none⟩ = some (.int .i64 (f i).s) ∧ w.cell? ⟨b, off + i * 2 + 1, none⟩ = some (.int .i64 (f i).m)

theorem Wants.below {w w' : World} {a : Option Addr} {n : Nat} {f : Nat → W2} (h : Wants w a n f) (hb : Below w.heap.size w w') : Wants w' a n f := by
  rcases h with h | ⟨b, off, rfl, hlt, hc⟩
  · exact .inl h
  · exact .inr ⟨b, off, rfl, Nat.lt_of_lt_of_le hlt hb.size, fun i hi => ⟨(hb.cell (p := ⟨b, off + i * 2, none⟩) hlt).trans (hc i hi).1, (hb.cell (p := ⟨b, off + i * 2 + 1, none⟩) hlt).trans (hc i hi).2⟩⟩
theorem Wants.at {w : World} {a : Option Addr} {n : Nat} {f : Nat → W2} (h : Wants w a n f) (i : Nat) (hi : i < n) :
    ∃ b off, a = some ⟨b, off, none⟩ ∧ b < w.heap.size ∧ w.cell? ⟨b, off + i * 2, none⟩ = some (.int .i64 (f i).s) ∧ w.cell? ⟨b, off + i * 2 + 1, none⟩ = some (.int .i64 (f i).m) := by
  rcases h with h | ⟨b, off, rfl, hlt, hc⟩
  · omega
  · exact ⟨b, off, rfl, hlt, (hc i hi).1, (hc i hi).2⟩

def wantBad (S M : Int) (x : W2) : Bool := decide (x.s < 0 ∨ S ≤ x.s ∨ x.m < 0 ∨ M ≤ x.m)
def anyWant (S M : Int) (f : Nat → W2) : Nat → Bool
  | 0 => false
  | k + 1 => anyWant S M f k || wantBad S M (f k)
/-- The error of a book. -/
def bookE (S M : Int) (n : Nat) (f : Nat → W2) : Int := if S < 1 ∨ 6 < S ∨ M < 1 ∨ 6 < M ∨ 14 < n then 6 else if anyWant S M f n then 3 else 0

theorem anyWant_of (S M : Int) (f : Nat → W2) (k : Nat) : ∀ n, k < n → wantBad S M (f k) = true → anyWant S M f n = true
  | 0, h, _ => absurd h (Nat.not_lt_zero _)
  | n + 1, h, hb => by
    by_cases e : k = n
    · subst e; simp [anyWant, hb]
    · simp [anyWant, anyWant_of S M f k n (by omega) hb]
theorem anyWant_no (S M : Int) (f : Nat → W2) : ∀ n, anyWant S M f n = false → ∀ i, i < n → wantBad S M (f i) = false
  | 0, _, _, h => absurd h (Nat.not_lt_zero _)
  | n + 1, h, i, hi => by
    simp only [anyWant, Bool.or_eq_false_iff] at h
    by_cases e : i = n
    · subst e; exact h.2
    · exact anyWant_no S M f n h.1 i (by omega)

/-- A valid book, in numbers. -/
def GoodBook (S M : Int) (n : Nat) (f : Nat → W2) : Prop := (1 ≤ S ∧ S ≤ 6) ∧ (1 ≤ M ∧ M ≤ 6) ∧ n ≤ 14 ∧ ∀ i, i < n → (0 ≤ (f i).s ∧ (f i).s < S) ∧ (0 ≤ (f i).m ∧ (f i).m < M)
theorem book_good {S M : Int} {n : Nat} {f : Nat → W2} (h : bookE S M n f = 0) : GoodBook S M n f := by
  unfold bookE at h
  split at h
  · omega
  · rename_i h1
    split at h
    · omega
    · rename_i h2
      have h2' : anyWant S M f n = false := by simpa using h2
      refine ⟨by omega, by omega, by omega, fun i hi => ?_⟩
      have := anyWant_no S M f n h2' i hi
      unfold wantBad at this
      have := of_decide_eq_false this
      omega

end Go.Proofs.YtbjgbgchagfokaaGreat

namespace Go.Proofs.YtbjgbgchagfokaaGreat
open Go Go.RowKit

/-- Block b is a row of these cells. -/
abbrev RowIs (w : World) (b : Nat) (c : Array Value) (e : TypeId) : Prop := w.heap[b]? = some (.cells c e (0, 0))
theorem RowIs.cell {w : World} {b : Nat} {c : Array Value} {e : TypeId} (h : RowIs w b c e) (j : Nat) : w.cell? ⟨b, j, none⟩ = c[j]? := by
  simp [World.cell?, h]

set_option maxHeartbeats 400000 in
theorem within_c (lo hi : Int) (a : Option Addr) (len cap : Nat) (f : Nat → Int) (w : World) (hf : Ints w a len f) (hl : len ≤ 1048576) :
    Calls Tryz.prog 63 #[.int .i64 lo, .int .i64 hi, .slice a len cap] w fun e w' => e = .returned (.bool (withinB lo hi f len)) ∧ w = w' := by
  go_enter Tryz.func63, Tryz.ntmps63
  go_wp2
  go_loop [11] (fun i => ∃ k : Nat, k ≤ len ∧ i = .int .i64 k ∧ withinB lo hi f k = true) (fun i => len - (intOf i).toNat)
  case atStart => exact ⟨0, Nat.zero_le _, rfl, rfl⟩
  case round =>
    obtain ⟨k, hk, rfl, ho⟩ := hrel
    have Ho := Lib.hid ho
    clear ho
    by_cases hlt : k < len
    · obtain ⟨b, off, rfl, hbs, hc⟩ := Cells.at hf k hlt
      have hck := hc k hlt
      clear hc
      by_cases h1 : f k < lo
      · go_wp2
        go_ret
        exact ⟨ret_b (within_no lo hi f k len hlt (.inl h1)).symm, rfl⟩
      by_cases h2 : hi < f k
      · go_wp2
        go_ret
        exact ⟨ret_b (within_no lo hi f k len hlt (.inr h2)).symm, rfl⟩
      go_wp2
      go_round
      case rel => exact ⟨k + 1, by omega, by go_num, by simp only [withinB, Ho.out, Bool.true_and]; simp; omega⟩
      case measure => simp [intOf]; omega
    · go_wp2
      go_ret
      exact ⟨ret_b (by obtain rfl : k = len := by omega
                       exact Ho.out.symm), rfl⟩

theorem within1 (x lo hi : Int) : withinB lo hi (fun i => [x].getD i 0) 1 = decide (lo ≤ x ∧ x ≤ hi) := by simp [withinB]
theorem within1_c (lo hi x : Int) (w : World) (s : Nat) (hs : w.heap.size = s) (T : TypeId) :
    Calls Tryz.prog 63 #[.int .i64 lo, .int .i64 hi, .slice (some ⟨s, 0, none⟩) 1 1] (w.alloc (.cells #[.int .i64 x] T)) fun e w' => e = .returned (.bool (decide (lo ≤ x ∧ x ≤ hi))) ∧ w.alloc (.cells #[.int .i64 x] T) = w' := by
  subst hs
  have hi1 := ints_new w T (0, 0) [x]
  have := within_c lo hi (some ⟨w.heap.size, 0, none⟩) 1 1 (fun i => [x].getD i 0) _ hi1 (by omega)
  rw [within1] at this
  exact this

abbrev bookV (S M : Int) (a : Option Addr) (n cap : Nat) : Value := .agg #[.int .i64 S, .int .i64 M, .slice a n cap]

set_option maxHeartbeats 2000000 in
theorem rcheckBook_c (S M : Int) (a : Option Addr) (n cap : Nat) (f : Nat → W2) (w : World) (hf : Wants w a n f) (hn : n ≤ 1048576) :
    Calls Tryz.prog 30 #[bookV S M a n cap] w fun e w' => e = .returned (.int .i64 (bookE S M n f)) ∧ Below w.heap.size w w' := by
  obtain ⟨W, hW⟩ : ∃ W, w.alloc (.cells #[.int .i64 S, .int .i64 M, .slice a n cap] 24) = W := ⟨_, rfl⟩
  have hB : Below w.heap.size w W := by rw [← hW]; exact Below.alloc1 (Below.refl _ _) _ (Nat.le_refl _)
  have hR : W.heap[w.heap.size]? = some (.cells #[.int .i64 S, .int .i64 M, .slice a n cap] 24 (0, 0)) := by rw [← hW]; exact heap_new_at _ _ _ rfl
  have r0 : W.cell? ⟨w.heap.size, 0, none⟩ = some (.int .i64 S) := RowIs.cell hR 0
  have r1 : W.cell? ⟨w.heap.size, 1, none⟩ = some (.int .i64 M) := RowIs.cell hR 1
  have r2 : W.cell? ⟨w.heap.size, 2, none⟩ = some (.slice a n cap) := RowIs.cell hR 2
  have rz : w.heap.size < W.heap.size := (Array.getElem?_eq_some_iff.1 hR).1
  have HfW := Lib.hid (hf.below hB)
  by_cases h : S < 1 ∨ 6 < S ∨ M < 1 ∨ 6 < M ∨ 14 < n
  · have ev : bookE S M n f = 6 := if_pos h
    rw [ev]
    by_cases h1 : S < 1
    · go_enter Tryz.func30, Tryz.ntmps30
      go_wp2
      go_ret
      exact ⟨rfl, hB⟩
    by_cases h2 : 6 < S
    · go_enter Tryz.func30, Tryz.ntmps30
      go_wp2
      go_ret
      exact ⟨rfl, hB⟩
    by_cases h3 : M < 1
    · go_enter Tryz.func30, Tryz.ntmps30
      go_wp2
      go_ret
      exact ⟨rfl, hB⟩
    by_cases h4 : 6 < M
    · go_enter Tryz.func30, Tryz.ntmps30
      go_wp2
      go_ret
      exact ⟨rfl, hB⟩
    have h5 : (14 : Int) < (n : Int) := by omega
    go_enter Tryz.func30, Tryz.ntmps30
    go_wp2
    go_ret
    exact ⟨rfl, hB⟩
  · have h1 : ¬ S < 1 := by omega
    have h2 : ¬ 6 < S := by omega
    have h3 : ¬ M < 1 := by omega
    have h4 : ¬ 6 < M := by omega
    have h5 : ¬ (14 : Int) < (n : Int) := by omega
    have ev : bookE S M n f = if anyWant S M f n then 3 else 0 := if_neg h
    obtain ⟨v, hv⟩ : ∃ v, bookE S M n f = v := ⟨_, rfl⟩
    rw [hv]
    have HV := Lib.hid (hv.symm.trans ev)
    clear ev hv h
    go_enter Tryz.func30, Tryz.ntmps30
    go_wp2
    clear hW hR
    go_loopw [3, 4] (fun i _ wr => ∃ k : Nat, k ≤ n ∧ i = .int .i64 k ∧ anyWant S M f k = false ∧ Below W.heap.size W wr) (fun i _ _ => n - (intOf i).toNat)
    case atStart => exact ⟨0, Nat.zero_le _, rfl, rfl, Below.refl _ _⟩
    case round =>
      obtain ⟨k, hk, rfl, hbad, hB2⟩ := hrel
      have Hb := Lib.hid hbad
      clear hbad
      have Hr := Lib.hid (Wants.below HfW.out hB2)
      have q2 := (hB2.cell (p := ⟨w.heap.size, 2, none⟩) rz).trans r2
      by_cases hlt : k < n
      · obtain ⟨b, off, rfl, hbs, c0, c1⟩ := Wants.at Hr.out k hlt
        obtain ⟨wo, hwo⟩ : ∃ wo, wr.alloc (.cells #[.int .i64 (f k).s, .int .i64 (f k).m] 77) = wo := ⟨_, rfl⟩
        have hBo : Below W.heap.size W wo := by rw [← hwo]; exact Below.alloc1 hB2 _ (Nat.le_refl _)
        have Ho : RowIs wo wr.heap.size #[.int .i64 (f k).s, .int .i64 (f k).m] 77 := by rw [← hwo]; exact heap_new_at _ _ _ rfl
        have o0 : wo.cell? ⟨wr.heap.size, 0, none⟩ = some (.int .i64 (f k).s) := RowIs.cell Ho 0
        have o1 : wo.cell? ⟨wr.heap.size, 1, none⟩ = some (.int .i64 (f k).m) := RowIs.cell Ho 1
        have q0 := (hBo.cell (p := ⟨w.heap.size, 0, none⟩) rz).trans r0
        have q1 := (hBo.cell (p := ⟨w.heap.size, 1, none⟩) rz).trans r1
        clear Ho r0 r1 r2
        by_cases b1 : (f k).s < 0
        · go_wp2
          go_ret
          exact ⟨ret_i (by rw [HV.out, anyWant_of S M f k n hlt (decide_eq_true (by omega))]; rfl), bup hB hBo⟩
        by_cases b2 : S ≤ (f k).s
        · go_wp2
          go_ret
          exact ⟨ret_i (by rw [HV.out, anyWant_of S M f k n hlt (decide_eq_true (by omega))]; rfl), bup hB hBo⟩
        by_cases b3 : (f k).m < 0
        · go_wp2
          go_ret
          exact ⟨ret_i (by rw [HV.out, anyWant_of S M f k n hlt (decide_eq_true (by omega))]; rfl), bup hB hBo⟩
        by_cases b4 : M ≤ (f k).m
        · go_wp2
          go_ret
          exact ⟨ret_i (by rw [HV.out, anyWant_of S M f k n hlt (decide_eq_true (by omega))]; rfl), bup hB hBo⟩
        go_wp2
        go_roundw
        case rel => exact ⟨k + 1, by omega, by go_num, by simp only [anyWant, Hb.out, Bool.false_or]; exact decide_eq_false (by omega), hBo⟩
        case measure => simp [intOf]; omega
      · go_wp2
        go_ret
        exact ⟨ret_i (by obtain rfl : k = n := by omega
                         rw [HV.out, Hb.out]; rfl), bup hB hB2⟩

end Go.Proofs.YtbjgbgchagfokaaGreat

namespace Go.Proofs.YtbjgbgchagfokaaGreat
open Go Go.RowKit

set_option maxHeartbeats 4000000 in
theorem checkBook_c (S M : Int) (a : Option Addr) (n cap : Nat) (f : Nat → W2) (w : World) (hf : Wants w a n f) (hn : n ≤ 1048576) :
    Calls Tryz.prog 56 #[bookV S M a n cap] w fun e w' => e = .returned (.int .i64 (bookE S M n f)) ∧ Below w.heap.size w w' := by
  obtain ⟨W, hW⟩ : ∃ W, w.alloc (.cells #[.int .i64 S, .int .i64 M, .slice a n cap] 24) = W := ⟨_, rfl⟩
  have hB : Below w.heap.size w W := by rw [← hW]; exact Below.alloc1 (Below.refl _ _) _ (Nat.le_refl _)
  have hR : W.heap[w.heap.size]? = some (.cells #[.int .i64 S, .int .i64 M, .slice a n cap] 24 (0, 0)) := by rw [← hW]; exact heap_new_at _ _ _ rfl
  have r0 : W.cell? ⟨w.heap.size, 0, none⟩ = some (.int .i64 S) := RowIs.cell hR 0
  have r1 : W.cell? ⟨w.heap.size, 1, none⟩ = some (.int .i64 M) := RowIs.cell hR 1
  have r2 : W.cell? ⟨w.heap.size, 2, none⟩ = some (.slice a n cap) := RowIs.cell hR 2
  have rz : w.heap.size < W.heap.size := (Array.getElem?_eq_some_iff.1 hR).1
  have HfW := Lib.hid (hf.below hB)
  clear hR
  obtain ⟨X, hX⟩ : ∃ X, W.alloc (.cells #[.int .i64 S] 3) = X := ⟨_, rfl⟩
  have hXB : Below W.heap.size W X := by rw [← hX]; exact Below.alloc1 (Below.refl _ _) _ (Nat.le_refl _)
  have x1 := (hXB.cell (p := ⟨w.heap.size, 1, none⟩) rz).trans r1
  have x2 := (hXB.cell (p := ⟨w.heap.size, 2, none⟩) rz).trans r2
  have xz := Nat.lt_of_lt_of_le rz hXB.size
  have CX : Calls Tryz.prog 63 #[.int .i64 1, .int .i64 6, .slice (some ⟨W.heap.size, 0, none⟩) 1 1] X fun e w' => e = .returned (.bool (decide (1 ≤ S ∧ S ≤ 6))) ∧ X = w' := by
    have := within1_c 1 6 S W _ rfl 3
    rwa [hX] at this
  have HCX := Lib.hid CX
  clear CX
  by_cases hS : 1 ≤ S ∧ S ≤ 6
  case neg =>
    have ev : bookE S M n f = 6 := if_pos (by omega)
    rw [ev]
    have tS : decide (1 ≤ S ∧ S ≤ 6) = false := decide_eq_false hS
    go_enter Tryz.func56, Tryz.ntmps56
    go_wp2_with fail
    refine HCX.out.mono ?_
    rintro e w1 ⟨rfl, rfl⟩
    rw [tS]
    go_wp2_with fail
    go_ret
    exact ⟨rfl, bup hB hXB⟩
  have tS : decide (1 ≤ S ∧ S ≤ 6) = true := decide_eq_true hS
  obtain ⟨Y, hY⟩ : ∃ Y, X.alloc (.cells #[.int .i64 M] 3) = Y := ⟨_, rfl⟩
  have hYB : Below X.heap.size X Y := by rw [← hY]; exact Below.alloc1 (Below.refl _ _) _ (Nat.le_refl _)
  have y2 := (hYB.cell (p := ⟨w.heap.size, 2, none⟩) xz).trans x2
  have CY : Calls Tryz.prog 63 #[.int .i64 1, .int .i64 6, .slice (some ⟨X.heap.size, 0, none⟩) 1 1] Y fun e w' => e = .returned (.bool (decide (1 ≤ M ∧ M ≤ 6))) ∧ Y = w' := by
    have := within1_c 1 6 M X _ rfl 3
    rwa [hY] at this
  have HCY := Lib.hid CY
  clear CY
  by_cases hM : 1 ≤ M ∧ M ≤ 6
  case neg =>
    have ev : bookE S M n f = 6 := if_pos (by omega)
    rw [ev]
    have tM : decide (1 ≤ M ∧ M ≤ 6) = false := decide_eq_false hM
    go_enter Tryz.func56, Tryz.ntmps56
    go_wp2_with fail
    refine HCX.out.mono ?_
    rintro e w1 ⟨rfl, rfl⟩
    rw [tS]
    go_wp2_with fail
    refine HCY.out.mono ?_
    rintro e w1 ⟨rfl, rfl⟩
    rw [tM]
    go_wp2_with fail
    go_ret
    exact ⟨rfl, bup (bup hB hXB) hYB⟩
  have tM : decide (1 ≤ M ∧ M ≤ 6) = true := decide_eq_true hM
  by_cases h5 : (14 : Int) < (n : Int)
  · have ev : bookE S M n f = 6 := if_pos (by omega)
    rw [ev]
    go_enter Tryz.func56, Tryz.ntmps56
    go_wp2_with fail
    refine HCX.out.mono ?_
    rintro e w1 ⟨rfl, rfl⟩
    rw [tS]
    go_wp2_with fail
    refine HCY.out.mono ?_
    rintro e w1 ⟨rfl, rfl⟩
    rw [tM]
    go_wp2_with fail
    go_ret
    exact ⟨rfl, bup (bup hB hXB) hYB⟩
  have ev : bookE S M n f = if anyWant S M f n then 3 else 0 := if_neg (by omega)
  obtain ⟨v, hv⟩ : ∃ v, bookE S M n f = v := ⟨_, rfl⟩
  rw [hv]
  have HV := Lib.hid (hv.symm.trans ev)
  clear ev hv
  go_enter Tryz.func56, Tryz.ntmps56
  go_wp2_with fail
  refine HCX.out.mono ?_
  rintro e w1 ⟨rfl, rfl⟩
  rw [tS]
  go_wp2_with fail
  refine HCY.out.mono ?_
  rintro e w1 ⟨rfl, rfl⟩
  rw [tM]
  go_wp2_with fail
  have HfY := Lib.hid (Wants.below (Wants.below HfW.out hXB) hYB)
  have hBY := bup (bup hB hXB) hYB
  have y0 := ((hYB.cell (p := ⟨w.heap.size, 0, none⟩) xz).trans (hXB.cell (p := ⟨w.heap.size, 0, none⟩) rz)).trans r0
  have y1 := (hYB.cell (p := ⟨w.heap.size, 1, none⟩) xz).trans x1
  have yz := Nat.lt_of_lt_of_le xz hYB.size
  have hw1 : IntKind.i64.wrap (S - 1) = S - 1 := IntWalk.i64_in _ (by omega)
  have hw2 : IntKind.i64.wrap (M - 1) = M - 1 := IntWalk.i64_in _ (by omega)
  clear hW hX hY HCX HCY HfW r0 r1 r2 x1 x2 rz xz tS tM hXB hYB hB
  go_loopw [4, 24] (fun _ i wr => ∃ k : Nat, k ≤ n ∧ i = .int .i64 k ∧ anyWant S M f k = false ∧ Below Y.heap.size Y wr) (fun _ i _ => n - (intOf i).toNat)
  case atStart => exact ⟨0, Nat.zero_le _, rfl, rfl, Below.refl _ _⟩
  case round =>
    obtain ⟨k, hk, rfl, hbad, hB2⟩ := hrel
    have Hb := Lib.hid hbad
    clear hbad
    have Hr := Lib.hid (Wants.below HfY.out hB2)
    by_cases hlt : k < n
    · obtain ⟨b, off, rfl, hbs, c0, c1⟩ := Wants.at Hr.out k hlt
      obtain ⟨wo, hwo⟩ : ∃ wo, wr.alloc (.cells #[.int .i64 (f k).s, .int .i64 (f k).m] 77) = wo := ⟨_, rfl⟩
      have hBo : Below Y.heap.size Y wo := by rw [← hwo]; exact Below.alloc1 hB2 _ (Nat.le_refl _)
      have Ho : RowIs wo wr.heap.size #[.int .i64 (f k).s, .int .i64 (f k).m] 77 := by rw [← hwo]; exact heap_new_at _ _ _ rfl
      have oz : wr.heap.size < wo.heap.size := (Array.getElem?_eq_some_iff.1 Ho).1
      have o0 : wo.cell? ⟨wr.heap.size, 0, none⟩ = some (.int .i64 (f k).s) := RowIs.cell Ho 0
      have o1 : wo.cell? ⟨wr.heap.size, 1, none⟩ = some (.int .i64 (f k).m) := RowIs.cell Ho 1
      have q0 := (hBo.cell (p := ⟨w.heap.size, 0, none⟩) yz).trans y0
      have q1 := (hBo.cell (p := ⟨w.heap.size, 1, none⟩) yz).trans y1
      have qz := Nat.lt_of_lt_of_le yz hBo.size
      obtain ⟨X, hX⟩ : ∃ X, wo.alloc (.cells #[.int .i64 (f k).s] 3) = X := ⟨_, rfl⟩
      have hXB : Below wo.heap.size wo X := by rw [← hX]; exact Below.alloc1 (Below.refl _ _) _ (Nat.le_refl _)
      have x1 := (hXB.cell (p := ⟨w.heap.size, 1, none⟩) qz).trans q1
      have xo := (hXB.cell (p := ⟨wr.heap.size, 1, none⟩) oz).trans o1
      have CX : Calls Tryz.prog 63 #[.int .i64 0, .int .i64 (S - 1), .slice (some ⟨wo.heap.size, 0, none⟩) 1 1] X fun e w' => e = .returned (.bool (decide (0 ≤ (f k).s ∧ (f k).s ≤ S - 1))) ∧ X = w' := by
        have := within1_c 0 (S - 1) (f k).s wo _ rfl 3
        rwa [hX] at this
      have HCX := Lib.hid CX
      obtain ⟨Z, hZ⟩ : ∃ Z, X.alloc (.cells #[.int .i64 (f k).m] 3) = Z := ⟨_, rfl⟩
      have hZB : Below X.heap.size X Z := by rw [← hZ]; exact Below.alloc1 (Below.refl _ _) _ (Nat.le_refl _)
      have CZ : Calls Tryz.prog 63 #[.int .i64 0, .int .i64 (M - 1), .slice (some ⟨X.heap.size, 0, none⟩) 1 1] Z fun e w' => e = .returned (.bool (decide (0 ≤ (f k).m ∧ (f k).m ≤ M - 1))) ∧ Z = w' := by
        have := within1_c 0 (M - 1) (f k).m X _ rfl 3
        rwa [hZ] at this
      have HCZ := Lib.hid CZ
      clear CX CZ Ho y0 y1 y2
      by_cases b1 : 0 ≤ (f k).s ∧ (f k).s ≤ S - 1
      case neg =>
        have t1 : decide (0 ≤ (f k).s ∧ (f k).s ≤ S - 1) = false := decide_eq_false b1
        go_wp2_with fail
        refine HCX.out.mono ?_
        rintro e w1 ⟨rfl, rfl⟩
        rw [t1]
        go_wp2_with fail
        go_ret
        exact ⟨ret_i (by rw [HV.out, anyWant_of S M f k n hlt (decide_eq_true (by omega))]; rfl), bup (bup hBY hBo) hXB⟩
      have t1 : decide (0 ≤ (f k).s ∧ (f k).s ≤ S - 1) = true := decide_eq_true b1
      by_cases b2 : 0 ≤ (f k).m ∧ (f k).m ≤ M - 1
      case neg =>
        have t2 : decide (0 ≤ (f k).m ∧ (f k).m ≤ M - 1) = false := decide_eq_false b2
        go_wp2_with fail
        refine HCX.out.mono ?_
        rintro e w1 ⟨rfl, rfl⟩
        rw [t1]
        go_wp2_with fail
        refine HCZ.out.mono ?_
        rintro e w1 ⟨rfl, rfl⟩
        rw [t2]
        go_wp2_with fail
        go_ret
        exact ⟨ret_i (by rw [HV.out, anyWant_of S M f k n hlt (decide_eq_true (by omega))]; rfl), bup (bup (bup hBY hBo) hXB) hZB⟩
      have t2 : decide (0 ≤ (f k).m ∧ (f k).m ≤ M - 1) = true := decide_eq_true b2
      go_wp2_with fail
      refine HCX.out.mono ?_
      rintro e w1 ⟨rfl, rfl⟩
      rw [t1]
      go_wp2_with fail
      refine HCZ.out.mono ?_
      rintro e w1 ⟨rfl, rfl⟩
      rw [t2]
      go_wp2_with fail
      go_roundw
      case rel => exact ⟨k + 1, by omega, by go_num, by simp only [anyWant, Hb.out, Bool.false_or]; exact decide_eq_false (by omega), bup (bup hBo hXB) hZB⟩
      case measure => simp [intOf]; omega
    · go_wp2_with fail
      go_ret
      exact ⟨ret_i (by obtain rfl : k = n := by omega
                       rw [HV.out, Hb.out]; rfl), bup hBY hB2⟩

end Go.Proofs.YtbjgbgchagfokaaGreat
