/- Words that all texts of this seat share: slices that read as a function of their index, sums, draws. It imports nothing of the program. -/
import Derived.WalkKit
import Derived.WalkSpells
import Derived.WalkLawsBesides
import Derived.BigQuiet
import Derived.Deep.QuietTactic
import Derived.Lib.Hide
import Derived.StillTail
import Derived.Deep.RegionHeld3
import Derived.Deep.AppendLies
import Derived.Test.YtehafggcncbnkaaGreatProg
namespace Go.Proofs.YtehafggcncbnkaaGreat
open Go.RowKit

/-- The first n cells from a on hold what f says. -/
def Cells (w : World) (a : Option Addr) (n : Nat) (f : Nat → Value) : Prop :=
  n = 0 ∨ ∃ b off, a = some ⟨b, off, none⟩ ∧ b < w.heap.size ∧ ∀ i, i < n → w.cell? ⟨b, off + i, none⟩ = some (f i)

/-- A slice of int64s of length n whose elements are what f says. -/
def Ints (w : World) (a : Option Addr) (n : Nat) (f : Nat → Int) : Prop := Cells w a n fun i => .int .i64 (f i)

theorem Cells.below {w w' : World} {a : Option Addr} {n : Nat} {f : Nat → Value} (h : Cells w a n f) (hb : Below w.heap.size w w') : Cells w' a n f := by
  rcases h with h | ⟨b, off, rfl, hlt, hc⟩
  · exact .inl h
  · exact .inr ⟨b, off, rfl, Nat.lt_of_lt_of_le hlt hb.size, fun i hi => (hb.cell (p := ⟨b, off + i, none⟩) hlt).trans (hc i hi)⟩

theorem Cells.at {w : World} {a : Option Addr} {n : Nat} {f : Nat → Value} (h : Cells w a n f) (i : Nat) (hi : i < n) :
    ∃ b off, a = some ⟨b, off, none⟩ ∧ b < w.heap.size ∧ ∀ i, i < n → w.cell? ⟨b, off + i, none⟩ = some (f i) := by
  rcases h with h | h
  · omega
  · exact h

def sumF (f : Nat → Int) : Nat → Int
  | 0 => 0
  | k + 1 => sumF f k + f k

theorem sumF_bd (f : Nat → Int) (B : Int) : ∀ k, (∀ i, i < k → -B ≤ f i ∧ f i ≤ B) → -(B * k) ≤ sumF f k ∧ sumF f k ≤ B * k
  | 0, _ => by simp [sumF]
  | k + 1, h => by
    have := sumF_bd f B k fun i hi => h i (by omega)
    have h2 := h k (by omega)
    simp only [sumF]
    rw [show B * ((k + 1 : Nat) : Int) = B * k + B by rw [Int.natCast_add, Int.mul_add]; simp]
    omega

theorem drewN_drewN (w : World) (n m : Nat) : (w.drewN n).drewN m = w.drewN (n + m) := by
  simp [World.drewN, Nat.add_assoc]

theorem ret_i {k : IntKind} {a b : Int} (h : a = b) : Ending.returned (.int k a) = .returned (.int k b) := by rw [h]

theorem bcell {W w1 : World} (hb : Below W.heap.size W w1) : (∀ b o, b < W.heap.size → w1.cell? ⟨b, o, none⟩ = W.cell? ⟨b, o, none⟩) ∧ (∀ b o, b < W.heap.size → w1.frozen? ⟨b, o, none⟩ = W.frozen? ⟨b, o, none⟩) :=
  ⟨fun b o h => hb.cell (p := ⟨b, o, none⟩) h, fun b o h => hb.frozen (p := ⟨b, o, none⟩) h⟩


theorem ret_b {a b : Bool} (h : a = b) : Ending.returned (.bool a) = .returned (.bool b) := by rw [h]

/-- A metal: its price, and the ends of its lead and of its copper. -/
structure M5 where
  p : Int
  l0 : Int
  l1 : Int
  c0 : Int
  c1 : Int

/-- A slice of n metals that reads as what m says. -/
def Metals (w : World) (a : Option Addr) (n : Nat) (m : Nat → M5) : Prop :=
  n = 0 ∨ ∃ b off, a = some ⟨b, off, none⟩ ∧ b < w.heap.size ∧ ∀ i, i < n →
    w.cell? ⟨b, off + i * 5, none⟩ = some (.int .i64 (m i).p) ∧ w.cell? ⟨b, off + i * 5 + 1, none⟩ = some (.int .i64 (m i).l0) ∧ w.cell? ⟨b, off + i * 5 + 2, none⟩ = some (.int .i64 (m i).l1) ∧
    w.cell? ⟨b, off + i * 5 + 3, none⟩ = some (.int .i64 (m i).c0) ∧ w.cell? ⟨b, off + i * 5 + 4, none⟩ = some (.int .i64 (m i).c1)

theorem Metals.below {w w' : World} {a : Option Addr} {n : Nat} {m : Nat → M5} (h : Metals w a n m) (hb : Below w.heap.size w w') : Metals w' a n m := by
  rcases h with h | ⟨b, off, rfl, hlt, hc⟩
  · exact .inl h
  · refine .inr ⟨b, off, rfl, Nat.lt_of_lt_of_le hlt hb.size, fun i hi => ?_⟩
    obtain ⟨h0, h1, h2, h3, h4⟩ := hc i hi
    exact ⟨(hb.cell hlt).trans h0, (hb.cell hlt).trans h1, (hb.cell hlt).trans h2, (hb.cell hlt).trans h3, (hb.cell hlt).trans h4⟩

theorem Metals.at {w : World} {a : Option Addr} {n : Nat} {m : Nat → M5} (h : Metals w a n m) (i : Nat) (hi : i < n) :
    ∃ b off, a = some ⟨b, off, none⟩ ∧ b < w.heap.size ∧
    w.cell? ⟨b, off + i * 5, none⟩ = some (.int .i64 (m i).p) ∧ w.cell? ⟨b, off + i * 5 + 1, none⟩ = some (.int .i64 (m i).l0) ∧ w.cell? ⟨b, off + i * 5 + 2, none⟩ = some (.int .i64 (m i).l1) ∧
    w.cell? ⟨b, off + i * 5 + 3, none⟩ = some (.int .i64 (m i).c0) ∧ w.cell? ⟨b, off + i * 5 + 4, none⟩ = some (.int .i64 (m i).c1) := by
  rcases h with h | ⟨b, off, rfl, hlt, hc⟩
  · omega
  · exact ⟨b, off, rfl, hlt, hc i hi⟩

def rangeB (lo hi : Int) : Bool := decide (0 ≤ lo ∧ lo ≤ hi ∧ hi ≤ 1000)
def badB (m : M5) : Bool := decide (m.p < 0 ∨ 1000 < m.p) || !rangeB m.l0 m.l1 || !rangeB m.c0 m.c1
def anyBad (m : Nat → M5) : Nat → Bool
  | 0 => false
  | k + 1 => anyBad m k || badB (m k)
/-- CheckMetals: 6, 3 or 0. -/
def metalsE (n : Nat) (m : Nat → M5) : Int := if n < 1 ∨ 6 < n then 6 else if anyBad m n then 3 else 0
def touchE (l c : Int) : Int := if l < 0 ∨ 1000 < l ∨ c < 0 ∨ 1000 < c then 3 else 0


theorem anyBad_of (m : Nat → M5) (k : Nat) : ∀ n, k < n → badB (m k) = true → anyBad m n = true
  | 0, h, _ => by omega
  | n + 1, h, hb => by
    by_cases e : k = n
    · subst e; simp [anyBad, hb]
    · simp [anyBad, anyBad_of m k n (by omega) hb]

theorem Below.alloc1 {B : Nat} {a w : World} (h : Below B a w) (o : Obj) (hB : B ≤ a.heap.size) : Below B a (w.alloc o) := h.alloc (Nat.le_trans hB h.size) o


/-- n by d in least terms, d above 0. -/
def ratN (n d : Int) : Int := n.tdiv (Int.gcd n d)
def ratD (n d : Int) : Int := d / (Int.gcd n d)
abbrev ratV (n d : Int) : Value := .agg #[.int .i64 (ratN n d), .int .i64 (ratD n d)]

theorem gcd_bd (n d : Int) (hd : 0 < d) : 0 < (Int.gcd n d : Int) ∧ (Int.gcd n d : Int) ≤ d := by
  refine ⟨?_, Int.le_of_dvd hd (Int.gcd_dvd_right n d)⟩
  have := Int.gcd_pos_of_ne_zero_right n (b := d) (by omega)
  omega

theorem bup {W w1 w2 : World} (h : Below W.heap.size W w1) (k : Below w1.heap.size w1 w2) : Below W.heap.size W w2 := h.trans (k.mono h.size)


theorem mul_bd {x y A B : Int} (hx : 0 ≤ x) (hx' : x ≤ A) (hy : 0 ≤ y) (hy' : y ≤ B) : 0 ≤ x * y ∧ x * y ≤ A * B :=
  ⟨Int.mul_nonneg hx hy, Int.mul_le_mul hx' hy' hy (Int.le_trans hx hx')⟩

theorem sumF_nn (f : Nat → Int) (B : Int) : ∀ k, (∀ i, i < k → 0 ≤ f i ∧ f i ≤ B) → 0 ≤ sumF f k ∧ sumF f k ≤ B * k
  | 0, _ => by simp [sumF]
  | k + 1, h => by
    have := sumF_nn f B k fun i hi => h i (by omega)
    have h2 := h k (by omega)
    simp only [sumF]
    rw [show B * ((k + 1 : Nat) : Int) = B * k + B by rw [Int.natCast_add, Int.mul_add]; simp]
    omega

def bothE (n : Nat) (m : Nat → M5) (l c : Int) : Int := if metalsE n m ≠ 0 then metalsE n m else touchE l c
def anyOut (f : Nat → Int) : Nat → Bool
  | 0 => false
  | k + 1 => anyOut f k || decide (f k < 0 ∨ 1000000 < f k)
def mixE (n len : Nat) (f : Nat → Int) : Int := if len ≠ n then 15 else if anyOut f len then 3 else if sumF f len = 0 then 2 else 0
def bad (sure : Bool) (m : M5) : Int := if sure then m.l1 else m.l0
def good (sure : Bool) (m : M5) : Int := if sure then m.c0 else m.c1
def priceF (m : Nat → M5) (f : Nat → Int) (n : Nat) : Int := sumF (fun i => f i * (m i).p) n
def leadF (sure : Bool) (m : Nat → M5) (f : Nat → Int) (n : Nat) : Int := sumF (fun i => f i * bad sure (m i)) n
def copperF (sure : Bool) (m : Nat → M5) (f : Nat → Int) (n : Nat) : Int := sumF (fun i => f i * good sure (m i)) n
def goodB (sure : Bool) (n : Nat) (m : Nat → M5) (l c : Int) (f : Nat → Int) : Bool :=
  decide (leadF sure m f n ≤ l * sumF f n ∧ c * sumF f n ≤ copperF sure m f n)

theorem anyOut_of (f : Nat → Int) (k : Nat) : ∀ n, k < n → (f k < 0 ∨ 1000000 < f k) → anyOut f n = true
  | 0, h, _ => by omega
  | n + 1, h, hb => by
    by_cases e : k = n
    · subst e; simp [anyOut, hb]
    · simp [anyOut, anyOut_of f k n (by omega) hb]

theorem anyOut_no (f : Nat → Int) : ∀ n, anyOut f n = false → ∀ i, i < n → 0 ≤ f i ∧ f i ≤ 1000000
  | 0, _, i, hi => by omega
  | n + 1, h, i, hi => by
    simp only [anyOut, Bool.or_eq_false_iff, decide_eq_false_iff_not] at h
    by_cases e : i = n
    · subst e; omega
    · exact anyOut_no f n h.1 i (by omega)

/-- Valid metals, as the walks want it. -/
def Fine (n : Nat) (m : Nat → M5) : Prop := 1 ≤ n ∧ n ≤ 6 ∧ ∀ i, i < n → 0 ≤ (m i).p ∧ (m i).p ≤ 1000 ∧ 0 ≤ (m i).l0 ∧ (m i).l0 ≤ (m i).l1 ∧ (m i).l1 ≤ 1000 ∧ 0 ≤ (m i).c0 ∧ (m i).c0 ≤ (m i).c1 ∧ (m i).c1 ≤ 1000

theorem anyBad_no (m : Nat → M5) : ∀ n, anyBad m n = false → ∀ i, i < n → badB (m i) = false
  | 0, _, i, hi => by omega
  | n + 1, h, i, hi => by
    simp only [anyBad, Bool.or_eq_false_iff] at h
    by_cases e : i = n
    · subst e; exact h.2
    · exact anyBad_no m n h.1 i (by omega)

theorem fine_of {n : Nat} {m : Nat → M5} (h : metalsE n m = 0) : Fine n m := by
  unfold metalsE at h
  split at h
  · omega
  · split at h
    · omega
    · rename_i h1 h2
      refine ⟨by omega, by omega, fun i hi => ?_⟩
      have := anyBad_no m n (by simpa using h2) i hi
      simp [badB, rangeB] at this
      omega


theorem Cells.drewN {w : World} {a : Option Addr} {n : Nat} {f : Nat → Value} (h : Cells w a n f) (q : Nat) : Cells (w.drewN q) a n f := h.below (below_drewN (Below.refl _ _) q)
theorem Metals.drewN {w : World} {a : Option Addr} {n : Nat} {m : Nat → M5} (h : Metals w a n m) (q : Nat) : Metals (w.drewN q) a n m := h.below (below_drewN (Below.refl _ _) q)


/-- A world that comes behind w0: all that lay in w0 lies as it lay. -/
structure Later (w0 : World) where
  w : World
  h : Below w0.heap.size w0 w

instance laterNonempty (w0 : World) : Nonempty (Later w0) := ⟨⟨w0, Below.refl _ _⟩⟩

theorem later_cell {w0 : World} (x : Later w0) (b o : Nat) (h : b < w0.heap.size) : x.w.cell? ⟨b, o, none⟩ = w0.cell? ⟨b, o, none⟩ := x.h.cell (p := ⟨b, o, none⟩) h

/-- A region that draws its order, whose operations read and whose callees leave what lay there: one walk in the order of the text. -/
theorem wp_region_later {P : Program} {id : Nat} {Q : Exit → Act → World → Prop} {a : Act} {w : World} {l : List Oper} (hm : P.follows .mixedOrders = true) (hB : Region.lexB .any l.toArray = true)
    (h : wpQuiet P l.toArray (fun w' => ∃ x : Later w, w' = x.w) (fun a' => ∀ x : Later w, Q .normal a' x.w) l a) : (Code.region id l.toArray true).wp P Q a w :=
  wp_region_quiet (C := fun w' => ∃ x : Later w, w' = x.w) hm hB ⟨⟨_, (Below.refl _ w).drew⟩, rfl⟩ (by
    have : (fun a' => ∀ w', (∃ x : Later w, w' = x.w) → Q .normal a' w') = (fun a' => ∀ x : Later w, Q .normal a' x.w) := by
      funext a'
      exact propext ⟨fun h x => h _ ⟨x, rfl⟩, fun h _ ⟨x, hx⟩ => hx ▸ h x⟩
    rw [this]
    simpa using h)

theorem calls_later {P : Program} {f : FuncId} {args : Array Value} {w0 : World} {x : Later w0} {v : Value}
    (h : Calls P f args x.w fun e w' => e = .returned v ∧ Below x.w.heap.size x.w w') : Calls P f args x.w (fun e w'' => e = .returned v ∧ ∃ y : Later w0, w'' = y.w) :=
  h.mono fun _ w' ⟨he, hb⟩ => ⟨he, ⟨w', x.h.trans (hb.mono x.h.size)⟩, rfl⟩

theorem calls_later_same {P : Program} {f : FuncId} {args : Array Value} {w0 : World} {x : Later w0} {v : Value}
    (h : Calls P f args x.w fun e w' => e = .returned v ∧ x.w = w') : Calls P f args x.w (fun e w'' => e = .returned v ∧ ∃ y : Later w0, w'' = y.w) :=
  h.mono fun _ _ ⟨he, hb⟩ => ⟨he, x, hb.symm⟩

theorem calls_later_drew {P : Program} {f : FuncId} {args : Array Value} {w0 : World} {x : Later w0} {v : Value}
    (h : Calls P f args x.w fun e w' => e = .returned v ∧ ∃ q, w' = x.w.drewN q) : Calls P f args x.w (fun e w'' => e = .returned v ∧ ∃ y : Later w0, w'' = y.w) :=
  calls_later (h.mono fun _ _ ⟨he, q, hq⟩ => ⟨he, hq ▸ below_drewN (Below.refl _ _) q⟩)


theorem mix_ok {n len : Nat} {f : Nat → Int} (h : mixE n len f = 0) : len = n ∧ (∀ i, i < n → 0 ≤ f i ∧ f i ≤ 1000000) ∧ 0 < sumF f n := by
  unfold mixE at h
  split at h
  · omega
  · rename_i h1
    split at h
    · omega
    · rename_i h2
      split at h
      · omega
      · rename_i h3
        have e : len = n := by omega
        subst e
        have hf := anyOut_no f len (by simpa using h2)
        have := sumF_nn f 1000000 len hf
        exact ⟨rfl, hf, by omega⟩

/-- Cost: a fraction and an error. -/
def costR (n : Nat) (m : Nat → M5) (len : Nat) (f : Nat → Int) : Int × Int × Int :=
  if metalsE n m ≠ 0 then (0, 0, metalsE n m) else if mixE n len f ≠ 0 then (0, 0, mixE n len f) else (ratN (priceF m f n) (sumF f n), ratD (priceF m f n) (sumF f n), 0)
abbrev re2 (x : Int × Int × Int) : Value := .tuple #[.agg #[.int .i64 x.1, .int .i64 x.2.1], .int .i64 x.2.2]
def deservesE (n : Nat) (m : Nat → M5) (l c : Int) (s : Bool) (len : Nat) (f : Nat → Int) : Int :=
  if bothE n m l c ≠ 0 then bothE n m l c else if mixE n len f ≠ 0 then mixE n len f else if goodB s n m l c f then 0 else 17

theorem both_ok {n : Nat} {m : Nat → M5} {l c : Int} (h : bothE n m l c = 0) : metalsE n m = 0 ∧ 0 ≤ l ∧ l ≤ 1000 ∧ 0 ≤ c ∧ c ≤ 1000 := by
  unfold bothE at h
  split at h
  · omega
  · rename_i h1
    unfold touchE at h
    split at h
    · omega
    · omega


def withinB (lo hi : Int) (f : Nat → Int) : Nat → Bool
  | 0 => true
  | k + 1 => withinB lo hi f k && decide (lo ≤ f k ∧ f k ≤ hi)

theorem within_no (lo hi : Int) (f : Nat → Int) (k : Nat) : ∀ n, k < n → (f k < lo ∨ hi < f k) → withinB lo hi f n = false
  | 0, h, _ => by omega
  | n + 1, h, hb => by
    by_cases e : k = n
    · subst e
      have : decide (lo ≤ f k ∧ f k ≤ hi) = false := by simp; omega
      simp only [withinB, this, Bool.and_false]
    · simp only [withinB, within_no lo hi f k n (by omega) hb, Bool.false_and]

def gcdF (f : Nat → Int) : Nat → Nat
  | 0 => 0
  | k + 1 => Int.gcd (gcdF f k) (f k)
/-- The greatest common divisor, 1 if all are 0. -/
def divF (f : Nat → Int) (n : Nat) : Int := max (gcdF f n) 1

theorem gcd_tstep (d n : Int) : Int.gcd n (d.tmod n) = Int.gcd d n := by
  unfold Int.gcd
  rw [Int.natAbs_tmod, Nat.gcd_comm d.natAbs, Nat.gcd_rec n.natAbs d.natAbs, Nat.gcd_comm]

theorem ints_new (w : World) (T : TypeId) (m : Nat × Nat) (xs : List Int) : Ints (w.alloc (.cells (xs.map (Value.int .i64)).toArray T m)) (some ⟨w.heap.size, 0, none⟩) xs.length (fun i => xs.getD i 0) := by
  refine .inr ⟨w.heap.size, 0, rfl, by simp, fun i hi => ?_⟩
  have : (w.alloc (.cells (xs.map (Value.int .i64)).toArray T m)).heap[w.heap.size]? = some (.cells (xs.map (Value.int .i64)).toArray T m) := by
    show (w.heap.push _)[w.heap.size]? = _
    simp
  simp only [World.cell?, this, Nat.zero_add]
  simp [List.getD, List.getElem?_eq_getElem hi]


/-- Lists one behind the other. -/
def catF {α : Type} (g : Nat → List α) : Nat → List α
  | 0 => []
  | k + 1 => catF g k ++ g k

theorem catF_length {α : Type} (g : Nat → List α) (sz : Nat) (h : ∀ i, (g i).length = sz) : ∀ n, (catF g n).length = n * sz
  | 0 => by simp [catF]
  | n + 1 => by simp [catF, catF_length g sz h n, h, Nat.succ_mul]

theorem catF_get {α : Type} (g : Nat → List α) (sz : Nat) (h : ∀ i, (g i).length = sz) (i j : Nat) (hj : j < sz) : ∀ n, i < n → (catF g n)[i * sz + j]? = (g i)[j]?
  | 0, hi => by omega
  | n + 1, hi => by
    simp only [catF]
    by_cases e : i = n
    · subst e
      rw [List.getElem?_append_right (by rw [catF_length g sz h]; omega), catF_length g sz h]
      congr 1
      omega
    · have h1 : i * sz + j < n * sz := by
        have : (i + 1) * sz ≤ n * sz := Nat.mul_le_mul_right _ (by omega)
        rw [Nat.succ_mul] at this
        omega
      rw [List.getElem?_append_left (by rw [catF_length g sz h]; exact h1)]
      exact catF_get g sz h i j hj n (by omega)

/-- What one part has: parts, price, lead, copper. -/
structure U4 where
  q : Int
  p : Int
  l : Int
  c : Int

def U4.cells (u : U4) : List Value := [.int .i64 u.q, .int .i64 u.p, .int .i64 u.l, .int .i64 u.c]

def Units (w : World) (a : Option Addr) (n : Nat) (u : Nat → U4) : Prop :=
  n = 0 ∨ ∃ b off, a = some ⟨b, off, none⟩ ∧ b < w.heap.size ∧ ∀ i, i < n →
    w.cell? ⟨b, off + i * 4, none⟩ = some (.int .i64 (u i).q) ∧ w.cell? ⟨b, off + i * 4 + 1, none⟩ = some (.int .i64 (u i).p) ∧ w.cell? ⟨b, off + i * 4 + 2, none⟩ = some (.int .i64 (u i).l) ∧
    w.cell? ⟨b, off + i * 4 + 3, none⟩ = some (.int .i64 (u i).c)

theorem Units.below {w w' : World} {a : Option Addr} {n : Nat} {m : Nat → U4} (h : Units w a n m) (hb : Below w.heap.size w w') : Units w' a n m := by
  rcases h with h | ⟨b, off, rfl, hlt, hc⟩
  · exact .inl h
  · refine .inr ⟨b, off, rfl, Nat.lt_of_lt_of_le hlt hb.size, fun i hi => ?_⟩
    obtain ⟨h0, h1, h2, h3⟩ := hc i hi
    exact ⟨(hb.cell hlt).trans h0, (hb.cell hlt).trans h1, (hb.cell hlt).trans h2, (hb.cell hlt).trans h3⟩

theorem Units.at {w : World} {a : Option Addr} {n : Nat} {u : Nat → U4} (h : Units w a n u) (i : Nat) (hi : i < n) :
    ∃ b off, a = some ⟨b, off, none⟩ ∧ b < w.heap.size ∧
    w.cell? ⟨b, off + i * 4, none⟩ = some (.int .i64 (u i).q) ∧ w.cell? ⟨b, off + i * 4 + 1, none⟩ = some (.int .i64 (u i).p) ∧ w.cell? ⟨b, off + i * 4 + 2, none⟩ = some (.int .i64 (u i).l) ∧
    w.cell? ⟨b, off + i * 4 + 3, none⟩ = some (.int .i64 (u i).c) := by
  rcases h with h | ⟨b, off, rfl, hlt, hc⟩
  · omega
  · exact ⟨b, off, rfl, hlt, hc i hi⟩

theorem Units.drewN {w : World} {a : Option Addr} {n : Nat} {m : Nat → U4} (h : Units w a n m) (q : Nat) : Units (w.drewN q) a n m := h.below (below_drewN (Below.refl _ _) q)

theorem units_of_own {w : World} {base : Nat} {e : TypeId} {g n cap : Nat} {u : Nat → U4} (h : w.ownsRow base e 4 (.slice (some ⟨g, 0, none⟩) n cap) n (catF (fun i => (u i).cells) n)) : Units w (some ⟨g, 0, none⟩) n u := by
  have hg : g < w.heap.size := by
    obtain ⟨_, h2⟩ := h
    rcases h2 with ⟨hv, _⟩ | ⟨g', cap', cur, hv, hb, hh, _⟩
    · cases hv
    · cases hv
      exact (Array.getElem?_eq_some_iff.1 hh).1
  refine .inr ⟨g, 0, rfl, hg, fun i hi => ?_⟩
  have key : ∀ j, j < 4 → w.cell? ⟨g, 0 + i * 4 + j, none⟩ = (u i).cells[j]? := fun j hj => by
    have h1 : i * 4 + j < n * 4 := by omega
    have := h.cellAt (i * 4 + j) h1
    rw [catF_get (fun i => (u i).cells) 4 (fun i => rfl) i j hj n hi] at this
    rw [Nat.zero_add]
    exact this
  exact ⟨key 0 (by omega), key 1 (by omega), key 2 (by omega), key 3 (by omega)⟩

/-- The units of metals, with one end of each range. -/
def unitOf (ml mc : Bool) (m : M5) : U4 := ⟨1, m.p, if ml then m.l1 else m.l0, if mc then m.c1 else m.c0⟩

end Go.Proofs.YtehafggcncbnkaaGreat

namespace Go.Proofs.YtehafggcncbnkaaGreat
open Go.RowKit

def loOf (copper : Bool) (m : M5) : Int := if copper then m.c0 else m.l0
def hiOf (copper : Bool) (m : M5) : Int := if copper then m.c1 else m.l1
def lowF (copper : Bool) (m : Nat → M5) (f : Nat → Int) (n : Nat) : Int := sumF (fun i => f i * loOf copper (m i)) n
def highF (copper : Bool) (m : Nat → M5) (f : Nat → Int) (n : Nat) : Int := sumF (fun i => f i * hiOf copper (m i)) n

/-- Ends: two fractions and an error. -/
def endsR (n : Nat) (m : Nat → M5) (len : Nat) (f : Nat → Int) (copper : Bool) : (Int × Int) × (Int × Int) × Int :=
  if metalsE n m ≠ 0 then ((0, 0), (0, 0), metalsE n m) else if mixE n len f ≠ 0 then ((0, 0), (0, 0), mixE n len f)
  else ((ratN (lowF copper m f n) (sumF f n), ratD (lowF copper m f n) (sumF f n)), (ratN (highF copper m f n) (sumF f n), ratD (highF copper m f n) (sumF f n)), 0)
abbrev re3 (x : (Int × Int) × (Int × Int) × Int) : Value := .tuple #[.agg #[.int .i64 x.1.1, .int .i64 x.1.2], .agg #[.int .i64 x.2.1.1, .int .i64 x.2.1.2], .int .i64 x.2.2]

theorem ends_bd {n : Nat} {m : Nat → M5} (h : Fine n m) (c : Bool) (i : Nat) (hi : i < n) : (0 ≤ loOf c (m i) ∧ loOf c (m i) ≤ 1000) ∧ (0 ≤ hiOf c (m i) ∧ hiOf c (m i) ≤ 1000) := by
  have := h.2.2 i hi
  cases c <;> simp [loOf, hiOf] <;> omega

end Go.Proofs.YtehafggcncbnkaaGreat

namespace Go.Proofs.YtehafggcncbnkaaGreat
open Go.RowKit

/-- A proof: Den, Base, Lead, Copper. -/
structure P4 where
  (d b l c : Int)
abbrev proofV (p : P4) : Value := .agg #[.int .i64 p.d, .int .i64 p.b, .int .i64 p.l, .int .i64 p.c]

def isProofB (p : P4) : Bool := decide (-68719476736 ≤ p.b ∧ p.b ≤ 68719476736 ∧ 0 ≤ p.l ∧ p.l ≤ 68719476736 ∧ 0 ≤ p.c ∧ p.c ≤ 68719476736)
def leftOf (s : Bool) (p : P4) (m : M5) : Int := p.b - p.l * bad s m + p.c * good s m
def holdsB (s : Bool) (m : Nat → M5) (p : P4) : Nat → Bool
  | 0 => true
  | k + 1 => holdsB s m p k && decide (leftOf s p (m k) ≤ p.d * (m k).p)
def valueR (l c : Int) (p : P4) : Int := p.b - p.l * l + p.c * c
def checkProofR (n : Nat) (m : Nat → M5) (l c : Int) (s : Bool) (p : P4) : Int × Int × Int :=
  if bothE n m l c ≠ 0 then (0, 0, bothE n m l c) else if (p.d < 1 ∨ 1073741824 < p.d) ∨ isProofB p = false then (0, 0, 3) else if holdsB s m p n = false then (0, 0, 14)
  else (ratN (valueR l c p) p.d, ratD (valueR l c p) p.d, 0)
def checkNeverE (n : Nat) (m : Nat → M5) (l c : Int) (s : Bool) (p : P4) : Int :=
  if bothE n m l c ≠ 0 then bothE n m l c else if p.d ≠ 0 ∨ isProofB p = false then 3 else if holdsB s m p n = false ∨ valueR l c p ≤ 0 then 14 else 0

theorem holdsB_no (s : Bool) (m : Nat → M5) (p : P4) (k : Nat) : ∀ n, k < n → p.d * (m k).p < leftOf s p (m k) → holdsB s m p n = false
  | 0, h, _ => by omega
  | n + 1, h, hb => by
    by_cases e : k = n
    · subst e; simp [holdsB]; intro _; omega
    · simp [holdsB, holdsB_no s m p k n (by omega) hb]

theorem isProof_bd {p : P4} (h : isProofB p = true) : -68719476736 ≤ p.b ∧ p.b ≤ 68719476736 ∧ 0 ≤ p.l ∧ p.l ≤ 68719476736 ∧ 0 ≤ p.c ∧ p.c ≤ 68719476736 := by
  simpa [isProofB] using h

end Go.Proofs.YtehafggcncbnkaaGreat

namespace Go.Proofs.YtehafggcncbnkaaGreat
open Go Go.RowKit

section
variable {P : Program} {ops : Array Oper} {md : Region.Mode} {C : World → Prop}

/-- The first n operations, in whatever order, f of them still to come; behind them L. -/
def HeadQ (P : Program) (md : Region.Mode) (ops : Array Oper) (C : World → Prop) (n : Nat) (L : Array Bool → Act → Prop) : Nat → Array Bool → Act → Prop
  | 0, done, a => L done a
  | f + 1, done, a => Region.ready md ops done ≠ [] ∧ ∀ i ∈ Region.ready md ops done, i < n ∧ qOp P ops C i (HeadQ P md ops C n L f (done.setIfInBounds i true)) a

theorem headQ_any {n g : Nat} {L : Array Bool → Act → Prop} {Q : Exit → Act → World → Prop} (hL : ∀ done a w, C w → L done a → wpAny P md ops Q g done a w) :
    ∀ (f : Nat) (done : Array Bool) (a : Act) (w : World), C w → HeadQ P md ops C n L f done a → wpAny P md ops Q (f + g) done a w := by
  intro f
  induction f with
  | zero => intro done a w hw h; rw [Nat.zero_add]; exact hL _ _ _ hw h
  | succ f ih =>
    intro done a w hw h
    rw [Nat.succ_add]
    exact ⟨fun e => absurd e h.1, fun i hi => wpOp_of_qOp hw (fun a' w' hw' => ih _ a' w' hw') (h.2 i hi).2⟩

theorem headQ_first {n i : Nat} {oi : Oper} {v : Value} {L : Array Bool → Act → Prop} (hi : ops[i]? = some oi) (hsel : ∀ (j : Nat) (o : Oper) cs b, ops[j]? = some o → o.op ≠ .select cs b)
    (hs : Region.sinkB md ops n = true) (hc : Region.chainB md ops n = true) (hn : n < ops.size) (hin : i < n) (hend : ∀ done a, L done a → ∀ j ∈ Region.ready md ops done, n ≤ j) :
    ∀ (f : Nat) (done : Array Bool) (a : Act), HeadInv md ops n done →
      (∀ j oj, ops[j]? = some oj → j ≠ i → done.getD j true = false → (∀ e ∈ oj.after, Region.binds md e = true → e.on ≠ i) → oi.apart ops oj = true) →
      i ∈ Region.ready md ops done → YieldsIn P ops C oi v a →
      HeadQ P md ops C n L f (done.setIfInBounds i true) (a.put oi.dst v) → HeadQ P md ops C n L (f + 1) done a := by
  intro f
  induction f with
  | zero =>
    intro done a inv _ hr hy H
    have open_ := (mem_ready.1 hr).1
    refine ⟨List.ne_nil_of_mem hr, fun j hj => ?_⟩
    have hjn : j < n := Nat.lt_of_not_le fun h => tail_waits hs hc hn inv _ i rfl hin open_ j h hj
    refine ⟨hjn, ?_⟩
    rcases Nat.decEq j i with h | h
    · exact absurd (hend _ _ H j (ready_mono hj h)) (Nat.not_le_of_lt hjn)
    · subst h; exact hy.qOp hi H
  | succ f ih =>
    intro done a inv free hr hy H
    have open_ := (mem_ready.1 hr).1
    refine ⟨List.ne_nil_of_mem hr, fun j hj => ?_⟩
    have hjn : j < n := Nat.lt_of_not_le fun h => tail_waits hs hc hn inv _ i rfl hin open_ j h hj
    refine ⟨hjn, ?_⟩
    rcases Nat.decEq j i with h | h
    · have H1 := (H.2 j (ready_mono hj h)).2
      obtain ⟨jopen, oj, hoj, hall⟩ := mem_ready.1 hj
      have waits : ∀ e ∈ oj.after, Region.binds md e = true → e.on ≠ i := by
        intro e he hb heq
        have := hall e he hb
        rw [heq, getD_both open_] at this
        cases this
      have H2 := qOp_put hoj (free j oj hoj h jopen waits) (fun cs b => hsel i oi cs b hi) (fun cs b => hsel j oj cs b hoj) hy H1
      refine qOp_mono (fun a' h3 => ih _ a' (inv.set hj hjn) ?_ (ready_mono hr (Ne.symm h)) h3.1 ?_) H2
      · intro k ok hk hki kopen hno
        refine free k ok hk hki ?_ hno
        rcases Nat.decEq j k with e | e
        · rwa [getD_set_ne true e] at kopen
        · rw [← e]; exact jopen
      · rw [Array.setIfInBounds_comm _ _ h]; exact h3.2
    · subst h; exact hy.qOp hi H

theorem headQ_lex {n g : Nat} {Lq : Act → Prop} (hsel : Region.noSelect ops = true) (hs : Region.sinkB md ops n = true) (hc : Region.chainB md ops n = true) (hn : n < ops.size) :
    ∀ (l : List Oper) (k : Nat) (done : Array Bool) (a : Act), (∀ j, j < l.length → l[j]? = ops[k + j]?) → k + l.length = n → HeadInv md ops n done →
    Region.lexHead md ops g l.length k done = true → wpQuiet P ops C Lq l a →
    HeadQ P md ops C n (fun done' a' => Region.seqB md ops g n done' = true ∧ Lq a') l.length done a := by
  intro l
  induction l with
  | nil =>
    intro k done a _ hk _ hB h
    obtain rfl : k = n := by simpa using hk
    exact ⟨by simpa [Region.lexHead] using hB, h⟩
  | cons o l ih =>
    intro k done a hl hk inv hB h
    have h0 : ops[k]? = some o := by simpa using (hl 0 (by simp)).symm
    rw [List.length_cons] at hk
    simp only [List.length_cons, Region.lexHead, Bool.and_eq_true] at hB
    have hkn : k < n := by omega
    have hr : k ∈ Region.ready md ops done := by simpa using hB.1.1
    have hq : qOp P ops C k (wpQuiet P ops C Lq l) a := by unfold qOp; simp only [h0]; exact h
    obtain ⟨v, hy, hK⟩ := yieldsIn_of_qOp h0 hq
    refine headQ_first h0 (Region.noSelect_spec hsel) hs hc hn hkn (fun _ _ hL => seqB_ready hL.1) l.length done a inv (Region.free_spec h0 hB.1.2) hr hy (ih (k + 1) _ _ ?_ (by omega) (inv.set hr hkn) hB.2 hK)
    intro j hj
    have := hl (j + 1) (by simp; omega)
    simpa [Nat.add_assoc, Nat.add_comm 1 j] using this

theorem wp_region_later_tail {id : Nat} {Q : Exit → Act → World → Prop} {a : Act} {w : World} {l : List Oper} (n : Nat) (hm : P.follows .mixedOrders = true) (hB : Region.lexTailB .any l.toArray n = true)
    (h : wpQuiet P l.toArray (fun w' => ∃ x : Later w, w' = x.w) (fun a' => ∀ x : Later w, wpList P l.toArray Q (l.drop n) a' x.w) (l.take n) a) : (Code.region id l.toArray true).wp P Q a w := by
  simp only [Region.lexTailB, Bool.and_eq_true, decide_eq_true_eq] at hB
  obtain ⟨⟨⟨⟨hsel, hn⟩, hs⟩, hc⟩, hlex⟩ := hB
  have hn' : n < l.length := by simpa using hn
  have htl : (l.take n).length = n := by simp; omega
  have hdl : (l.drop n).length = l.toArray.size - n := by simp
  have inv0 : HeadInv .any l.toArray n (Array.replicate l.toArray.size false) :=
    ⟨by simp, fun j oj _ hl => (by rw [getD_replicate_false] at hl; cases hl), fun t _ ht => getD_in (by simpa using ht) (getD_replicate_false _ _)⟩
  have H := headQ_lex (md := .any) (g := l.toArray.size - n) hsel hs hc hn (l.take n) 0 _ a (fun j hj => by
    rw [htl] at hj
    simp [hj]) (by simpa using htl) inv0 (by rw [htl]; exact hlex) h
  refine wp_region_any hm ?_
  have := headQ_any (Q := Q) (g := l.toArray.size - n) (fun done a' w' hw' hL => by
    obtain ⟨x, rfl⟩ := hw'
    have := wpAny_of_seq (md := .any) (Q' := Q) (l.drop n) n done a' x.w (fun j => by simp [List.getElem?_drop]) (by rw [hdl]; exact hL.1) (hL.2 x)
    rwa [hdl] at this) _ _ _ { w with drawn := w.drawn + 1 } ⟨⟨_, (Below.refl _ w).drew⟩, rfl⟩ H
  rw [htl, show n + (l.toArray.size - n) = l.toArray.size by omega] at this
  exact this
end

theorem heap_new_at (w : World) (o : Obj) (s : Nat) (h : w.heap.size = s) : (w.alloc o).heap[s]? = some o := by
  subst h
  show (w.heap.push o)[w.heap.size]? = _
  simp

theorem heap_new_drew (w : World) (o : Obj) (s : Nat) (h : w.heap.size = s) : ((w.alloc o).drew).heap[s]? = some o := heap_new_at w o s h

/-- An append within the capacity, as one step of a region that draws its order. -/
theorem step_append_fits {P : Program} {w : World} {ops : Array Oper} {o : Oper} {a : Act} {K : Act → World → Prop} {Q : Exit → Act → World → Prop} {E : Prop} (hgd : o.guard = none) (s x : Operand) (t : TypeId)
    (hop : o.op = .call { callee := .builtin .append, args := #[s, x], argTypes := #[t, t] })
    (base : Nat) (e : TypeId) (i : TypeInfo) (size : Nat) (h1 : P.underlying t = some (.slice e)) (h2 : P.info? e = some i) (h4 : i.size = size)
    (g k cap : Nat) (xs : List Value) (hs : a.eval s = .slice (some ⟨g, 0, none⟩) k cap) (hown : w.ownsRow base e size (.slice (some ⟨g, 0, none⟩) k cap) k xs) (ad : Addr) (m c : Nat) (news : List Value) (hx : a.eval x = .slice (some ad) m c) (hn : news.length = m * size)
    (hc : ∀ j u, news[j]? = some u → w.cell? (ad.add j) = some u) (h1c : ∀ u ∈ news, u.oneCell' = true) (b1 : k + m ≤ cap)
    (hK : ∀ w', w'.ownsRow base e size (.slice (some ⟨g, 0, none⟩) (k + m) cap) (k + m) (xs ++ news) → w.grownBy w' (some g) → K (a.put o.dst (.slice (some ⟨g, 0, none⟩) (k + m) cap)) w') :
    if Region.wanted o (yielded ops a.tmps) = true then Oper.wp P o a w K Q else E := by
  have hw : Region.wanted o (yielded ops a.tmps) = true := by simp [Region.wanted, hgd]
  rw [if_pos hw]
  obtain ⟨w', hrun, r1, r2⟩ := run_append_fits (P := P) w base t o.type e i size h1 h2 h4 g k cap xs hown ad m c news hn hc h1c b1
  unfold Oper.wp
  simp [execOp, hop, resolve, invoke, builtin, hs, hx, hrun, Result.andThen]
  exact hK w' r1 r2
end Go.Proofs.YtehafggcncbnkaaGreat

namespace Go.Proofs.YtehafggcncbnkaaGreat
open Go.RowKit

set_option maxHeartbeats 400000 in
theorem within_c (lo hi : Int) (a : Option Addr) (len cap : Nat) (f : Nat → Int) (w : World) (hf : Ints w a len f) (hl : len ≤ 1048576) :
    Calls Tryz.prog 66 #[.int .i64 lo, .int .i64 hi, .slice a len cap] w fun e w' => e = .returned (.bool (withinB lo hi f len)) ∧ w = w' := by
  go_enter Tryz.func66, Tryz.ntmps66
  go_wp2
  go_loop [11] (fun i => ∃ k : Nat, k ≤ len ∧ i = .int .i64 k ∧ withinB lo hi f k = true) (fun i => len - (intOf i).toNat)
  case atStart => exact ⟨0, Nat.zero_le _, rfl, rfl⟩
  case round =>
    obtain ⟨k, hk, rfl, ho⟩ := hrel
    have Ho := Lib.hid ho
    clear ho
    by_cases hlt : k < len
    · obtain ⟨b, off, rfl, hbs, hc⟩ := Cells.at hf k hlt
      have hck := hc k hlt
      clear hc
      by_cases h1 : f k < lo
      · go_wp2
        go_ret
        exact ⟨ret_b (within_no lo hi f k len hlt (.inl h1)).symm, rfl⟩
      by_cases h2 : hi < f k
      · go_wp2
        go_ret
        exact ⟨ret_b (within_no lo hi f k len hlt (.inr h2)).symm, rfl⟩
      go_wp2
      go_round
      case rel => exact ⟨k + 1, by omega, by go_num, by simp only [withinB, Ho.out, Bool.true_and]; simp; omega⟩
      case measure => simp [intOf]; omega
    · go_wp2
      go_ret
      exact ⟨ret_b (by obtain rfl : k = len := by omega
                       exact Ho.out.symm), rfl⟩

set_option maxHeartbeats 400000 in
theorem withinI_c (lo hi : Int) (a : Option Addr) (len cap : Nat) (f : Nat → Int) (w : World) (hf : Ints w a len f) (hl : len ≤ 1048576) :
    Calls Tryz.prog 63 #[.int .i64 lo, .int .i64 hi, .slice a len cap] w fun e w' => e = .returned (.bool (withinB lo hi f len)) ∧ w = w' := by
  go_enter Tryz.func63, Tryz.ntmps63
  go_wp2
  go_loop [11] (fun i => ∃ k : Nat, k ≤ len ∧ i = .int .i64 k ∧ withinB lo hi f k = true) (fun i => len - (intOf i).toNat)
  case atStart => exact ⟨0, Nat.zero_le _, rfl, rfl⟩
  case round =>
    obtain ⟨k, hk, rfl, ho⟩ := hrel
    have Ho := Lib.hid ho
    clear ho
    by_cases hlt : k < len
    · obtain ⟨b, off, rfl, hbs, hc⟩ := Cells.at hf k hlt
      have hck := hc k hlt
      clear hc
      by_cases h1 : f k < lo
      · go_wp2
        go_ret
        exact ⟨ret_b (within_no lo hi f k len hlt (.inl h1)).symm, rfl⟩
      by_cases h2 : hi < f k
      · go_wp2
        go_ret
        exact ⟨ret_b (within_no lo hi f k len hlt (.inr h2)).symm, rfl⟩
      go_wp2
      go_round
      case rel => exact ⟨k + 1, by omega, by go_num, by simp only [withinB, Ho.out, Bool.true_and]; simp; omega⟩
      case measure => simp [intOf]; omega
    · go_wp2
      go_ret
      exact ⟨ret_b (by obtain rfl : k = len := by omega
                       exact Ho.out.symm), rfl⟩

set_option maxHeartbeats 400000 in
theorem divisor_c (a : Option Addr) (len cap : Nat) (f : Nat → Int) (w : World) (hf : Ints w a len f) (hl : len ≤ 1048576) (hb : ∀ i, i < len → -4611686018427387904 ≤ f i ∧ f i ≤ 4611686018427387904) :
    Calls Tryz.prog 92 #[.slice a len cap] w fun e w' => e = .returned (.int .i64 (divF f len)) ∧ ∃ q, w' = w.drewN q := by
  go_enter Tryz.func92, Tryz.ntmps92
  go_wp2
  go_loopw [3, 8] (fun d i wr => ∃ k : Nat, ∃ x : Int, ∃ q, k ≤ len ∧ i = .int .i64 k ∧ d = .int .i64 x ∧ x.natAbs = gcdF f k ∧ -4611686018427387904 ≤ x ∧ x ≤ 4611686018427387904 ∧ wr = w.drewN q) (fun _ i _ => len - (intOf i).toNat)
  case atStart => exact ⟨0, 0, 0, Nat.zero_le _, rfl, rfl, rfl, by omega, by omega, rfl⟩
  case round =>
    obtain ⟨k, x, q, hk, rfl, rfl, hg, hx, hx', rfl⟩ := hrel
    have Hg := Lib.hid hg
    clear hg
    by_cases hlt : k < len
    · obtain ⟨b, off, rfl, hbs, hc⟩ := Cells.at hf k hlt
      have hck := hc k hlt
      have hbk := hb k hlt
      clear hc hb
      go_wp2
      go_loopw [3, 5] (fun d n wr => ∃ y z : Int, ∃ q, d = .int .i64 y ∧ n = .int .i64 z ∧ Int.gcd y z = gcdF f (k + 1) ∧ -4611686018427387904 ≤ y ∧ y ≤ 4611686018427387904 ∧ -4611686018427387904 ≤ z ∧ z ≤ 4611686018427387904 ∧ wr = w.drewN q) (fun _ n _ => (intOf n).natAbs)
      case atStart => exact ⟨x, f k, q, rfl, rfl, by simp only [gcdF, ← Hg.out]; simp [Int.gcd], hx, hx', hbk.1, hbk.2, rfl⟩
      case round =>
        obtain ⟨y, z, q, rfl, rfl, hgg, hy, hy', hz, hz', rfl⟩ := hrel
        have HG := Lib.hid hgg
        clear hgg
        by_cases h0 : z = 0
        · subst h0
          go_wp2
          go_roundw
          case rel => exact ⟨k + 1, y, q, by omega, by go_num, rfl, by rw [← HG.out]; simp [Int.gcd], hy, hy', rfl⟩
          case measure => simp [intOf]; omega
        · have hzn : (z != 0) = true := by simpa using h0
          have hz0 : (z == 0) = false := by simpa using h0
          have hm1 : (y.tmod z).natAbs < z.natAbs := by rw [Int.natAbs_tmod]; exact Nat.mod_lt _ (by omega)
          have Hs := Lib.hid (gcd_tstep y z)
          go_wp2
          go_quiet (fail)
          go_wp2
          go_roundw
          case rel => exact ⟨z, y.tmod z, _, rfl, rfl, by rw [Hs.out, HG.out], hz, hz', by omega, by omega, drewN_drewN _ _ _⟩
          case measure => exact hm1
    · obtain rfl : k = len := by omega
      clear hb
      by_cases h0 : 1 < x
      · go_wp2
        go_ret
        exact ⟨ret_i (by unfold divF; rw [← Hg.out]; omega), q, rfl⟩
      by_cases h1 : x < -1
      · go_wp2
        go_ret
        exact ⟨ret_i (by unfold divF; rw [← Hg.out]; omega), q, rfl⟩
      by_cases h2 : x = 1
      · subst h2
        go_wp2
        go_ret
        exact ⟨ret_i (by unfold divF; rw [← Hg.out]; rfl), q, rfl⟩
      by_cases h3 : x = 0
      · subst h3
        go_wp2
        go_ret
        exact ⟨ret_i (by unfold divF; rw [← Hg.out]; rfl), q, rfl⟩
      obtain rfl : x = -1 := by omega
      go_wp2
      go_ret
      exact ⟨ret_i (by unfold divF; rw [← Hg.out]; rfl), q, rfl⟩

theorem divF_two (n d : Int) (hd : 0 < d) : divF (fun i => [n, d].getD i 0) 2 = Int.gcd n d := by
  have h := gcd_bd n d hd
  have : gcdF (fun i => [n, d].getD i 0) 2 = Int.gcd n d := by
    simp [gcdF, Int.gcd]
  unfold divF
  rw [this]
  omega

set_option maxHeartbeats 400000 in
theorem ratio_c (n d : Int) (w : World) (hn : -4611686018427387904 ≤ n) (hn' : n ≤ 4611686018427387904) (hd : 0 < d) (hd' : d ≤ 4611686018427387904) :
    Calls Tryz.prog 62 #[.int .i64 n, .int .i64 d] w fun e w' => e = .returned (ratV n d) ∧ Below w.heap.size w w' := by
  obtain ⟨g0, g1⟩ := gcd_bd n d hd
  have hD := divF_two n d hd
  unfold ratV ratN ratD
  obtain ⟨g, hG⟩ : ∃ g : Int, (Int.gcd n d : Int) = g := ⟨_, rfl⟩
  rw [hG] at g0 g1 hD ⊢
  have HD := Lib.hid hD
  clear hG hD
  have hi : Ints ((w.alloc (.cells #[.int .i64 0, .int .i64 0] 29)).alloc (.cells #[.int .i64 n, .int .i64 d] 2)) (some ⟨w.heap.size + 1, 0, none⟩) 2 (fun i => [n, d].getD i 0) := by
    have := ints_new (w.alloc (.cells #[.int .i64 0, .int .i64 0] 29)) 2 (0, 0) [n, d]
    rw [World.size_alloc] at this
    exact this
  by_cases h : 0 ≤ n
  all_goals
    go_enter Tryz.func62, Tryz.ntmps62
    go_wp2_with fail
    refine (divisor_c _ 2 2 (fun i => [n, d].getD i 0) _ hi (by omega) (fun i hi => ?_)).mono ?_
    · match i, hi with
      | 0, _ => exact ⟨hn, hn'⟩
      | 1, _ => exact ⟨by show _ ≤ d; omega, hd'⟩
    rintro e w' ⟨he, q, rfl⟩
    rw [HD.out] at he
    subst he
    clear hi
    go_wp2_with fail
    go_region
    all_goals
      go_wp2
      refine bodyPost_ret (v := .agg #[.int .i64 (n.tdiv g), .int .i64 (d / g)]) (by simp [results, Tryz.results62, go_sem, Int.tdiv_eq_ediv_of_nonneg, *]) rfl ⟨rfl, ?_⟩
      repeat (first | exact Below.refl _ _ | exact Nat.le_refl _ | (refine Below.setCell ?_ ?_ _) | (refine Below.drew ?_) | (refine below_drewN ?_ _) | (refine Below.alloc1 ?_ _ (Nat.le_refl _)))

end Go.Proofs.YtehafggcncbnkaaGreat

namespace Go.Proofs.YtehafggcncbnkaaGreat
open Go.RowKit

/-- Block b is a row of these cells. -/
abbrev RowIs (w : World) (b : Nat) (c : Array Value) (e : TypeId) : Prop := w.heap[b]? = some (.cells c e (0, 0))

theorem RowIs.cell {w : World} {b : Nat} {c : Array Value} {e : TypeId} (h : RowIs w b c e) (j : Nat) : w.cell? ⟨b, j, none⟩ = c[j]? := by
  simp [World.cell?, h]

theorem RowIs.frozen {w : World} {b : Nat} {c : Array Value} {e : TypeId} (h : RowIs w b c e) (j : Nat) : w.frozen? ⟨b, j, none⟩ = false := by
  simp [World.frozen?, h]

theorem RowIs.set {w : World} {b : Nat} {c : Array Value} {e : TypeId} (h : RowIs w b c e) (j : Nat) (v : Value) : RowIs (w.setCell ⟨b, j, none⟩ v) b (c.setIfInBounds j v) e := by
  simp only [RowIs, World.setCell, Array.getElem?_modify]
  simp only [RowIs] at h
  simp [h]

theorem RowIs.alloc {w : World} {b : Nat} {c : Array Value} {e : TypeId} (h : RowIs w b c e) (o : Obj) : RowIs (w.alloc o) b c e := by
  have hb := (Array.getElem?_eq_some_iff.1 h).1
  rw [RowIs, Below.heap_alloc _ _ _ hb]; exact h

theorem RowIs.drew {w : World} {b : Nat} {c : Array Value} {e : TypeId} (h : RowIs w b c e) : RowIs w.drew b c e := h

theorem grown_refl (w : World) (r : Option Nat) : w.grownBy w r := ⟨rfl, rfl, rfl, Nat.le_refl _, fun _ _ _ => rfl⟩
theorem grown_trans {a b c : World} {r : Option Nat} (h : a.grownBy b r) (k : b.grownBy c r) : a.grownBy c r :=
  ⟨k.os.trans h.os, k.tape.trans h.tape, k.output.trans h.output, Nat.le_trans h.size k.size, fun i hi hr => (k.block i (Nat.lt_of_lt_of_le hi h.size) hr).trans (h.block i hi hr)⟩
theorem grown_alloc {a b : World} {r : Option Nat} (h : a.grownBy b r) (o : Obj) : a.grownBy (b.alloc o) r :=
  grown_trans h ⟨rfl, rfl, rfl, by simp, fun k hk _ => Below.heap_alloc _ _ _ hk⟩
theorem grown_set {a b : World} {t : Nat} (h : a.grownBy b (some t)) (j : Nat) (v : Value) : a.grownBy (b.setCell ⟨t, j, none⟩ v) (some t) :=
  grown_trans h ⟨rfl, rfl, rfl, by simp [World.setCell], fun k _ hr => Below.heap_setCell _ _ _ _ (fun e => hr (by rw [e]))⟩
theorem grown_drew {a b : World} {r : Option Nat} (h : a.grownBy b r) : a.grownBy b.drew r := grown_trans h ⟨rfl, rfl, rfl, Nat.le_refl _, fun _ _ _ => rfl⟩
theorem grown_drewN {a b : World} {r : Option Nat} (h : a.grownBy b r) (n : Nat) : a.grownBy (b.drewN n) r := grown_trans h ⟨rfl, rfl, rfl, Nat.le_refl _, fun _ _ _ => rfl⟩

/-- What a mixture has, by columns. -/
def unitSum (u : Nat → U4) (f : Nat → Int) (n : Nat) (c : U4 → Int) : Int := sumF (fun i => f i * c (u i)) n

abbrev mixV (f : Nat → Int) : Value := .agg #[.int .i64 (f 0), .int .i64 (f 1), .int .i64 (f 2), .int .i64 (f 3), .int .i64 (f 4), .int .i64 (f 5)]
abbrev sumsA (u : Nat → U4) (f : Nat → Int) (n : Nat) : Array Value := #[.int .i64 (unitSum u f n (·.q)), .int .i64 (unitSum u f n (·.p)), .int .i64 (unitSum u f n (·.l)), .int .i64 (unitSum u f n (·.c))]

/-- Units of few metals, in range. -/
def Small (n : Nat) (u : Nat → U4) : Prop := n ≤ 6 ∧ ∀ i, i < n → (0 ≤ (u i).q ∧ (u i).q ≤ 1000) ∧ (0 ≤ (u i).p ∧ (u i).p ≤ 1000) ∧ (0 ≤ (u i).l ∧ (u i).l ≤ 1000) ∧ (0 ≤ (u i).c ∧ (u i).c ≤ 1000)

def partA (u : Nat → U4) (f : Nat → Int) (k c : Nat) : Array Value :=
  #[.int .i64 (unitSum u f (if 0 < c then k + 1 else k) (·.q)), .int .i64 (unitSum u f (if 1 < c then k + 1 else k) (·.p)), .int .i64 (unitSum u f (if 2 < c then k + 1 else k) (·.l)), .int .i64 (unitSum u f (if 3 < c then k + 1 else k) (·.c))]

theorem zero2 (w : World) : (zeroValue 2).run Tryz.prog w = .ok (.int .i64 0) w := by kernel_rfl

/-- Behind clear of four cells. -/
def wiped (w : World) (b : Nat) : World := (((w.setCell ⟨b, 0, none⟩ (.int .i64 0)).setCell ⟨b, 1, none⟩ (.int .i64 0)).setCell ⟨b, 2, none⟩ (.int .i64 0)).setCell ⟨b, 3, none⟩ (.int .i64 0)

set_option maxHeartbeats 400000 in
theorem clear4 (w : World) (tb : Nat) (c0 c1 c2 c3 : Value) (e : TypeId) (ht : RowIs w tb #[c0, c1, c2, c3] e) :
    (Builtin.clear_ #[25] 0 #[.slice (some ⟨tb, 0, none⟩) 4 4]).run Tryz.prog w = .ok (.tuple #[]) (wiped w tb) := by
  have k0 := ht.cell 0
  have k1 := ht.cell 1
  have k2 := ht.cell 2
  have k3 := ht.cell 3
  have z0 := ht.frozen 0
  have z1 := ht.frozen 1
  have z2 := ht.frozen 2
  have z3 := ht.frozen 3
  simp at k0 k1 k2 k3
  simp [Builtin.clear_, run_underlying Tryz.underlying25, go_sem, wiped, Value.cells, Result.andThen]
  rw [show (Builtin.zeroCells #[.int .i64 0] 4).toList = [.int .i64 0, .int .i64 0, .int .i64 0, .int .i64 0] by kernel_rfl]
  simp [go_sem, storeCells, k0, k1, k2, k3, z0, z1, z2, z3]

theorem wiped_row {w : World} {tb : Nat} {c0 c1 c2 c3 : Value} {e : TypeId} (h : RowIs w tb #[c0, c1, c2, c3] e) : RowIs (wiped w tb) tb #[.int .i64 0, .int .i64 0, .int .i64 0, .int .i64 0] e := by
  have := (((h.set 0 (.int .i64 0)).set 1 (.int .i64 0)).set 2 (.int .i64 0)).set 3 (.int .i64 0)
  simpa [wiped] using this

set_option maxRecDepth 100000 in
set_option maxHeartbeats 2000000 in
theorem weigh_c (a : Option Addr) (n cap tb : Nat) (u : Nat → U4) (f : Nat → Int) (c0 c1 c2 c3 : Value) (e : TypeId) (w : World) (hu : Units w a n u) (hS : Small n u) (hf : ∀ i, i < 6 → 0 ≤ f i ∧ f i ≤ 2147483648)
    (ht : RowIs w tb #[c0, c1, c2, c3] e) (ha : ∀ b off, a = some ⟨b, off, none⟩ → b ≠ tb) :
    Calls Tryz.prog 61 #[.agg #[.slice a n cap], mixV f, .pointer (some ⟨tb, 0, none⟩)] w fun r w' => r = .returned (.tuple #[]) ∧ RowIs w' tb (sumsA u f n) e ∧ w.grownBy w' (some tb) := by
  have hn := hS.1
  have htb := (Array.getElem?_eq_some_iff.1 ht).1
  go_enter Tryz.func61, Tryz.ntmps61
  have hrow := (ht.alloc (.cells #[.slice a n cap] 83)).alloc (.cells #[.int .i64 (f 0), .int .i64 (f 1), .int .i64 (f 2), .int .i64 (f 3), .int .i64 (f 4), .int .i64 (f 5)] 88)
  have Hrow := Lib.hid hrow
  clear hrow
  go_wp2_with fail
  rw [clear4 _ tb c0 c1 c2 c3 e Hrow.out]
  have hnb : w.heap.size ≠ tb := by omega
  have hnb1 : w.heap.size + 1 ≠ tb := by omega
  obtain ⟨w2, hw2⟩ : ∃ w2, wiped ((w.alloc (.cells #[.slice a n cap] 83)).alloc (.cells #[.int .i64 (f 0), .int .i64 (f 1), .int .i64 (f 2), .int .i64 (f 3), .int .i64 (f 4), .int .i64 (f 5)] 88)) tb = w2 := ⟨_, rfl⟩
  have hrow2 : RowIs w2 tb (sumsA u f 0) e := by rw [← hw2]; exact wiped_row Hrow.out
  have hg2 : w.grownBy w2 (some tb) := by
    rw [← hw2]
    exact grown_set (grown_set (grown_set (grown_set (grown_alloc (grown_alloc (grown_refl _ _) _) _) _ _) _ _) _ _) _ _
  have hz2 : w2.heap.size = w.heap.size + 2 := by rw [← hw2]; simp [wiped, World.setCell]
  have hbox : w2.cell? ⟨w.heap.size, 0, none⟩ = some (.slice a n cap) := by
    rw [← hw2]
    simp only [wiped]
    rw [World.cell?_setCell_far _ _ _ _ (Ne.symm hnb), World.cell?_setCell_far _ _ _ _ (Ne.symm hnb), World.cell?_setCell_far _ _ _ _ (Ne.symm hnb), World.cell?_setCell_far _ _ _ _ (Ne.symm hnb)]
    simp
  have hmix : ∀ k, k < 6 → w2.cell? ⟨w.heap.size + 1, k, none⟩ = some (.int .i64 (f k)) := by
    intro k hk
    rw [← hw2]
    simp only [wiped]
    rw [World.cell?_setCell_far _ _ _ _ (Ne.symm hnb1), World.cell?_setCell_far _ _ _ _ (Ne.symm hnb1), World.cell?_setCell_far _ _ _ _ (Ne.symm hnb1), World.cell?_setCell_far _ _ _ _ (Ne.symm hnb1)]
    match k, hk with
    | 0, _ => simp
    | 1, _ => simp
    | 2, _ => simp
    | 3, _ => simp
    | 4, _ => simp
    | 5, _ => simp
  rw [hw2]
  clear hw2 Hrow
  have Hrow2 := Lib.hid hrow2
  have Hg2 := Lib.hid hg2
  have Hmix := Lib.hid hmix
  have Hz2 := Lib.hid hz2
  clear hrow2 hmix hz2 hg2
  go_wp2_with fail
  go_loopw [16] (fun i wr => ∃ k : Nat, k ≤ n ∧ i = .int .i64 k ∧ RowIs wr tb (sumsA u f k) e ∧ w2.grownBy wr (some tb)) (fun i _ => n - (intOf i).toNat)
  case atStart => exact ⟨0, Nat.zero_le _, rfl, Hrow2.out, grown_refl _ _⟩
  case round =>
    obtain ⟨k, hk, rfl, hrow, hg⟩ := hrel
    have hgw := grown_trans Hg2.out hg
    by_cases hlt : k < n
    · obtain ⟨b, off, rfl, hbs, d0, d1, d2, d3⟩ := Units.at hu k hlt
      have hbt : b ≠ tb := ha b off rfl
      have hblk := hgw.block b hbs (by simpa using hbt)
      have q0 := (World.cell?_of_block (a := ⟨b, off + k * 4, none⟩) hblk).trans d0
      have q1 := (World.cell?_of_block (a := ⟨b, off + k * 4 + 1, none⟩) hblk).trans d1
      have q2 := (World.cell?_of_block (a := ⟨b, off + k * 4 + 2, none⟩) hblk).trans d2
      have q3 := (World.cell?_of_block (a := ⟨b, off + k * 4 + 3, none⟩) hblk).trans d3
      obtain ⟨hk0, hk1, hk2, hk3⟩ := hS.2 k hlt
      have hmk : wr.cell? ⟨w.heap.size + 1, k, none⟩ = some (.int .i64 (f k)) :=
        (World.cell?_of_block (a := ⟨w.heap.size + 1, k, none⟩) (hg.block (w.heap.size + 1) (by rw [Hz2.out]; omega) (by simpa using hnb1))).trans (Hmix.out k (by omega))
      have hzr := hg.size
      rw [Hz2.out] at hzr
      have hP : ∀ k, k ≤ 6 → ∀ c : U4 → Int, (∀ i, i < k → 0 ≤ c (u i) ∧ c (u i) ≤ 1000) → 0 ≤ unitSum u f k c ∧ unitSum u f k c ≤ 2147483648000 * k := fun k hk c hc => sumF_nn _ _ k fun i hi => by
        have h1 := hf i (by omega)
        have h2 := hc i hi
        have := mul_bd h1.1 h1.2 h2.1 h2.2
        omega
      have Hrow := Lib.hid hrow
      have Hgw := Lib.hid hgw
      have Hhg := Lib.hid hg
      clear hrow hgw hg hblk d0 d1 d2 d3 hbox
      go_wp2
      obtain ⟨wo, hwo⟩ : ∃ wo : World, (wr.alloc (.cells #[.int .i64 (u k).q, .int .i64 (u k).p, .int .i64 (u k).l, .int .i64 (u k).c] 92)) = wo := ⟨_, rfl⟩
      have ho1 : RowIs wo tb (sumsA u f k) e := by rw [← hwo]; exact Hrow.out.alloc _
      have ho2 : wr.grownBy wo (some tb) := by rw [← hwo]; exact grown_alloc (grown_refl _ _) _
      have ho3 : wo.cell? ⟨w.heap.size + 1, k, none⟩ = some (.int .i64 (f k)) := by
        rw [← hwo, World.cell?_alloc_lt _ _ _ (by show w.heap.size + 1 < wr.heap.size; omega)]; exact hmk
      have ho4 : wo.heap.size = wr.heap.size + 1 := by rw [← hwo]; simp
      rw [hwo]
      have Ho1 := Lib.hid ho1
      have Ho2 := Lib.hid ho2
      have Ho4 := Lib.hid ho4
      clear hwo ho1 ho2 ho4 hmk
      go_loopw [8, 9, 22] (fun _ _ c wi => ∃ j : Nat, j ≤ 4 ∧ c = .int .i64 j ∧ RowIs wi tb (partA u f k j) e ∧ wo.grownBy wi (some tb) ∧ wi.cell? ⟨w.heap.size + 1, k, none⟩ = some (.int .i64 (f k))) (fun _ _ c _ => 4 - (intOf c).toNat)
      case atStart => exact ⟨0, by omega, rfl, by simpa [partA] using Ho1.out, grown_refl _ _, ho3⟩
      case round =>
        obtain ⟨j, hj, rfl, hri, hgi, hki⟩ := hrel
        have hc : j = 0 ∨ j = 1 ∨ j = 2 ∨ j = 3 ∨ j = 4 := by omega
        clear ho3
        rcases hc with rfl | rfl | rfl | rfl | rfl
        · have hr : RowIs wr tb #[.int .i64 (unitSum u f k (·.q)), .int .i64 (unitSum u f k (·.p)), .int .i64 (unitSum u f k (·.l)), .int .i64 (unitSum u f k (·.c))] e := by simpa [partA] using hri
          have ix : ∀ w', (Instr.index 92 (.agg #[.int .i64 (u k).q, .int .i64 (u k).p, .int .i64 (u k).l, .int .i64 (u k).c]) (.int .i64 0)).run Tryz.prog w' = .ok (.int .i64 (u k).q) w' := fun _ => by kernel_rfl
          have t0 : wr.cell? ⟨tb, 0, none⟩ = some (.int .i64 (unitSum u f k (·.q))) := by rw [hr.cell 0]; rfl
          have t1 : wr.frozen? ⟨tb, 0, none⟩ = false := hr.frozen 0
          have hp := mul_bd (hf k (by omega)).1 (hf k (by omega)).2 hk0.1 hk0.2
          have hb := hP k (by omega) (·.q) (fun i hi => (hS.2 i (by omega)).1)
          have hw1 : IntKind.i64.wrap (f k * (u k).q) = f k * (u k).q := IntWalk.i64_in _ (by omega)
          have hw2 : IntKind.i64.wrap (unitSum u f k (·.q) + f k * (u k).q) = unitSum u f k (·.q) + f k * (u k).q := IntWalk.i64_in _ (by omega)
          have Hr := Lib.hid hr
          have HS := Lib.hid hS
          have HP := Lib.hid hP
          have HF := Lib.hid hf
          clear hr hri hS hP hf
          go_wp2
          go_region
          all_goals
            go_wp2
            go_roundw
            case rel => exact ⟨1, by omega, rfl, by simpa [partA, unitSum, sumF] using (Hr.out.set 0 (.int .i64 (unitSum u f k (·.q) + f k * (u k).q))).drew, grown_drew (grown_set hgi _ _), (World.cell?_setCell_far wr ⟨tb, 0, none⟩ ⟨w.heap.size + 1, k, none⟩ _ (Ne.symm hnb1)).trans hki⟩
            case measure => simp [intOf]
        · have hr : RowIs wr tb #[.int .i64 (unitSum u f (k + 1) (·.q)), .int .i64 (unitSum u f k (·.p)), .int .i64 (unitSum u f k (·.l)), .int .i64 (unitSum u f k (·.c))] e := by simpa [partA] using hri
          have ix : ∀ w', (Instr.index 92 (.agg #[.int .i64 (u k).q, .int .i64 (u k).p, .int .i64 (u k).l, .int .i64 (u k).c]) (.int .i64 1)).run Tryz.prog w' = .ok (.int .i64 (u k).p) w' := fun _ => by kernel_rfl
          have t0 : wr.cell? ⟨tb, 1, none⟩ = some (.int .i64 (unitSum u f k (·.p))) := by rw [hr.cell 1]; rfl
          have t1 : wr.frozen? ⟨tb, 1, none⟩ = false := hr.frozen 1
          have hp := mul_bd (hf k (by omega)).1 (hf k (by omega)).2 hk1.1 hk1.2
          have hb := hP k (by omega) (·.p) (fun i hi => (hS.2 i (by omega)).2.1)
          have hw1 : IntKind.i64.wrap (f k * (u k).p) = f k * (u k).p := IntWalk.i64_in _ (by omega)
          have hw2 : IntKind.i64.wrap (unitSum u f k (·.p) + f k * (u k).p) = unitSum u f k (·.p) + f k * (u k).p := IntWalk.i64_in _ (by omega)
          have Hr := Lib.hid hr
          have HS := Lib.hid hS
          have HP := Lib.hid hP
          have HF := Lib.hid hf
          clear hr hri hS hP hf
          go_wp2
          go_region
          all_goals
            go_wp2
            go_roundw
            case rel => exact ⟨2, by omega, rfl, by simpa [partA, unitSum, sumF] using (Hr.out.set 1 (.int .i64 (unitSum u f k (·.p) + f k * (u k).p))).drew, grown_drew (grown_set hgi _ _), (World.cell?_setCell_far wr ⟨tb, 1, none⟩ ⟨w.heap.size + 1, k, none⟩ _ (Ne.symm hnb1)).trans hki⟩
            case measure => simp [intOf]
        · have hr : RowIs wr tb #[.int .i64 (unitSum u f (k + 1) (·.q)), .int .i64 (unitSum u f (k + 1) (·.p)), .int .i64 (unitSum u f k (·.l)), .int .i64 (unitSum u f k (·.c))] e := by simpa [partA] using hri
          have ix : ∀ w', (Instr.index 92 (.agg #[.int .i64 (u k).q, .int .i64 (u k).p, .int .i64 (u k).l, .int .i64 (u k).c]) (.int .i64 2)).run Tryz.prog w' = .ok (.int .i64 (u k).l) w' := fun _ => by kernel_rfl
          have t0 : wr.cell? ⟨tb, 2, none⟩ = some (.int .i64 (unitSum u f k (·.l))) := by rw [hr.cell 2]; rfl
          have t1 : wr.frozen? ⟨tb, 2, none⟩ = false := hr.frozen 2
          have hp := mul_bd (hf k (by omega)).1 (hf k (by omega)).2 hk2.1 hk2.2
          have hb := hP k (by omega) (·.l) (fun i hi => (hS.2 i (by omega)).2.2.1)
          have hw1 : IntKind.i64.wrap (f k * (u k).l) = f k * (u k).l := IntWalk.i64_in _ (by omega)
          have hw2 : IntKind.i64.wrap (unitSum u f k (·.l) + f k * (u k).l) = unitSum u f k (·.l) + f k * (u k).l := IntWalk.i64_in _ (by omega)
          have Hr := Lib.hid hr
          have HS := Lib.hid hS
          have HP := Lib.hid hP
          have HF := Lib.hid hf
          clear hr hri hS hP hf
          go_wp2
          go_region
          all_goals
            go_wp2
            go_roundw
            case rel => exact ⟨3, by omega, rfl, by simpa [partA, unitSum, sumF] using (Hr.out.set 2 (.int .i64 (unitSum u f k (·.l) + f k * (u k).l))).drew, grown_drew (grown_set hgi _ _), (World.cell?_setCell_far wr ⟨tb, 2, none⟩ ⟨w.heap.size + 1, k, none⟩ _ (Ne.symm hnb1)).trans hki⟩
            case measure => simp [intOf]
        · have hr : RowIs wr tb #[.int .i64 (unitSum u f (k + 1) (·.q)), .int .i64 (unitSum u f (k + 1) (·.p)), .int .i64 (unitSum u f (k + 1) (·.l)), .int .i64 (unitSum u f k (·.c))] e := by simpa [partA] using hri
          have ix : ∀ w', (Instr.index 92 (.agg #[.int .i64 (u k).q, .int .i64 (u k).p, .int .i64 (u k).l, .int .i64 (u k).c]) (.int .i64 3)).run Tryz.prog w' = .ok (.int .i64 (u k).c) w' := fun _ => by kernel_rfl
          have t0 : wr.cell? ⟨tb, 3, none⟩ = some (.int .i64 (unitSum u f k (·.c))) := by rw [hr.cell 3]; rfl
          have t1 : wr.frozen? ⟨tb, 3, none⟩ = false := hr.frozen 3
          have hp := mul_bd (hf k (by omega)).1 (hf k (by omega)).2 hk3.1 hk3.2
          have hb := hP k (by omega) (·.c) (fun i hi => (hS.2 i (by omega)).2.2.2)
          have hw1 : IntKind.i64.wrap (f k * (u k).c) = f k * (u k).c := IntWalk.i64_in _ (by omega)
          have hw2 : IntKind.i64.wrap (unitSum u f k (·.c) + f k * (u k).c) = unitSum u f k (·.c) + f k * (u k).c := IntWalk.i64_in _ (by omega)
          have Hr := Lib.hid hr
          have HS := Lib.hid hS
          have HP := Lib.hid hP
          have HF := Lib.hid hf
          clear hr hri hS hP hf
          go_wp2
          go_region
          all_goals
            go_wp2
            go_roundw
            case rel => exact ⟨4, by omega, rfl, by simpa [partA, unitSum, sumF] using (Hr.out.set 3 (.int .i64 (unitSum u f k (·.c) + f k * (u k).c))).drew, grown_drew (grown_set hgi _ _), (World.cell?_setCell_far wr ⟨tb, 3, none⟩ ⟨w.heap.size + 1, k, none⟩ _ (Ne.symm hnb1)).trans hki⟩
            case measure => simp [intOf]
        · have hr : RowIs wr tb (sumsA u f (k + 1)) e := by simpa [partA] using hri
          have Hr := Lib.hid hr
          clear hr hri
          go_wp2
          go_roundw
          case rel => exact ⟨k + 1, by omega, by go_num, Hr.out, grown_trans (grown_trans Hhg.out Ho2.out) hgi⟩
          case measure => simp [intOf]; omega
    · obtain rfl : k = n := by omega
      go_wp2
      go_end0
      exact ⟨rfl, hrow, hgw⟩

end Go.Proofs.YtehafggcncbnkaaGreat
