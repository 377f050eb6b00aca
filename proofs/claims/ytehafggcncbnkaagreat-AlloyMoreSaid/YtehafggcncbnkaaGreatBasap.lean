/- What the best one of a list is, by an order. It imports nothing of the program but words. -/
import Derived.Test.YtehafggcncbnkaaGreatBasaj
import Derived.Test.YtehafggcncbnkaaGreatBasaa
import Derived.Test.YtehafggcncbnkaaGreatBasak
import Derived.Test.YtehafggcncbnkaaGreatBasal
import Derived.Test.YtehafggcncbnkaaGreatBasan
import Derived.Test.YtehafggcncbnkaaGreatBasao
namespace Go.Proofs.YtehafggcncbnkaaGreat
open Go Go.RowKit

/-- 'lt' puts the members of S in an order, but for ties. -/
structure Order {α : Type} (S : α → Prop) (lt : α → α → Bool) : Prop where
  irrefl : ∀ x, S x → lt x x = false
  asymm : ∀ x y, S x → S y → lt x y = true → lt y x = false
  ntrans : ∀ x y z, S x → S y → S z → lt x y = false → lt y z = false → lt x z = false

theorem foldS_max {α : Type} {S : α → Prop} {lt : α → α → Bool} (hO : Order S lt) : ∀ (l : List α) (y : α), S y → (∀ x ∈ l, S x) → ∀ z, l.foldl (bestStep lt) (some y) = some z → lt y z = false ∧ (∀ x ∈ l, lt x z = false) ∧ (z = y ∨ z ∈ l)
  | [], y, hy, _, z, h => by
    simp only [List.foldl_nil, Option.some.injEq] at h
    subst h
    exact ⟨hO.irrefl _ hy, fun x hx => by simp at hx, .inl rfl⟩
  | x :: r, y, hy, hl, z, h => by
    have hx : S x := hl x (by simp)
    have hr : ∀ x ∈ r, S x := fun x hx => hl x (by simp [hx])
    rw [List.foldl_cons] at h
    cases hlt : lt x y with
    | true =>
      simp only [bestStep, hlt, if_true] at h
      obtain ⟨h1, h2, h3⟩ := foldS_max hO r x hx hr z h
      have hz : S z := by
        rcases h3 with h3 | h3
        · rw [h3]; exact hx
        · exact hr z h3
      refine ⟨hO.ntrans y x z hy hx hz (hO.asymm x y hx hy hlt) h1, fun x' hx' => ?_, ?_⟩
      · rcases List.mem_cons.1 hx' with e | e
        · rw [e]; exact h1
        · exact h2 x' e
      · rcases h3 with h3 | h3
        · exact .inr (by simp [h3])
        · exact .inr (by simp [h3])
    | false =>
      simp only [bestStep, hlt] at h
      obtain ⟨h1, h2, h3⟩ := foldS_max hO r y hy hr z (by simpa using h)
      have hz : S z := by
        rcases h3 with h3 | h3
        · rw [h3]; exact hy
        · exact hr z h3
      refine ⟨h1, fun x' hx' => ?_, ?_⟩
      · rcases List.mem_cons.1 hx' with e | e
        · rw [e]; exact hO.ntrans x y z hx hy hz hlt h1
        · exact h2 x' e
      · rcases h3 with h3 | h3
        · exact .inl h3
        · exact .inr (by simp [h3])

/-- None of a list is better than its best. -/
theorem bestS_max {α : Type} {S : α → Prop} {lt : α → α → Bool} (hO : Order S lt) {l : List α} (hl : ∀ x ∈ l, S x) {z : α} (h : bestS lt l = some z) : z ∈ l ∧ ∀ x ∈ l, lt x z = false := by
  cases l with
  | nil => cases h
  | cons y r =>
    have h' : r.foldl (bestStep lt) (some y) = some z := h
    obtain ⟨h1, h2, h3⟩ := foldS_max hO r y (hl y (by simp)) (fun x hx => hl x (by simp [hx])) z h'
    refine ⟨?_, fun x hx => ?_⟩
    · rcases h3 with h3 | h3
      · simp [h3]
      · simp [h3]
    · rcases List.mem_cons.1 hx with e | e
      · rw [e]; exact h1
      · exact h2 x e

theorem bestS_none {α : Type} {lt : α → α → Bool} {l : List α} (h : bestS lt l = none) : l = [] := by
  cases l with
  | nil => rfl
  | cons y r =>
    exfalso
    have : ∀ (r : List α) (y : α), (r.foldl (bestStep lt) (some y)).isSome = true := by
      intro r
      induction r with
      | nil => intro y; rfl
      | cons x r ih =>
        intro y
        rw [List.foldl_cons]
        simp only [bestStep]
        split
        · exact ih x
        · exact ih y
    have h2 := this r y
    have h3 : r.foldl (bestStep lt) (some y) = none := h
    rw [h3] at h2
    cases h2

end Go.Proofs.YtehafggcncbnkaaGreat

namespace Go.Proofs.YtehafggcncbnkaaGreat
open Go Go.RowKit

theorem none_den {n : Nat} {u : Nat → U4} {p : P4} (h : noneB (facU p) (rowsU n u) (n + 3) = true) : 0 ≤ p.d ∧ 0 ≤ p.l ∧ 0 ≤ p.c := by
  have key : ∀ k, k < n + 3 → dotR (facU p) (rowsU n u k) ≤ 0 := fun k hk => by
    by_cases hp : 0 < dotR (facU p) (rowsU n u k)
    · have := noneB_no (facU p) (rowsU n u) k (n + 3) hk hp
      rw [this] at h
      cases h
    · omega
  have k0 := key n (by omega)
  have k1 := key (n + 1) (by omega)
  have k2 := key (n + 2) (by omega)
  have r0 : rowsU n u n = ⟨0, 1, 0, 0⟩ := by unfold rowsU; rw [if_neg (Nat.lt_irrefl n), if_pos rfl]
  have r1 : rowsU n u (n + 1) = ⟨0, 0, 1, 0⟩ := by unfold rowsU; rw [if_neg (by omega), if_neg (by omega), if_pos rfl]
  have r2 : rowsU n u (n + 2) = ⟨0, 0, 0, -1⟩ := by unfold rowsU; rw [if_neg (by omega), if_neg (by omega), if_neg (by omega)]
  rw [r0] at k0
  rw [r1] at k1
  rw [r2] at k2
  simp [dotR, facU] at k0 k1 k2
  omega

theorem costLt_order (l c : Int) : Order (fun p : P4 => 0 < p.d) (costLt l c) where
  irrefl x _ := by simp [costLt]
  asymm x y _ _ h := by
    simp only [costLt, decide_eq_true_eq, decide_eq_false_iff_not] at *
    omega
  ntrans x y z hx hy hz h1 h2 := by
    simp only [costLt, decide_eq_false_iff_not, Int.not_lt] at *
    have e1 := Int.mul_le_mul_of_nonneg_right h1 (Int.le_of_lt hz)
    have e2 := Int.mul_le_mul_of_nonneg_right h2 (Int.le_of_lt hx)
    have f1 : valueR l c x * y.d * z.d = (valueR l c x * z.d) * y.d := by rw [Int.mul_assoc, Int.mul_assoc, Int.mul_comm y.d]
    have f2 : valueR l c y * x.d * z.d = valueR l c y * z.d * x.d := by rw [Int.mul_assoc, Int.mul_assoc, Int.mul_comm x.d]
    have f3 : valueR l c z * y.d * x.d = (valueR l c z * x.d) * y.d := by rw [Int.mul_assoc, Int.mul_assoc, Int.mul_comm y.d]
    rw [f1, f2] at e1
    rw [f3] at e2
    exact Int.le_of_mul_le_mul_right (Int.le_trans e1 e2) hy

theorem neverLt_order (l c : Int) (S : P4 → Prop) : Order S (neverLt l c) where
  irrefl x _ := by simp [neverLt]
  asymm x y _ _ h := by
    simp only [neverLt, decide_eq_true_eq, decide_eq_false_iff_not] at *
    omega
  ntrans x y z _ _ _ h1 h2 := by
    simp only [neverLt, decide_eq_false_iff_not] at *
    omega

theorem bestP_max {S : P4 → Prop} {lt : P4 → P4 → Bool} (hO : Order S lt) {l : List P4} (hl : ∀ x, x ∈ l ↔ S x) (hne : ∃ p, S p) : S (bestP lt l) ∧ ∀ x, S x → lt x (bestP lt l) = false := by
  cases h : bestS lt l with
  | none =>
    obtain ⟨p, hp⟩ := hne
    have h1 := bestS_none h
    rw [h1] at hl
    exact absurd ((hl p).2 hp) (by simp)
  | some z =>
    obtain ⟨h1, h2⟩ := bestS_max hO (fun x hx => (hl x).1 hx) h
    have e : bestP lt l = z := by simp [bestP, h]
    rw [e]
    exact ⟨(hl z).1 h1, fun x hx => h2 x ((hl x).2 hx)⟩

end Go.Proofs.YtehafggcncbnkaaGreat

namespace Go.Proofs.YtehafggcncbnkaaGreat
open Go Go.RowKit

/-- The proofs that hold, of those of which all others are made. -/
def holdL (n : Nat) (u : Nat → U4) (P : P4 → Bool) : List P4 := (prfL (n + 3) (rowsU n u) (triL (n + 3)).length).filter fun p => noneB (facU p) (rowsU n u) (n + 3) && P p

theorem mem_cost (n : Nat) (u : Nat → U4) (p : P4) : p ∈ holdL n u (fun p => p.d != 0) ↔ costS n u p := by
  unfold holdL costS prfS
  rw [List.mem_filter]
  simp [and_assoc]

theorem mem_never (n : Nat) (u : Nat → U4) (p : P4) : p ∈ holdL n u (fun p => p.d == 0) ↔ neverS n u p := by
  unfold holdL neverS prfS
  rw [List.mem_filter]
  simp [and_assoc]

set_option maxRecDepth 100000
theorem x_costs : ((holdL 4 (potU true fourM) (fun p => p.d != 0)).all fun p => (holdL 4 (potU true fourM) (fun p => p.d != 0)).any (fun q => costLt 100 10 q p) || decide (checkProofR 4 fourM 100 10 true p = (3959, 55, 0))) = true := by kernel_rfl
theorem x_nevers : ((holdL 2 (potU true twoM) (fun p => p.d == 0)).all fun p => (holdL 2 (potU true twoM) (fun p => p.d == 0)).any (fun q => neverLt 100 10 q p) || decide (checkNeverE 2 twoM 100 10 true p = 0)) = true := by kernel_rfl
theorem x_costs_some : (holdL 4 (potU true fourM) (fun p => p.d != 0)).isEmpty = false := by kernel_rfl
theorem x_nevers_some : (holdL 2 (potU true twoM) (fun p => p.d == 0)).isEmpty = false := by kernel_rfl

theorem some_of {α : Type} {l : List α} (h : l.isEmpty = false) : ∃ x, x ∈ l := by
  cases l with
  | nil => cases h
  | cons x r => exact ⟨x, by simp⟩

theorem x_cost_ne : ∃ p, costS 4 (potU true fourM) p := (some_of x_costs_some).imp fun p hp => (mem_cost _ _ p).1 hp
theorem x_never_ne : ∃ p, neverS 2 (potU true twoM) p := (some_of x_nevers_some).imp fun p hp => (mem_never _ _ p).1 hp

theorem x_proof {L : List P4} (hL : ∀ p, p ∈ L ↔ costS 4 (potU true fourM) p) : checkProofR 4 fourM 100 10 true (bestP (costLt 100 10) L) = (3959, 55, 0) := by
  have hO : Order (costS 4 (potU true fourM)) (costLt 100 10) := by
    have h := costLt_order 100 10
    have hp : ∀ p, costS 4 (potU true fourM) p → 0 < p.d := fun p hp => by
      have := none_den hp.1.2
      have := hp.2
      omega
    exact ⟨fun x hx => h.irrefl x (hp x hx), fun x y hx hy => h.asymm x y (hp x hx) (hp y hy), fun x y z hx hy hz => h.ntrans x y z (hp x hx) (hp y hy) (hp z hz)⟩
  obtain ⟨h1, h2⟩ := bestP_max hO hL x_cost_ne
  have h := List.all_eq_true.1 x_costs _ ((mem_cost _ _ _).2 h1)
  simp only [Bool.or_eq_true, List.any_eq_true, decide_eq_true_eq] at h
  rcases h with ⟨q, hq, hlt⟩ | h
  · rw [h2 q ((mem_cost _ _ q).1 hq)] at hlt
    cases hlt
  · exact h

theorem x_never {L : List P4} (hL : ∀ p, p ∈ L ↔ neverS 2 (potU true twoM) p) : checkNeverE 2 twoM 100 10 true (bestP (neverLt 100 10) L) = 0 := by
  obtain ⟨h1, h2⟩ := bestP_max (neverLt_order 100 10 _) hL x_never_ne
  have h := List.all_eq_true.1 x_nevers _ ((mem_never _ _ _).2 h1)
  simp only [Bool.or_eq_true, List.any_eq_true, decide_eq_true_eq] at h
  rcases h with ⟨q, hq, hlt⟩ | h
  · rw [h2 q ((mem_never _ _ q).1 hq)] at hlt
    cases hlt
  · exact h

end Go.Proofs.YtehafggcncbnkaaGreat
