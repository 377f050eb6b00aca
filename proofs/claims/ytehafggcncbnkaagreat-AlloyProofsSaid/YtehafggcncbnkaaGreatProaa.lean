/- Plain mathematics: the edges of the document's own answer, and that the corners are among them, but for a factor. It uses nothing of the program but words. -/
import Derived.Test.YtehafggcncbnkaaGreatBasaa
import Derived.Test.YtehafggcncbnkaaGreatBasar
import Derived.Test.YtehafggcncbnkaaGreatBasau
import Derived.Test.YtehafggcncbnkaaGreatBasas
import Derived.WalkKit
import Derived.Test.YtehafggcncbnkaaGreatProg
import Derived.Test.YtehafggcncbnkaaGreatBasai
import Derived.Test.YtehafggcncbnkaaGreatBasak
import Derived.Test.YtehafggcncbnkaaGreatBasao
namespace Go.Proofs.YtehafggcncbnkaaGreat
open Go Go.RowKit

/-- Some parts of a mixture, without their signs. -/
def putK (a : Nat → Nat) (p : Nat → Int) : Nat → Nat → Int
  | 0 => fun _ => 0
  | i + 1 => upd (putK a p i) (a i) (max (p i) (-(p i)))
def lowK (p : Nat → Int) : Nat → Int
  | 0 => 0
  | i + 1 => min (lowK p i) (p i)
def highK (p : Nat → Int) : Nat → Int
  | 0 => 0
  | i + 1 => max (highK p i) (p i)
/-- Parts of both signs, or none. -/
def putB (p : Nat → Int) (k : Nat) : Bool := decide ((lowK p k < 0 ∧ 0 < highK p k) ∨ (lowK p k = 0 ∧ highK p k = 0))
def putR (a : Nat → Nat) (p : Nat → Int) (k : Nat) : Option (Nat → Int) := if putB p k then none else some (putK a p k)
def pick3 {α : Type} (x y z : α) : Nat → α
  | 0 => x
  | 1 => y
  | _ => z
def spL (s : Bool) (l : Int) (q : M5) : Int := bad s q - l
def spC (s : Bool) (c : Int) (q : M5) : Int := c - good s q
/-- The mixtures that are gone through. -/
def edge1 (i : Nat) : Option (Nat → Int) := putR (pick3 i i i) (pick3 1 1 1) 1
def edge2 (i k : Nat) (x y : Int) : Option (Nat → Int) := putR (pick3 i k k) (pick3 x (-y) (-y)) 2
def edge3 (i k j : Nat) (li ci lk ck lj cj : Int) : Option (Nat → Int) := putR (pick3 i k j) (pick3 (lk * cj - ck * lj) (lj * ci - cj * li) (li * ck - ci * lk)) 3
def edgeJ (L C : Nat → Int) (i k j : Nat) : Option (Nat → Int) := edge3 i k j (L i) (C i) (L k) (C k) (L j) (C j)
def edgesJ (L C : Nat → Int) (i k : Nat) : Nat → List (Option (Nat → Int))
  | 0 => []
  | j + 1 => edgesJ L C i k j ++ [edgeJ L C i k j]
def edgesK (L C : Nat → Int) (i : Nat) : Nat → List (Option (Nat → Int))
  | 0 => []
  | k + 1 => (edgesK L C i k ++ [edge2 i k (L k) (L i), edge2 i k (C k) (C i)]) ++ edgesJ L C i k k
def edgesI (L C : Nat → Int) : Nat → List (Option (Nat → Int))
  | 0 => []
  | i + 1 => (edgesI L C i ++ [edge1 i]) ++ edgesK L C i i
def goodO (s : Bool) (n : Nat) (m : Nat → M5) (l c : Int) : Option (Nat → Int) → List (Nat → Int)
  | none => []
  | some f => if goodB s n m l c f then [f] else []
def edgeO (s : Bool) (n : Nat) (m : Nat → M5) (l c : Int) : List (Option (Nat → Int)) → List (Nat → Int)
  | [] => []
  | o :: r => goodO s n m l c o ++ edgeO s n m l c r
def edgesA (n : Nat) (m : Nat → M5) (l c : Int) (s : Bool) : List (Option (Nat → Int)) := edgesI (fun i => spL s l (m i)) (fun i => spC s c (m i)) n
def edgeL (n : Nat) (m : Nat → M5) (l c : Int) (s : Bool) : List (Nat → Int) := edgeO s n m l c (edgesA n m l c s)

theorem edgeO_snoc (s : Bool) (n : Nat) (m : Nat → M5) (l c : Int) (o : Option (Nat → Int)) : ∀ r, edgeO s n m l c (r ++ [o]) = edgeO s n m l c r ++ goodO s n m l c o
  | [] => by simp [edgeO]
  | x :: r => by simp [edgeO, edgeO_snoc s n m l c o r]
theorem mem_edgeO {s : Bool} {n : Nat} {m : Nat → M5} {l c : Int} {f : Nat → Int} : ∀ {r : List (Option (Nat → Int))}, f ∈ edgeO s n m l c r ↔ some f ∈ r ∧ goodB s n m l c f = true
  | [] => by simp [edgeO]
  | o :: r => by
    simp only [edgeO, List.mem_append, mem_edgeO (r := r), List.mem_cons]
    cases o with
    | none => simp [goodO]
    | some g =>
      simp only [goodO, Option.some.injEq]
      by_cases e : goodB s n m l c g = true
      · rw [if_pos e]
        constructor
        · rintro (h | h)
          · rw [List.mem_singleton] at h
            subst h
            exact ⟨.inl rfl, e⟩
          · exact ⟨.inr h.1, h.2⟩
        · rintro ⟨h | h, h2⟩
          · subst h
            exact .inl (List.mem_singleton.2 rfl)
          · exact .inr ⟨h, h2⟩
      · rw [if_neg e]
        constructor
        · rintro (h | h)
          · simp at h
          · exact ⟨.inr h.1, h.2⟩
        · rintro ⟨h | h, h2⟩
          · subst h
            exact absurd h2 e
          · exact .inr ⟨h, h2⟩

/-- What is gone through. -/
inductive IsEdge (L C : Nat → Int) (n : Nat) : Option (Nat → Int) → Prop
  | one (i : Nat) (hi : i < n) : IsEdge L C n (edge1 i)
  | lead (i k : Nat) (hk : k < i) (hi : i < n) : IsEdge L C n (edge2 i k (L k) (L i))
  | copper (i k : Nat) (hk : k < i) (hi : i < n) : IsEdge L C n (edge2 i k (C k) (C i))
  | three (i k j : Nat) (hj : j < k) (hk : k < i) (hi : i < n) : IsEdge L C n (edgeJ L C i k j)
theorem mem_edgesJ {L C : Nat → Int} {i k : Nat} {o : Option (Nat → Int)} : ∀ {j}, o ∈ edgesJ L C i k j ↔ ∃ x, x < j ∧ o = edgeJ L C i k x
  | 0 => by simp [edgesJ]
  | j + 1 => by
    simp only [edgesJ, List.mem_append, mem_edgesJ (j := j), List.mem_singleton]
    constructor
    · rintro (⟨x, h, e⟩ | e)
      · exact ⟨x, by omega, e⟩
      · exact ⟨j, by omega, e⟩
    · rintro ⟨x, h, e⟩
      by_cases hx : x = j
      · subst hx; exact .inr e
      · exact .inl ⟨x, by omega, e⟩
theorem mem_edgesK {L C : Nat → Int} {i : Nat} {o : Option (Nat → Int)} : ∀ {k}, o ∈ edgesK L C i k ↔ ∃ y, y < k ∧ (o = edge2 i y (L y) (L i) ∨ o = edge2 i y (C y) (C i) ∨ ∃ x, x < y ∧ o = edgeJ L C i y x)
  | 0 => by simp [edgesK]
  | k + 1 => by
    simp only [edgesK, List.mem_append, mem_edgesK (k := k), mem_edgesJ, List.mem_cons, List.not_mem_nil, or_false]
    constructor
    · rintro ((⟨y, h, e⟩ | e | e) | ⟨x, h, e⟩)
      · exact ⟨y, by omega, e⟩
      · exact ⟨k, by omega, .inl e⟩
      · exact ⟨k, by omega, .inr (.inl e)⟩
      · exact ⟨k, by omega, .inr (.inr ⟨x, h, e⟩)⟩
    · rintro ⟨y, h, e⟩
      by_cases hy : y = k
      · subst hy
        rcases e with e | e | e
        · exact .inl (.inr (.inl e))
        · exact .inl (.inr (.inr e))
        · exact .inr e
      · exact .inl (.inl ⟨y, by omega, e⟩)
theorem mem_edgesI {L C : Nat → Int} {o : Option (Nat → Int)} : ∀ {n}, o ∈ edgesI L C n ↔ IsEdge L C n o
  | 0 => by
    simp only [edgesI, List.not_mem_nil, false_iff]
    intro h
    cases h <;> omega
  | n + 1 => by
    simp only [edgesI, List.mem_append, mem_edgesI (n := n), mem_edgesK, List.mem_singleton]
    constructor
    · rintro ((h | e) | ⟨y, hy, e | e | ⟨x, hx, e⟩⟩)
      · cases h with
        | one i hi => exact .one i (by omega)
        | lead i k hk hi => exact .lead i k hk (by omega)
        | copper i k hk hi => exact .copper i k hk (by omega)
        | three i k j hj hk hi => exact .three i k j hj hk (by omega)
      · subst e; exact .one n (by omega)
      · subst e; exact .lead n y hy (by omega)
      · subst e; exact .copper n y hy (by omega)
      · subst e; exact .three n y x hx hy (by omega)
    · intro h
      cases h with
      | one i hi =>
        by_cases e : i = n
        · subst e; exact .inl (.inr rfl)
        · exact .inl (.inl (.one i (by omega)))
      | lead i k hk hi =>
        by_cases e : i = n
        · subst e; exact .inr ⟨k, hk, .inl rfl⟩
        · exact .inl (.inl (.lead i k hk (by omega)))
      | copper i k hk hi =>
        by_cases e : i = n
        · subst e; exact .inr ⟨k, hk, .inr (.inl rfl)⟩
        · exact .inl (.inl (.copper i k hk (by omega)))
      | three i k j hj hk hi =>
        by_cases e : i = n
        · subst e; exact .inr ⟨k, hk, .inr (.inr ⟨j, hj, rfl⟩)⟩
        · exact .inl (.inl (.three i k j hj hk (by omega)))

theorem low_le0 (p : Nat → Int) : ∀ k, lowK p k ≤ 0
  | 0 => Int.le_refl _
  | k + 1 => by have := low_le0 p k; simp only [lowK]; omega
theorem high_ge0 (p : Nat → Int) : ∀ k, 0 ≤ highK p k
  | 0 => Int.le_refl _
  | k + 1 => by have := high_ge0 p k; simp only [highK]; omega
theorem low_lt {p : Nat → Int} {t : Nat} : ∀ {k}, t < k → lowK p k ≤ p t
  | 0, h => by omega
  | k + 1, h => by
    simp only [lowK]
    by_cases e : t = k
    · subst e; omega
    · have := low_lt (p := p) (t := t) (k := k) (by omega); omega
theorem high_gt {p : Nat → Int} {t : Nat} : ∀ {k}, t < k → p t ≤ highK p k
  | 0, h => by omega
  | k + 1, h => by
    simp only [highK]
    by_cases e : t = k
    · subst e; omega
    · have := high_gt (p := p) (t := t) (k := k) (by omega); omega
theorem low_zero {p : Nat → Int} : ∀ {k}, (∀ t, t < k → 0 ≤ p t) → lowK p k = 0
  | 0, _ => rfl
  | k + 1, h => by
    have h1 := low_zero (p := p) (k := k) fun t ht => h t (by omega)
    have h2 := h k (by omega)
    simp only [lowK]; omega
theorem high_zero {p : Nat → Int} : ∀ {k}, (∀ t, t < k → p t ≤ 0) → highK p k = 0
  | 0, _ => rfl
  | k + 1, h => by
    have h1 := high_zero (p := p) (k := k) fun t ht => h t (by omega)
    have h2 := h k (by omega)
    simp only [highK]; omega
theorem putB_up {p : Nat → Int} {k t : Nat} (h : ∀ t, t < k → 0 ≤ p t) (ht : t < k) (hp : 0 < p t) : putB p k = false := by
  have h1 := low_zero h
  have h2 := high_gt (p := p) ht
  exact decide_eq_false (by omega)
theorem putB_down {p : Nat → Int} {k t : Nat} (h : ∀ t, t < k → p t ≤ 0) (ht : t < k) (hp : p t < 0) : putB p k = false := by
  have h1 := high_zero h
  have h2 := low_lt (p := p) ht
  exact decide_eq_false (by omega)
theorem putB_some {p : Nat → Int} {k : Nat} (h : putB p k = false) : ∃ t, t < k ∧ p t ≠ 0 := by
  have h0 := of_decide_eq_false h
  by_cases e : ∃ t, t < k ∧ p t ≠ 0
  · exact e
  · have h1 : ∀ t, t < k → p t = 0 := fun t ht => by
      by_cases h2 : p t = 0
      · exact h2
      · exact absurd ⟨t, ht, h2⟩ e
    have h2 := low_zero (p := p) (k := k) fun t ht => by have := h1 t ht; omega
    have h3 := high_zero (p := p) (k := k) fun t ht => by have := h1 t ht; omega
    omega
theorem putK_bd {a : Nat → Nat} {p : Nat → Int} {B : Int} (hB : 0 ≤ B) : ∀ {k}, (∀ t, t < k → -B ≤ p t ∧ p t ≤ B) → ∀ x, 0 ≤ putK a p k x ∧ putK a p k x ≤ B
  | 0, _, x => by simp [putK, hB]
  | k + 1, h, x => by
    have h1 := putK_bd (a := a) (p := p) hB (k := k) (fun t ht => h t (by omega)) x
    have h2 := h k (by omega)
    simp only [putK, upd]
    split <;> omega
theorem putK_at {a : Nat → Nat} {p : Nat → Int} {t : Nat} : ∀ {k}, (∀ i j, i < k → j < k → a i = a j → i = j) → t < k → putK a p k (a t) = max (p t) (-(p t))
  | 0, _, h => by omega
  | k + 1, ha, h => by
    simp only [putK, upd]
    by_cases e : t = k
    · subst e; rw [if_pos rfl]
    · rw [if_neg fun h2 => e (ha t k h (by omega) h2)]
      exact putK_at (fun i j hi hj => ha i j (by omega) (by omega)) (by omega)
theorem sum_pos {f : Nat → Int} {n x : Nat} (h : ∀ i, i < n → 0 ≤ f i) (hx : x < n) (hp : 0 < f x) : 0 < sumF f n := by
  have h1 := sumF_nonneg h
  by_cases e : sumF f n = 0
  · have := sumZ_all h e x hx
    omega
  · omega
theorem put_good {a : Nat → Nat} {p : Nat → Int} {k n : Nat} {f : Nat → Int} {B : Int} (hB : 0 ≤ B) (h : putR a p k = some f) (hp : ∀ t, t < k → -B ≤ p t ∧ p t ≤ B) (ha : ∀ i j, i < k → j < k → a i = a j → i = j) (hn : ∀ i, i < k → a i < n) :
    (∀ x, 0 ≤ f x ∧ f x ≤ B) ∧ 0 < sumF f n := by
  unfold putR at h
  split at h
  · cases h
  · rename_i hb
    cases h
    have h1 := putK_bd (a := a) hB hp
    obtain ⟨t, ht, hpt⟩ := putB_some (by simpa using hb)
    refine ⟨h1, sum_pos (fun i _ => (h1 i).1) (hn t ht) ?_⟩
    rw [putK_at ha ht]
    omega

def Spare (L C : Nat → Int) (n : Nat) : Prop := ∀ i, i < n → (-1000 ≤ L i ∧ L i ≤ 1000) ∧ (-1000 ≤ C i ∧ C i ≤ 1000)
theorem edge_good {L C : Nat → Int} {n : Nat} (hS : Spare L C n) {f : Nat → Int} (h : IsEdge L C n (some f)) : (∀ x, 0 ≤ f x ∧ f x ≤ 2000000) ∧ 0 < sumF f n := by
  generalize e : some f = o at h
  cases h with
  | one i hi =>
    refine put_good (B := 2000000) (by omega) e.symm (fun t _ => ?_) (fun a b ha hb _ => by omega) fun a _ => ?_
    · unfold pick3; split <;> omega
    · unfold pick3; split <;> exact hi
  | lead i k hk hi =>
    have h1 := hS i hi
    have h2 := hS k (by omega)
    refine put_good (B := 2000000) (by omega) e.symm (fun t _ => ?_) (fun a b ha hb => ?_) fun a _ => ?_
    · unfold pick3; split <;> omega
    · have ha' : a = 0 ∨ a = 1 := by omega
      have hb' : b = 0 ∨ b = 1 := by omega
      intro h
      rcases ha' with rfl | rfl <;> rcases hb' with rfl | rfl <;> first | rfl | (simp only [pick3] at h; omega)
    · unfold pick3; split <;> omega
  | copper i k hk hi =>
    have h1 := hS i hi
    have h2 := hS k (by omega)
    refine put_good (B := 2000000) (by omega) e.symm (fun t _ => ?_) (fun a b ha hb => ?_) fun a _ => ?_
    · unfold pick3; split <;> omega
    · have ha' : a = 0 ∨ a = 1 := by omega
      have hb' : b = 0 ∨ b = 1 := by omega
      intro h
      rcases ha' with rfl | rfl <;> rcases hb' with rfl | rfl <;> first | rfl | (simp only [pick3] at h; omega)
    · unfold pick3; split <;> omega
  | three i k j hj hk hi =>
    have h1 := hS i hi
    have h2 := hS k (by omega)
    have h3 := hS j (by omega)
    have a1 := mul_k h2.1 h3.2
    have a2 := mul_k h2.2 h3.1
    have a3 := mul_k h3.1 h1.2
    have a4 := mul_k h3.2 h1.1
    have a5 := mul_k h1.1 h2.2
    have a6 := mul_k h1.2 h2.1
    refine put_good (B := 2000000) (by omega) e.symm (fun t _ => ?_) (fun a b ha hb => ?_) fun a _ => ?_
    · unfold pick3; split <;> omega
    · have ha' : a = 0 ∨ a = 1 ∨ a = 2 := by omega
      have hb' : b = 0 ∨ b = 1 ∨ b = 2 := by omega
      intro h
      rcases ha' with rfl | rfl | rfl <;> rcases hb' with rfl | rfl | rfl <;> first | rfl | (simp only [pick3] at h; omega)
    · unfold pick3; split <;> omega

theorem abs_part {p D : Int} (hp : 0 ≤ p) : max (p * D) (-(p * D)) = max D (-D) * p := by
  by_cases h : 0 ≤ D
  · have h1 := Int.mul_nonneg hp h
    rw [show max D (-D) = D by omega, Int.mul_comm D p]
    omega
  · have h1 := Int.mul_nonneg hp (show 0 ≤ -D by omega)
    rw [Int.mul_neg] at h1
    rw [show max D (-D) = -D by omega, Int.neg_mul, Int.mul_comm D p]
    omega
theorem part_sign {p D : Int} (hp : 0 ≤ p) (hD : 0 ≤ D) : 0 ≤ p * D := Int.mul_nonneg hp hD
theorem part_pos {p D : Int} (hp : 0 ≤ p) (hn : p ≠ 0) (hD : 0 < D) : 0 < p * D := Int.mul_pos (by omega) hD
theorem part_neg {p D : Int} (hp : 0 ≤ p) (hD : D ≤ 0) : p * D ≤ 0 := by
  have := Int.mul_nonneg hp (show 0 ≤ -D by omega)
  rw [Int.mul_neg] at this
  omega
theorem part_low {p D : Int} (hp : 0 ≤ p) (hn : p ≠ 0) (hD : D < 0) : p * D < 0 := by
  have := Int.mul_pos (show 0 < p by omega) (show 0 < -D by omega)
  rw [Int.mul_neg] at this
  omega
/-- Parts of one sign, not all 0, are not put away. -/
theorem put_sign {p : Nat → Int} {k t : Nat} {q : Nat → Int} {D : Int} (hD : D ≠ 0) (hq : ∀ t, t < k → 0 ≤ q t) (e : ∀ t, t < k → p t = q t * D) (ht : t < k) (hn : q t ≠ 0) : putB p k = false := by
  by_cases h : 0 < D
  · refine putB_up (t := t) (fun x hx => ?_) ht ?_
    · rw [e x hx]; exact part_sign (hq x hx) (by omega)
    · rw [e t ht]; exact part_pos (hq t ht) hn h
  · refine putB_down (t := t) (fun x hx => ?_) ht ?_
    · rw [e x hx]; exact part_neg (hq x hx) (by omega)
    · rw [e t ht]; exact part_low (hq t ht) hn (by omega)

/-- Each corner is an edge, but for a factor. -/
theorem corner_edge {n : Nat} {m : Nat → M5} {l c : Int} {s : Bool} (hn : n ≤ 6) (hF : Fine n m) (ht : 0 ≤ l ∧ l ≤ 1000 ∧ 0 ≤ c ∧ c ≤ 1000) {f : Nat → Int} (hf : f ∈ potL n m l c s) :
    ∃ F, F ∈ edgeL n m l c s ∧ ∃ d : Int, 0 < d ∧ ∀ x, x < n → F x = d * f x := by
  have hgm := pot_good hF ht hf
  have hg := corner_good hf
  obtain ⟨v1, v2⟩ := room_none n (potU s m) l c
  obtain ⟨i, j, k, hij, hjk, hk, hb, rfl⟩ := mem_corn hf
  obtain ⟨p0, p1, p2⟩ := cornB_parts hb
  obtain ⟨e0, e1, e2⟩ := parts_cross (r := roomF n (potU s m) l c) (i := i) (j := j) (k := k)
  have hne := evenD_ne (roomF n (potU s m) l c i) (roomF n (potU s m) l c j) (roomF n (potU s m) l c k)
  have h3 := fun x (hx : x < n) => mix_three (r := roomF n (potU s m) l c) (t := (i, j, k)) hij hjk hx
  have hex : ∃ x, x < n ∧ mixOf n (roomF n (potU s m) l c) (i, j, k) x ≠ 0 := by
    by_cases e : ∃ x, x < n ∧ mixOf n (roomF n (potU s m) l c) (i, j, k) x ≠ 0
    · exact e
    · have : sumF (mixOf n (roomF n (potU s m) l c) (i, j, k)) n = 0 := sumZ fun x hx => by
        by_cases h2 : mixOf n (roomF n (potU s m) l c) (i, j, k) x = 0
        · exact h2
        · exact absurd ⟨x, hx, h2⟩ e
      have := hgm.2.2
      omega
  have hr : ∀ x, x < n → roomF n (potU s m) l c x = (-(spL s l (m x)), -(spC s c (m x))) := fun x hx => by
    unfold roomF spL spC potU unitOf bad good
    rw [if_pos hx]
    cases s <;> simp <;> omega
  have fin : ∀ F, IsEdge (fun i => spL s l (m i)) (fun i => spC s c (m i)) n (some F) → ∀ d : Int, 0 < d → (∀ x, x < n → F x = d * mixOf n (roomF n (potU s m) l c) (i, j, k) x) →
      ∃ F, F ∈ edgeL n m l c s ∧ ∃ d : Int, 0 < d ∧ ∀ x, x < n → F x = d * mixOf n (roomF n (potU s m) l c) (i, j, k) x := fun F hE d hd hx => by
    refine ⟨F, mem_edgeO.2 ⟨mem_edgesI.2 hE, ?_⟩, d, hd, hx⟩
    have : goodB s n m l c F = goodB s n m l c (fun x => d * mixOf n (roomF n (potU s m) l c) (i, j, k) x) := by
      unfold goodB leadF copperF
      rw [sumC fun i hi => by rw [hx i hi], sumC (f := fun i => F i * good s (m i)) fun i hi => by rw [hx i hi], sumC (f := F) hx]
    rw [this, good_times hd]
    exact hg
  obtain ⟨q0, hq0⟩ : ∃ q, partsOf (roomF n (potU s m) l c) (i, j, k) 0 = q := ⟨_, rfl⟩
  obtain ⟨q1, hq1⟩ : ∃ q, partsOf (roomF n (potU s m) l c) (i, j, k) 1 = q := ⟨_, rfl⟩
  obtain ⟨q2, hq2⟩ : ∃ q, partsOf (roomF n (potU s m) l c) (i, j, k) 2 = q := ⟨_, rfl⟩
  obtain ⟨D, hD⟩ : ∃ D, evenD (roomF n (potU s m) l c i) (roomF n (potU s m) l c j) (roomF n (potU s m) l c k) = D := ⟨_, rfl⟩
  rw [hq0, hD] at e0
  rw [hq1, hD] at e1
  rw [hq2, hD] at e2
  rw [hq0] at p0
  rw [hq1] at p1
  rw [hq2] at p2
  rw [hD] at hne
  rw [hq0, hq1, hq2] at h3
  have hd : 0 < max D (-D) := by omega
  obtain ⟨x, hx, hxn⟩ := hex
  rw [h3 x hx] at hxn
  unfold three at hxn
  simp only at hxn
  clear hq0 hq1 hq2 hD hgm hg hf hb
  by_cases k1 : k < n
  · rw [hr j (by omega), hr k k1] at e0
    rw [hr k k1, hr i (by omega)] at e1
    rw [hr i (by omega), hr j (by omega)] at e2
    unfold crossR at e0 e1 e2
    simp only at e0 e1 e2
    have hB : putB (pick3 (spL s l (m j) * spC s c (m i) - spC s c (m j) * spL s l (m i)) (spL s l (m i) * spC s c (m k) - spC s c (m i) * spL s l (m k)) (spL s l (m k) * spC s c (m j) - spC s c (m k) * spL s l (m j))) 3 = false := by
      have key : ∀ t, t < 3 → pick3 (spL s l (m j) * spC s c (m i) - spC s c (m j) * spL s l (m i)) (spL s l (m i) * spC s c (m k) - spC s c (m i) * spL s l (m k)) (spL s l (m k) * spC s c (m j) - spC s c (m k) * spL s l (m j)) t = pick3 q2 q1 q0 t * (-D) := fun t ht => by
        have : t = 0 ∨ t = 1 ∨ t = 2 := by omega
        rcases this with rfl | rfl | rfl <;> simp only [pick3] <;> grind
      have hq : ∀ t, t < 3 → 0 ≤ pick3 q2 q1 q0 t := fun t _ => by unfold pick3; split <;> assumption
      by_cases x1 : x = i
      · rw [if_pos x1] at hxn
        exact put_sign (t := 2) (by omega) hq key (by omega) hxn
      · by_cases x2 : x = j
        · rw [if_neg x1, if_pos x2] at hxn
          exact put_sign (t := 1) (by omega) hq key (by omega) hxn
        · by_cases x3 : x = k
          · rw [if_neg x1, if_neg x2, if_pos x3] at hxn
            exact put_sign (t := 0) (by omega) hq key (by omega) hxn
          · rw [if_neg x1, if_neg x2, if_neg x3] at hxn
            exact absurd rfl hxn
    have hE := IsEdge.three (L := fun i => spL s l (m i)) (C := fun i => spC s c (m i)) (n := n) k j i hij hjk k1
    unfold edgeJ edge3 putR at hE
    rw [hB] at hE
    simp only [Bool.false_eq_true, if_false] at hE
    refine fin _ hE (max D (-D)) hd fun y hy => ?_
    rw [h3 y hy]
    simp only [putK, upd, pick3, three]
    have a0 := abs_part (D := D) p0
    have a1 := abs_part (D := D) p1
    have a2 := abs_part (D := D) p2
    by_cases y1 : y = i
    · rw [if_pos y1, if_pos y1, ← a0, show spL s l (m k) * spC s c (m j) - spC s c (m k) * spL s l (m j) = -(q0 * D) by grind]
      omega
    · rw [if_neg y1, if_neg y1]
      by_cases y2 : y = j
      · rw [if_pos y2, if_pos y2, ← a1, show spL s l (m i) * spC s c (m k) - spC s c (m i) * spL s l (m k) = -(q1 * D) by grind]
        omega
      · rw [if_neg y2, if_neg y2]
        by_cases y3 : y = k
        · rw [if_pos y3, if_pos y3, ← a2, show spL s l (m j) * spC s c (m i) - spC s c (m j) * spL s l (m i) = -(q2 * D) by grind]
          omega
        · rw [if_neg y3, if_neg y3, Int.mul_zero]
  · by_cases j1 : j < n
    · by_cases k2 : k = n
      · subst k2
        rw [hr j j1, v1] at e0
        rw [hr i (by omega), v1] at e1
        unfold crossR at e0 e1
        simp only at e0 e1
        have hB : putB (pick3 (spC s c (m i)) (-(spC s c (m j))) (-(spC s c (m j)))) 2 = false := by
          have key : ∀ t, t < 2 → pick3 (spC s c (m i)) (-(spC s c (m j))) (-(spC s c (m j))) t = pick3 q1 q0 q0 t * D := fun t ht => by
            have : t = 0 ∨ t = 1 := by omega
            rcases this with rfl | rfl <;> simp only [pick3] <;> omega
          have hq : ∀ t, t < 2 → 0 ≤ pick3 q1 q0 q0 t := fun t _ => by unfold pick3; split <;> assumption
          by_cases x1 : x = i
          · rw [if_pos x1] at hxn
            exact put_sign (t := 1) hne hq key (by omega) hxn
          · by_cases x2 : x = j
            · rw [if_neg x1, if_pos x2] at hxn
              exact put_sign (t := 0) hne hq key (by omega) hxn
            · rw [if_neg x1, if_neg x2, if_neg (by omega)] at hxn
              exact absurd rfl hxn
        have hE := IsEdge.copper (L := fun i => spL s l (m i)) (C := fun i => spC s c (m i)) (n := k) j i hij j1
        unfold edge2 putR at hE
        rw [hB] at hE
        simp only [Bool.false_eq_true, if_false] at hE
        refine fin _ hE (max D (-D)) hd fun y hy => ?_
        rw [h3 y hy]
        simp only [putK, upd, pick3, three]
        have a0 := abs_part (D := D) p0
        have a1 := abs_part (D := D) p1
        by_cases y1 : y = i
        · rw [if_pos y1, if_pos y1, ← a0, show spC s c (m j) = -(q0 * D) by omega]
          omega
        · rw [if_neg y1, if_neg y1]
          by_cases y2 : y = j
          · rw [if_pos y2, if_pos y2, ← a1, show spC s c (m i) = q1 * D by omega]
          · rw [if_neg y2, if_neg y2, if_neg (by omega), Int.mul_zero]
      · obtain rfl : k = n + 1 := by omega
        rw [hr j j1, v2] at e0
        rw [hr i (by omega), v2] at e1
        unfold crossR at e0 e1
        simp only at e0 e1
        have hB : putB (pick3 (spL s l (m i)) (-(spL s l (m j))) (-(spL s l (m j)))) 2 = false := by
          have key : ∀ t, t < 2 → pick3 (spL s l (m i)) (-(spL s l (m j))) (-(spL s l (m j))) t = pick3 q1 q0 q0 t * (-D) := fun t ht => by
            have : t = 0 ∨ t = 1 := by omega
            rcases this with rfl | rfl <;> simp only [pick3, Int.mul_neg] <;> omega
          have hq : ∀ t, t < 2 → 0 ≤ pick3 q1 q0 q0 t := fun t _ => by unfold pick3; split <;> assumption
          by_cases x1 : x = i
          · rw [if_pos x1] at hxn
            exact put_sign (t := 1) (by omega) hq key (by omega) hxn
          · by_cases x2 : x = j
            · rw [if_neg x1, if_pos x2] at hxn
              exact put_sign (t := 0) (by omega) hq key (by omega) hxn
            · rw [if_neg x1, if_neg x2, if_neg (by omega)] at hxn
              exact absurd rfl hxn
        have hE := IsEdge.lead (L := fun i => spL s l (m i)) (C := fun i => spC s c (m i)) (n := n) j i hij j1
        unfold edge2 putR at hE
        rw [hB] at hE
        simp only [Bool.false_eq_true, if_false] at hE
        refine fin _ hE (max D (-D)) hd fun y hy => ?_
        rw [h3 y hy]
        simp only [putK, upd, pick3, three]
        have a0 := abs_part (D := D) p0
        have a1 := abs_part (D := D) p1
        by_cases y1 : y = i
        · rw [if_pos y1, if_pos y1, ← a0, show spL s l (m j) = q0 * D by omega]
          omega
        · rw [if_neg y1, if_neg y1]
          by_cases y2 : y = j
          · rw [if_pos y2, if_pos y2, ← a1, show spL s l (m i) = -(q1 * D) by omega]
            omega
          · rw [if_neg y2, if_neg y2, if_neg (by omega), Int.mul_zero]
    · obtain rfl : j = n := by omega
      obtain rfl : k = j + 1 := by omega
      rw [v1, v2] at e0
      unfold crossR at e0
      simp only at e0
      have hB : putB (pick3 1 1 1) 1 = false := by decide
      have hE := IsEdge.one (L := fun i => spL s l (m i)) (C := fun i => spC s c (m i)) (n := j) i hij
      unfold edge1 putR at hE
      rw [hB] at hE
      simp only [Bool.false_eq_true, if_false] at hE
      refine fin _ hE (max D (-D)) hd fun y hy => ?_
      rw [h3 y hy]
      simp only [putK, upd, pick3, three]
      have a0 := abs_part (D := D) p0
      by_cases y1 : y = i
      · rw [if_pos y1, if_pos y1, ← a0]
        omega
      · rw [if_neg y1, if_neg y1, if_neg (by omega), if_neg (by omega), Int.mul_zero]

end Go.Proofs.YtehafggcncbnkaaGreat

namespace Go.Proofs.YtehafggcncbnkaaGreat
open Go Go.RowKit

def minV (v : Nat → Int × Int) : Nat → Int × Int
  | 0 => v 0
  | k + 1 => if ltB (v k).1 (v k).2 (minV v k).1 (minV v k).2 then v k else minV v k
def maxV (v : Nat → Int × Int) : Nat → Int × Int
  | 0 => v 0
  | k + 1 => if ltB (maxV v k).1 (maxV v k).2 (v k).1 (v k).2 then v k else maxV v k
abbrev fracV (N D : Nat → Int) (i : Nat) : Int × Int := (ratN (N i) (D i), ratD (N i) (D i))

theorem frac_trans {a b c d e f : Int} (hd : 0 < d) (hb : 0 < b) (hf : 0 < f) (h1 : a * d ≤ c * b) (h2 : c * f ≤ e * d) : a * f ≤ e * b := by
  have h3 := Int.mul_le_mul_of_nonneg_right h1 (Int.le_of_lt hf)
  have h4 := Int.mul_le_mul_of_nonneg_right h2 (Int.le_of_lt hb)
  have h5 : (a * f) * d ≤ (e * b) * d := by grind
  exact Int.le_of_mul_le_mul_right h5 hd
theorem minV_spec {N D : Nat → Int} {K : Nat} (hD : ∀ i, i < K → 0 < D i) (h0 : 0 < K) : ∀ k, k ≤ K → ∃ b, b < K ∧ minV (fracV N D) k = fracV N D b ∧ ∀ x, x < k → N b * D x ≤ N x * D b
  | 0, _ => ⟨0, h0, rfl, fun x hx => by omega⟩
  | k + 1, hk => by
    obtain ⟨b, hb, e, h⟩ := minV_spec (N := N) hD h0 k (by omega)
    have e1 := ltB_rat (n := N k) (d := D k) (n' := N b) (d' := D b) (hD k (by omega)) (hD b hb)
    simp only [minV, e]
    rw [e1]
    by_cases hlt : N k * D b < N b * D k
    · rw [decide_eq_true hlt]
      refine ⟨k, by omega, rfl, fun x hx => ?_⟩
      by_cases ex : x = k
      · subst ex; exact Int.le_refl _
      · exact frac_trans (hD b hb) (hD k (by omega)) (hD x (by omega)) (Int.le_of_lt hlt) (h x (by omega))
    · rw [decide_eq_false hlt]
      refine ⟨b, hb, rfl, fun x hx => ?_⟩
      by_cases ex : x = k
      · subst ex; omega
      · exact h x (by omega)
theorem maxV_spec {N D : Nat → Int} {K : Nat} (hD : ∀ i, i < K → 0 < D i) (h0 : 0 < K) : ∀ k, k ≤ K → ∃ b, b < K ∧ maxV (fracV N D) k = fracV N D b ∧ ∀ x, x < k → N x * D b ≤ N b * D x
  | 0, _ => ⟨0, h0, rfl, fun x hx => by omega⟩
  | k + 1, hk => by
    obtain ⟨b, hb, e, h⟩ := maxV_spec (N := N) hD h0 k (by omega)
    have e1 := ltB_rat (n := N b) (d := D b) (n' := N k) (d' := D k) (hD b hb) (hD k (by omega))
    simp only [maxV, e]
    rw [e1]
    by_cases hlt : N b * D k < N k * D b
    · rw [decide_eq_true hlt]
      refine ⟨k, by omega, rfl, fun x hx => ?_⟩
      by_cases ex : x = k
      · subst ex; exact Int.le_refl _
      · exact frac_trans (hD b hb) (hD x (by omega)) (hD k (by omega)) (h x (by omega)) (Int.le_of_lt hlt)
    · rw [decide_eq_false hlt]
      refine ⟨b, hb, rfl, fun x hx => ?_⟩
      by_cases ex : x = k
      · subst ex; omega
      · exact h x (by omega)

def edgeF (n : Nat) (m : Nat → M5) (l c : Int) (s : Bool) (i : Nat) : Nat → Int := (edgeL n m l c s).getD i fun _ => 0
theorem edgeF_mem {n : Nat} {m : Nat → M5} {l c : Int} {s : Bool} {i : Nat} (h : i < (edgeL n m l c s).length) : edgeF n m l c s i ∈ edgeL n m l c s := by
  have e : edgeF n m l c s i = (edgeL n m l c s)[i] := by simp [edgeF, List.getD, h]
  rw [e]
  exact List.getElem_mem h
theorem mem_edgeF {n : Nat} {m : Nat → M5} {l c : Int} {s : Bool} {F : Nat → Int} (h : F ∈ edgeL n m l c s) : ∃ i, i < (edgeL n m l c s).length ∧ edgeF n m l c s i = F := by
  obtain ⟨i, hi, e⟩ := List.getElem_of_mem h
  exact ⟨i, hi, by rw [← e]; simp [edgeF, List.getD, hi]⟩
theorem spare_fine {n : Nat} {m : Nat → M5} {l c : Int} (hF : Fine n m) (ht : 0 ≤ l ∧ l ≤ 1000 ∧ 0 ≤ c ∧ c ≤ 1000) (s : Bool) : Spare (fun i => spL s l (m i)) (fun i => spC s c (m i)) n := fun i hi => by
  have := hF.2.2 i hi
  unfold spL spC bad good
  cases s <;> simp <;> omega
theorem edge_is {n : Nat} {m : Nat → M5} {l c : Int} (hF : Fine n m) (ht : 0 ≤ l ∧ l ≤ 1000 ∧ 0 ≤ c ∧ c ≤ 1000) {s : Bool} {F : Nat → Int} (h : F ∈ edgeL n m l c s) : (∀ x, 0 ≤ F x ∧ F x ≤ 2000000) ∧ 0 < sumF F n ∧ goodB s n m l c F = true := by
  obtain ⟨h1, h2⟩ := mem_edgeO.1 h
  have h3 := edge_good (spare_fine hF ht s) (mem_edgesI.1 h1)
  exact ⟨h3.1, h3.2, h2⟩
theorem scaled_sums {n : Nat} {F f : Nat → Int} {d : Int} (h : ∀ x, x < n → F x = d * f x) (g : Nat → Int) : sumF (fun i => F i * g i) n = d * sumF (fun i => f i * g i) n ∧ sumF F n = d * sumF f n := by
  constructor
  · rw [← sum_times]
    exact sumC fun i hi => by rw [h i hi]
  · rw [← sumF_times]
    exact sumC h
theorem edges_none {n : Nat} {m : Nat → M5} {l c : Int} (hF : Fine n m) (ht : 0 ≤ l ∧ l ≤ 1000 ∧ 0 ≤ c ∧ c ≤ 1000) {s : Bool} (h : Nil n m l c s) : edgeL n m l c s = [] := by
  cases e : edgeL n m l c s with
  | nil => rfl
  | cons F r =>
    obtain ⟨h1, h2, h3⟩ := edge_is hF ht (s := s) (F := F) (by rw [e]; exact List.mem_cons_self)
    have := h F (fun i _ => (h1 i).1) h2
    rw [h3] at this
    cases this

abbrev edgeCost (n : Nat) (m : Nat → M5) (l c : Int) (s : Bool) : Nat → Int × Int := fracV (fun i => priceF m (edgeF n m l c s i) n) (fun i => sumF (edgeF n m l c s i) n)
abbrev edgeShare (n : Nat) (m : Nat → M5) (l c : Int) (s : Bool) (k : Nat) : Nat → Int × Int := fracV (fun i => edgeF n m l c s i k) (fun i => sumF (edgeF n m l c s i) n)

theorem edge_least {n : Nat} {m : Nat → M5} {l c : Int} (hb : bothE n m l c = 0) (s : Bool) :
    (edgeL n m l c s = [] ∧ leastR n m l c s = (0, 0, 17) ∧ Nil n m l c s) ∨
    (0 < (edgeL n m l c s).length ∧ leastR n m l c s = ((minV (edgeCost n m l c s) (edgeL n m l c s).length).1, (minV (edgeCost n m l c s) (edgeL n m l c s).length).2, 0) ∧ ∃ f, bestS (cheapB n m s) (potL n m l c s) = some f ∧ Low n m l c s f ∧ leastR n m l c s = ((costOf n m f).1, (costOf n m f).2, 0)) := by
  obtain ⟨hM, ht⟩ := both_ok hb
  have hF := fine_of hM
  rcases least_cases hb s with ⟨h1, _, h3⟩ | ⟨f, h0, h1, h3⟩
  · exact .inl ⟨edges_none hF ht h3, h1, h3⟩
  · obtain ⟨hfm, _⟩ := least_some hF ht h0
    obtain ⟨F, hFm, d, hd, hFd⟩ := corner_edge hF.2.1 hF ht hfm
    obtain ⟨t, htl, htF⟩ := mem_edgeF hFm
    have hK : 0 < (edgeL n m l c s).length := by omega
    obtain ⟨b, hbl, e, hmin⟩ := minV_spec (N := fun i => priceF m (edgeF n m l c s i) n) (D := fun i => sumF (edgeF n m l c s i) n) (K := (edgeL n m l c s).length) (fun i hi => (edge_is hF ht (edgeF_mem hi)).2.1) hK _ (Nat.le_refl _)
    refine .inr ⟨hK, ?_, f, h0, h3, h1⟩
    rw [e, h1]
    have h4 := hmin t htl
    simp only [htF] at h4
    obtain ⟨s1, s2⟩ := scaled_sums hFd (fun i => (m i).p)
    have s1' : priceF m F n = d * priceF m f n := s1
    rw [s1', s2] at h4
    obtain ⟨g1, g2, g3⟩ := edge_is hF ht (edgeF_mem hbl)
    have h5 := h3.low _ (fun i _ => (g1 i).1) g3
    have h6 : priceF m (edgeF n m l c s b) n * sumF f n ≤ priceF m f n * sumF (edgeF n m l c s b) n := by
      have : d * (priceF m (edgeF n m l c s b) n * sumF f n) ≤ d * (priceF m f n * sumF (edgeF n m l c s b) n) := by grind
      exact Int.le_of_mul_le_mul_left this hd
    obtain ⟨r1, r2⟩ := rat_same (n := priceF m f n) (d := sumF f n) (n' := priceF m (edgeF n m l c s b) n) (d' := sumF (edgeF n m l c s b) n) h3.mix.2.2 g2 (Int.le_antisymm h5 h6)
    show (ratN _ _, ratD _ _, (0 : Int)) = (ratN _ _, ratD _ _, 0)
    rw [r1, r2]

theorem edge_share {n : Nat} {m : Nat → M5} {l c : Int} (hb : bothE n m l c = 0) (s : Bool) {k : Nat} (hk : k < n) :
    (edgeL n m l c s = [] ∧ shareR n m l c s k = ((0, 0), (0, 0), 17)) ∨
    (0 < (edgeL n m l c s).length ∧ shareR n m l c s k = (minV (edgeShare n m l c s k) (edgeL n m l c s).length, maxV (edgeShare n m l c s k) (edgeL n m l c s).length, 0)) := by
  obtain ⟨hM, ht⟩ := both_ok hb
  have hF := fine_of hM
  rcases share_cases hb s hk with ⟨h1, _, h3⟩ | ⟨f, h, h1, h3⟩
  · exact .inl ⟨edges_none hF ht h3, h1⟩
  · rcases edge_least hb s with ⟨_, _, g3⟩ | ⟨hK, _⟩
    · have := g3 f (fun i _ => (h3.mixf.1 i).1) h3.mixf.2.2
      rw [h3.goodf] at this
      cases this
    have hD : ∀ i, i < (edgeL n m l c s).length → 0 < sumF (edgeF n m l c s i) n := fun i hi => (edge_is hF ht (edgeF_mem hi)).2.1
    obtain ⟨b, hbl, e, hmin⟩ := minV_spec (N := fun i => edgeF n m l c s i k) (D := fun i => sumF (edgeF n m l c s i) n) hD hK _ (Nat.le_refl _)
    obtain ⟨a, hal, e2, hmax⟩ := maxV_spec (N := fun i => edgeF n m l c s i k) (D := fun i => sumF (edgeF n m l c s i) n) hD hK _ (Nat.le_refl _)
    refine .inr ⟨hK, ?_⟩
    obtain ⟨b1, b2, b3⟩ := edge_is hF ht (edgeF_mem hbl)
    obtain ⟨a1, a2, a3⟩ := edge_is hF ht (edgeF_mem hal)
    have l1 := h3.low _ (fun i _ => (b1 i).1) b3
    have l2 := h3.high _ (fun i _ => (a1 i).1) a3
    have k1 := corners_tell hF.2.1 (fun i => sumF (edgeF n m l c s b) n * (if i = k then 1 else 0) - edgeF n m l c s b k) (fun y hy => by
      rw [sum_less, sum_unit _ _ hk]
      obtain ⟨F, hFm, d, hd, hFd⟩ := corner_edge hF.2.1 hF ht hy
      obtain ⟨t, htl, htF⟩ := mem_edgeF hFm
      have h4 := hmin t htl
      simp only [htF] at h4
      rw [(scaled_sums hFd (fun _ => 0)).2, hFd k hk] at h4
      have h6 : edgeF n m l c s b k * sumF y n ≤ y k * sumF (edgeF n m l c s b) n := by
        have : d * (edgeF n m l c s b k * sumF y n) ≤ d * (y k * sumF (edgeF n m l c s b) n) := by grind
        exact Int.le_of_mul_le_mul_left this hd
      grind) (fun i _ => (h3.mixf.1 i).1) h3.goodf
    rw [sum_less, sum_unit _ _ hk] at k1
    have k2 := corners_tell hF.2.1 (fun i => sumF (edgeF n m l c s a) n * (if i = k then -1 else 0) - (-(edgeF n m l c s a k))) (fun y hy => by
      rw [sum_less, sum_unit _ _ hk]
      obtain ⟨F, hFm, d, hd, hFd⟩ := corner_edge hF.2.1 hF ht hy
      obtain ⟨t, htl, htF⟩ := mem_edgeF hFm
      have h4 := hmax t htl
      simp only [htF] at h4
      rw [(scaled_sums hFd (fun _ => 0)).2, hFd k hk] at h4
      have h6 : y k * sumF (edgeF n m l c s a) n ≤ edgeF n m l c s a k * sumF y n := by
        have : d * (y k * sumF (edgeF n m l c s a) n) ≤ d * (edgeF n m l c s a k * sumF y n) := by grind
        exact Int.le_of_mul_le_mul_left this hd
      grind) (fun i _ => (h3.mixh.1 i).1) h3.goodh
    rw [sum_less, sum_unit _ _ hk] at k2
    obtain ⟨r1, r2⟩ := rat_same (n := f k) (d := sumF f n) (n' := edgeF n m l c s b k) (d' := sumF (edgeF n m l c s b) n) h3.mixf.2.2 b2 (Int.le_antisymm l1 (by grind))
    obtain ⟨r3, r4⟩ := rat_same (n := h k) (d := sumF h n) (n' := edgeF n m l c s a k) (d' := sumF (edgeF n m l c s a) n) h3.mixh.2.2 a2 (Int.le_antisymm (by grind) l2)
    rw [h1, e, e2]
    show ((ratN _ _, ratD _ _), (ratN _ _, ratD _ _), (0 : Int)) = ((ratN _ _, ratD _ _), (ratN _ _, ratD _ _), 0)
    rw [r1, r2, r3, r4]

end Go.Proofs.YtehafggcncbnkaaGreat

namespace Go.Proofs.YtehafggcncbnkaaGreat
open Go Go.RowKit

def knownM (len : Nat) (f : Nat → Int) (m : Nat → M5) (i : Nat) : M5 :=
  ⟨(m i).p, (m i).l0 + (mixG len f i).tmod ((m i).l1 - (m i).l0 + 1), (m i).l0 + (mixG len f i).tmod ((m i).l1 - (m i).l0 + 1),
    (m i).c0 + ((mixG len f i).tdiv 7).tmod ((m i).c1 - (m i).c0 + 1), (m i).c0 + ((mixG len f i).tdiv 7).tmod ((m i).c1 - (m i).c0 + 1)⟩

theorem infoMetal : (Tryz.prog.info? 68).map (fun i => (i.zero, i.size, i.bytes)) = some (some (.agg #[.int .i64 0, .int .i64 0, .int .i64 0, .int .i64 0, .int .i64 0]), 5, 40) := by kernel_rfl

def M5.cells (q : M5) : List Value := [.int .i64 q.p, .int .i64 q.l0, .int .i64 q.l1, .int .i64 q.c0, .int .i64 q.c1]
theorem metals_of_own {w : World} {base : Nat} {e : TypeId} {g n cap : Nat} {q : Nat → M5} (h : w.ownsRow base e 5 (.slice (some ⟨g, 0, none⟩) n cap) n (catF (fun i => (q i).cells) n)) : Metals w (some ⟨g, 0, none⟩) n q ∧ base ≤ g ∧ g < w.heap.size := by
  have hg : base ≤ g ∧ g < w.heap.size := by
    rcases h.2 with ⟨hv, _⟩ | ⟨g', cap', cur, hv, hb, hh, _⟩
    · cases hv
    · cases hv
      exact ⟨hb, (Array.getElem?_eq_some_iff.1 hh).1⟩
  refine ⟨.inr ⟨g, 0, rfl, hg.2, fun i hi => ?_⟩, hg⟩
  have key : ∀ j, j < 5 → w.cell? ⟨g, 0 + i * 5 + j, none⟩ = ((q i).cells)[j]? := fun j hj => by
    have h1 : i * 5 + j < n * 5 := by omega
    have := h.cellAt (i * 5 + j) h1
    rw [catF_get (fun i => (q i).cells) 5 (fun i => rfl) i j hj n hi] at this
    rw [Nat.zero_add]
    exact this
  exact ⟨key 0 (by omega), key 1 (by omega), key 2 (by omega), key 3 (by omega), key 4 (by omega)⟩

theorem own_below {w w' : World} {base : Nat} {e : TypeId} {size n : Nat} {v : Value} {xs : List Value} (h : w.ownsRow base e size v n xs) (hb : Below w.heap.size w w') : w'.ownsRow base e size v n xs := by
  refine ⟨h.1, ?_⟩
  rcases h.2 with h2 | ⟨g, cap, cur, hv, hbg, hg, h3⟩
  · exact .inl h2
  · exact .inr ⟨g, cap, cur, hv, hbg, (hb.block g (Array.getElem?_eq_some_iff.1 hg).1).trans hg, h3⟩

/-- A number of a truth is within its range. -/
theorem truth_bd {a b x : Int} (h : 0 ≤ a ∧ a ≤ b ∧ b ≤ 1000) (hx : 0 ≤ x) : a ≤ a + x.tmod (b - a + 1) ∧ a + x.tmod (b - a + 1) ≤ b := by
  rw [Int.tmod_eq_emod_of_nonneg hx]
  have h1 := Int.emod_nonneg x (show b - a + 1 ≠ 0 by omega)
  have h2 := Int.emod_lt_of_pos x (show 0 < b - a + 1 by omega)
  omega

set_option maxRecDepth 100000 in
set_option maxHeartbeats 4000000 in
theorem known_c (a b : Option Addr) (n cap len cap2 : Nat) (m : Nat → M5) (f : Nat → Int) (w : World) (hm : Metals w a n m) (hF : Fine n m) (hf : Shorts w b len f) (hl : len ≤ 20) (hb : ∀ i, i < len → 0 ≤ f i ∧ f i ≤ 65535) :
    Calls Tryz.prog 47 #[.slice a n cap, .slice b len cap2] w fun e w' => ∃ g cap', w.heap.size ≤ g ∧ g < w'.heap.size ∧ e = .returned (.slice (some ⟨g, 0, none⟩) n cap') ∧ Metals w' (some ⟨g, 0, none⟩) n (knownM len f m) ∧ Below w.heap.size w w' := by
  obtain ⟨i0, hi, hz0, hz1, hz2⟩ := info_parts infoMetal
  have Hb := Lib.hid hb
  have HF := Lib.hid hF
  have hn0 : 0 < n := by have := hF.1; omega
  have hn6 : n ≤ 6 := hF.2.1
  clear hb hF
  go_enter Tryz.func47, Tryz.ntmps47
  go_wp2
  go_loopw [5, 6] (fun v i wr => ∃ k : Nat, k ≤ n ∧ i = .int .i64 k ∧ wr.ownsRow w.heap.size 68 5 v k (catF (fun i => (knownM len f m i).cells) k) ∧ Below w.heap.size w wr) (fun _ i _ => n - (intOf i).toNat)
  case atStart => exact ⟨0, Nat.zero_le _, rfl, World.ownsRow_nil _ _ _ _, Below.refl _ _⟩
  case round =>
    obtain ⟨k, hk, rfl, hown, hB⟩ := hrel
    have hBs := hB.size
    by_cases hlt : k < n
    · obtain ⟨bm, om, rfl, hbms, q0, q1, q2, q3, q4⟩ := Metals.at hm k hlt
      have d0 := (hB.cell (p := ⟨bm, om + k * 5, none⟩) hbms).trans q0
      have d1 := (hB.cell (p := ⟨bm, om + k * 5 + 1, none⟩) hbms).trans q1
      have d2 := (hB.cell (p := ⟨bm, om + k * 5 + 2, none⟩) hbms).trans q2
      have d3 := (hB.cell (p := ⟨bm, om + k * 5 + 3, none⟩) hbms).trans q3
      have d4 := (hB.cell (p := ⟨bm, om + k * 5 + 4, none⟩) hbms).trans q4
      have hfk := HF.out.2.2 k hlt
      have hxk := mixG_bd (B := 65535) (by omega) Hb.out k
      obtain ⟨x, hx⟩ : ∃ x, mixG len f k = x := ⟨_, rfl⟩
      have tb1 := truth_bd (a := (m k).l0) (b := (m k).l1) (x := x) ⟨hfk.2.2.1, hfk.2.2.2.1, hfk.2.2.2.2.1⟩ (by omega)
      have hx7 : 0 ≤ x.tdiv 7 := Int.tdiv_nonneg (by omega) (by omega)
      have tb2 := truth_bd (a := (m k).c0) (b := (m k).c1) (x := x.tdiv 7) ⟨hfk.2.2.2.2.2.1, hfk.2.2.2.2.2.2.1, hfk.2.2.2.2.2.2.2⟩ hx7
      have ekm : (knownM len f m k).cells = [.int .i64 (m k).p, .int .i64 ((m k).l0 + x.tmod ((m k).l1 - (m k).l0 + 1)), .int .i64 ((m k).l0 + x.tmod ((m k).l1 - (m k).l0 + 1)), .int .i64 ((m k).c0 + (x.tdiv 7).tmod ((m k).c1 - (m k).c0 + 1)), .int .i64 ((m k).c0 + (x.tdiv 7).tmod ((m k).c1 - (m k).c0 + 1))] := by
        unfold M5.cells knownM
        rw [hx]
      have Ekm := Lib.hid ekm
      obtain ⟨P, hP⟩ : ∃ P, (m k).p = P := ⟨_, rfl⟩
      obtain ⟨L0, hL0⟩ : ∃ P, (m k).l0 = P := ⟨_, rfl⟩
      obtain ⟨L1, hL1⟩ : ∃ P, (m k).l1 = P := ⟨_, rfl⟩
      obtain ⟨C0, hC0⟩ : ∃ P, (m k).c0 = P := ⟨_, rfl⟩
      obtain ⟨C1, hC1⟩ : ∃ P, (m k).c1 = P := ⟨_, rfl⟩
      rw [hP] at d0
      rw [hL0] at d1
      rw [hL1] at d2
      rw [hC0] at d3
      rw [hC1] at d4
      rw [hP, hL0, hL1, hC0, hC1] at Ekm
      rw [hL0, hL1] at tb1
      rw [hC0, hC1] at tb2
      rw [hP, hL0, hL1, hC0, hC1] at hfk
      have HB := Lib.hid hB
      have Hown := Lib.hid hown
      have Hx := Lib.hid hx
      obtain ⟨Y, hY⟩ : ∃ Y, wr.alloc (.cells #[.int .i64 P, .int .i64 L0, .int .i64 L1, .int .i64 C0, .int .i64 C1] 68) = Y := ⟨_, rfl⟩
      have hR : RowIs Y wr.heap.size #[.int .i64 P, .int .i64 L0, .int .i64 L1, .int .i64 C0, .int .i64 C1] 68 := by rw [← hY]; exact heap_new_at _ _ _ rfl
      have r0 : Y.cell? ⟨wr.heap.size, 0, none⟩ = some (.int .i64 P) := hR.cell 0
      have r1 : Y.cell? ⟨wr.heap.size, 1, none⟩ = some (.int .i64 L0) := hR.cell 1
      have r2 : Y.cell? ⟨wr.heap.size, 2, none⟩ = some (.int .i64 L1) := hR.cell 2
      have r3 : Y.cell? ⟨wr.heap.size, 3, none⟩ = some (.int .i64 C0) := hR.cell 3
      have r4 : Y.cell? ⟨wr.heap.size, 4, none⟩ = some (.int .i64 C1) := hR.cell 4
      have hYz : wr.heap.size < Y.heap.size := (Array.getElem?_eq_some_iff.1 hR).1
      have hBY : Below w.heap.size w Y := by rw [← hY]; exact Below.alloc1 HB.out _ (Nat.le_refl _)
      have hOY := Hown.out.alloc (.cells #[.int .i64 P, .int .i64 L0, .int .i64 L1, .int .i64 C0, .int .i64 C1] 68)
      rw [hY] at hOY
      have HBY := Lib.hid hBY
      have HOY := Lib.hid hOY
      have w1' : IntKind.i64.wrap (L1 - L0) = L1 - L0 := IntWalk.i64_in _ (by omega)
      have w2' : IntKind.i64.wrap (L1 - L0 + 1) = L1 - L0 + 1 := IntWalk.i64_in _ (by omega)
      have w3' : IntKind.i64.wrap (C1 - C0) = C1 - C0 := IntWalk.i64_in _ (by omega)
      have w4' : IntKind.i64.wrap (C1 - C0 + 1) = C1 - C0 + 1 := IntWalk.i64_in _ (by omega)
      have wx : wrap64 x = x := IntWalk.wrap64_in _ ⟨by omega, by omega⟩
      have hx7' : x.tdiv 7 ≤ 65535 := by rw [Int.tdiv_eq_ediv_of_nonneg (by omega)]; omega
      have wd : wrap64 (x.tdiv 7) = x.tdiv 7 := IntWalk.wrap64_in _ ⟨by omega, by omega⟩
      have wa : wrap64 (L0 + x.tmod (L1 - L0 + 1)) = L0 + x.tmod (L1 - L0 + 1) := IntWalk.wrap64_in _ ⟨by omega, by omega⟩
      have wb : wrap64 (C0 + (x.tdiv 7).tmod (C1 - C0 + 1)) = C0 + (x.tdiv 7).tmod (C1 - C0 + 1) := IntWalk.wrap64_in _ ⟨by omega, by omega⟩
      have z1' : L1 - L0 + 1 ≠ 0 := by omega
      have z2' : C1 - C0 + 1 ≠ 0 := by omega
      clear hx7 hx7' hxk hR hBY hOY hown hB ekm q0 q1 q2 q3 q4 hx hP hL0 hL1 hC0 hC1
      by_cases hl0 : 0 < len
      · have hmm : k % len < len := Nat.mod_lt _ hl0
        have hmod : Int.tmod (k : Int) (len : Int) = ((k % len : Nat) : Int) := rfl
        obtain ⟨bb, off, rfl, hbs, hc⟩ := Cells.at hf (k % len) hmm
        have hck := (HBY.out.cell (p := ⟨bb, off + k % len, none⟩) hbs).trans (hc _ hmm)
        have hfx : f (k % len) = x := by rw [← Hx.out]; unfold mixG; rw [if_pos hl0]
        rw [hfx] at hck
        clear hc
        go_wp2_with fail
        clear hY
        go_quiet (fail)
        simp only [wx, wd]
        have hOV := own_below HOY.out (below_drewN (Below.refl _ Y) nq)
        have hBV := below_drewN HBY.out nq
        have s0 : (Y.drewN nq).cell? ⟨wr.heap.size, 0, none⟩ = some (.int .i64 P) := r0
        have hVz : wr.heap.size < (Y.drewN nq).heap.size := hYz
        clear r0 r1 r2 r3 r4
        generalize Y.drewN nq = V at *
        go_wp2_with fail
        refine (metal_c _ _ _ _ _ _).mono ?_
        rintro e w1 ⟨rfl, hb1⟩
        have hO1 := own_below hOV hb1
        have hB1 := bup hBV hb1
        have hs1 := hB1.size
        clear s0 hOV hBV
        go_wp2_with (at_builtin; refine wpList_append_own _ rfl _ _ 22 rfl w.heap.size 68 i0 (.agg #[.int .i64 0, .int .i64 0, .int .i64 0, .int .i64 0, .int .i64 0]) 5 40 Tryz.underlying22 hi hz0 hz1 hz2 rfl (by decide) _ _ _ rfl (hO1.alloc _) ⟨w1.heap.size, 0, none⟩ 1 1 [.int .i64 P, .int .i64 (L0 + x.tmod (L1 - L0 + 1)), .int .i64 (L0 + x.tmod (L1 - L0 + 1)), .int .i64 (C0 + (x.tdiv 7).tmod (C1 - C0 + 1)), .int .i64 (C0 + (x.tdiv 7).tmod (C1 - C0 + 1))] rfl rfl (World.news_of_block (cs := #[.int .i64 P, .int .i64 (L0 + x.tmod (L1 - L0 + 1)), .int .i64 (L0 + x.tmod (L1 - L0 + 1)), .int .i64 (C0 + (x.tdiv 7).tmod (C1 - C0 + 1)), .int .i64 (C0 + (x.tdiv 7).tmod (C1 - C0 + 1))]) (t := 68) (fr := (0, 0)) (heap_new_at _ _ _ rfl)) (by simp [Value.oneCell']) (by unfold maxLen; omega) (by omega) (by simp; omega) ?_; intro v' w2 hown2 hgr2 _)
        go_roundw
        case rel =>
          refine ⟨k + 1, by omega, by go_num, ?_, (Below.alloc1 hB1 _ (Nat.le_refl _)).grown hgr2 (by simp; omega) (fun j h => (hO1.lt j h).1)⟩
          show w2.ownsRow _ _ _ _ _ (catF (fun i => (knownM len f m i).cells) k ++ (knownM len f m k).cells)
          rw [Ekm.out]
          exact hown2
        case measure => simp [intOf]; omega
      · obtain rfl : len = 0 := by omega
        have hx0 : x = 0 := by rw [← Hx.out]; unfold mixG; rw [if_neg (by omega)]
        subst hx0
        go_wp2_with fail
        clear hY
        go_quiet (fail)
        simp only [Int.zero_tdiv, Int.zero_tmod, Int.add_zero] at Ekm
        have hOV := own_below HOY.out (below_drewN (Below.refl _ Y) nq)
        have hBV := below_drewN HBY.out nq
        have s0 : (Y.drewN nq).cell? ⟨wr.heap.size, 0, none⟩ = some (.int .i64 P) := r0
        have hVz : wr.heap.size < (Y.drewN nq).heap.size := hYz
        clear r0 r1 r2 r3 r4
        generalize Y.drewN nq = V at *
        go_wp2_with fail
        refine (metal_c _ _ _ _ _ _).mono ?_
        rintro e w1 ⟨rfl, hb1⟩
        have hO1 := own_below hOV hb1
        have hB1 := bup hBV hb1
        have hs1 := hB1.size
        clear s0 hOV hBV
        go_wp2_with (at_builtin; refine wpList_append_own _ rfl _ _ 22 rfl w.heap.size 68 i0 (.agg #[.int .i64 0, .int .i64 0, .int .i64 0, .int .i64 0, .int .i64 0]) 5 40 Tryz.underlying22 hi hz0 hz1 hz2 rfl (by decide) _ _ _ rfl (hO1.alloc _) ⟨w1.heap.size, 0, none⟩ 1 1 [.int .i64 P, .int .i64 L0, .int .i64 L0, .int .i64 C0, .int .i64 C0] rfl rfl (World.news_of_block (cs := #[.int .i64 P, .int .i64 L0, .int .i64 L0, .int .i64 C0, .int .i64 C0]) (t := 68) (fr := (0, 0)) (heap_new_at _ _ _ rfl)) (by simp [Value.oneCell']) (by unfold maxLen; omega) (by omega) (by simp; omega) ?_; intro v' w2 hown2 hgr2 _)
        go_roundw
        case rel =>
          refine ⟨k + 1, by omega, by go_num, ?_, (Below.alloc1 hB1 _ (Nat.le_refl _)).grown hgr2 (by simp; omega) (fun j h => (hO1.lt j h).1)⟩
          show w2.ownsRow _ _ _ _ _ (catF (fun i => (knownM 0 f m i).cells) k ++ (knownM 0 f m k).cells)
          rw [Ekm.out]
          exact hown2
        case measure => simp [intOf]; omega
    · obtain rfl : k = n := by omega
      obtain ⟨g, cap', rfl, hgz⟩ := own_form hown hn0
      obtain ⟨hI, hg1, hg2⟩ := metals_of_own hown
      go_wp2
      go_ret
      exact ⟨g, cap', hg1, hg2, rfl, hI, hB⟩

end Go.Proofs.YtehafggcncbnkaaGreat

namespace Go.Proofs.YtehafggcncbnkaaGreat
open Go Go.RowKit

/-- A row of so many numbers. -/
def rowZ (s : Nat) (h : Nat → Int) : Array Value := ((List.range s).map fun i => Value.int .i64 (h i)).toArray
theorem rowZ_get (s : Nat) (h : Nat → Int) (j : Nat) (hj : j < s) : (rowZ s h)[j]? = some (.int .i64 (h j)) := by simp [rowZ, hj]
theorem rowZ_set (s : Nat) (h g : Nat → Int) (j : Nat) (v : Int) (hv : v = g j) (hg : ∀ i, i < s → i ≠ j → g i = h i) : (rowZ s h).setIfInBounds j (.int .i64 v) = rowZ s g := by
  apply Array.ext_getElem?
  intro i
  simp only [rowZ, Array.getElem?_setIfInBounds]
  by_cases e : j = i
  · subst e
    by_cases hj : j < s
    · simp [hj, hv]
    · simp [hj]
  · by_cases hi : i < s
    · simp [e, hi, hg i hi (fun h => e h.symm)]
    · simp [e, hi]
theorem rowZ_upd (s : Nat) (f : Nat → Int) (x : Nat) (v : Int) : (rowZ s f).setIfInBounds x (.int .i64 v) = rowZ s (upd f x v) :=
  rowZ_set s f (upd f x v) x v (by simp [upd]) fun i _ hn => by simp [upd, hn]
theorem make_z : ∀ (s : Nat) (_ : s ≤ 6) (w : World), (Instr.makeSlice 25 (.int .i64 (s : Int)) (.int .i64 (s : Int))).run Tryz.prog w = .ok (.slice (some ⟨w.heap.size, 0, none⟩) s s) (w.alloc (.cells (rowZ s fun _ => 0) 2))
  | 0, _, w => by
    have h : (Instr.makeSlice 25 (.int .i64 0) (.int .i64 0)).run Tryz.prog w = .ok (.slice (some ⟨w.heap.size, 0, none⟩) 0 0) (w.alloc (.cells (rowZ 0 fun _ => 0) 2)) := by kernel_rfl
    exact h
  | 1, _, w => by
    have h : (Instr.makeSlice 25 (.int .i64 1) (.int .i64 1)).run Tryz.prog w = .ok (.slice (some ⟨w.heap.size, 0, none⟩) 1 1) (w.alloc (.cells (rowZ 1 fun _ => 0) 2)) := by kernel_rfl
    exact h
  | 2, _, w => by
    have h : (Instr.makeSlice 25 (.int .i64 2) (.int .i64 2)).run Tryz.prog w = .ok (.slice (some ⟨w.heap.size, 0, none⟩) 2 2) (w.alloc (.cells (rowZ 2 fun _ => 0) 2)) := by kernel_rfl
    exact h
  | 3, _, w => by
    have h : (Instr.makeSlice 25 (.int .i64 3) (.int .i64 3)).run Tryz.prog w = .ok (.slice (some ⟨w.heap.size, 0, none⟩) 3 3) (w.alloc (.cells (rowZ 3 fun _ => 0) 2)) := by kernel_rfl
    exact h
  | 4, _, w => by
    have h : (Instr.makeSlice 25 (.int .i64 4) (.int .i64 4)).run Tryz.prog w = .ok (.slice (some ⟨w.heap.size, 0, none⟩) 4 4) (w.alloc (.cells (rowZ 4 fun _ => 0) 2)) := by kernel_rfl
    exact h
  | 5, _, w => by
    have h : (Instr.makeSlice 25 (.int .i64 5) (.int .i64 5)).run Tryz.prog w = .ok (.slice (some ⟨w.heap.size, 0, none⟩) 5 5) (w.alloc (.cells (rowZ 5 fun _ => 0) 2)) := by kernel_rfl
    exact h
  | 6, _, w => by
    have h : (Instr.makeSlice 25 (.int .i64 6) (.int .i64 6)).run Tryz.prog w = .ok (.slice (some ⟨w.heap.size, 0, none⟩) 6 6) (w.alloc (.cells (rowZ 6 fun _ => 0) 2)) := by kernel_rfl
    exact h
  | n + 7, h, _ => absurd h (by omega)

/-- What put hands back: nothing, or a row of its own. -/
def IsPut (w : World) (n : Nat) (v : Value) : Option (Nat → Int) → Prop
  | none => v = .slice none 0 0
  | some f => ∃ g, v = .slice (some ⟨g, 0, none⟩) n n ∧ RowIs w g (rowZ n f) 2

set_option maxHeartbeats 8000000 in
theorem rput_c (n k ca cp : Nat) (a p : Option Addr) (fa : Nat → Nat) (fp : Nat → Int) (w : World) (ha : Ints w a k fun i => (fa i : Int)) (hp : Ints w p k fp) (hn : n ≤ 6) (hk : k ≤ 3) (hfa : ∀ i, i < k → fa i < n) (hb : ∀ i, i < k → -1099511627776 ≤ fp i ∧ fp i ≤ 1099511627776) :
    Calls Tryz.prog 99 #[.int .i64 n, .slice a k ca, .slice p k cp] w fun e w' => ∃ v, e = .returned v ∧ IsPut w' n v (putR fa fp k) ∧ Below w.heap.size w w' := by
  have mk := make_z n hn
  have HFA := Lib.hid hfa
  have HBP := Lib.hid hb
  clear hfa hb
  obtain ⟨V, hV⟩ : ∃ V, w.alloc (.cells (rowZ n fun _ => 0) 2) = V := ⟨_, rfl⟩
  have SV : RowIs V w.heap.size (rowZ n (putK fa fp 0)) 2 ∧ Below w.heap.size w V := by
    rw [← hV]
    exact ⟨heap_new_at w _ _ rfl, Below.alloc1 (Below.refl _ _) _ (Nat.le_refl _)⟩
  replace SV := Lib.hid SV
  go_enter Tryz.func99, Tryz.ntmps99
  go_wp2
  clear hV mk
  go_loopw [8, 9, 10] (fun lo hi i wr => ∃ j : Nat, j ≤ k ∧ i = .int .i64 j ∧ lo = .int .i64 (lowK fp j) ∧ hi = .int .i64 (highK fp j) ∧ RowIs wr w.heap.size (rowZ n (putK fa fp j)) 2 ∧ Below w.heap.size w wr) (fun _ _ i _ => k - (intOf i).toNat)
  case atStart => exact ⟨0, Nat.zero_le _, rfl, rfl, rfl, SV.out.1, SV.out.2⟩
  case round =>
    obtain ⟨j, hj, rfl, rfl, rfl, hr, hB⟩ := hrel
    have HR := Lib.hid hr
    have HB := Lib.hid hB
    by_cases hlt : j < k
    · obtain ⟨ba, oa, rfl, hbas, -⟩ := Cells.at ha j hlt
      obtain ⟨bp, op, rfl, hbps, -⟩ := Cells.at hp j hlt
      obtain ⟨_, _, e1, -, ca'⟩ := Cells.at (Cells.below ha hB) j hlt
      cases e1
      obtain ⟨_, _, e2, -, cp'⟩ := Cells.at (Cells.below hp hB) j hlt
      cases e2
      have c0 := ca' j hlt
      have c1 := cp' j hlt
      have hx := HFA.out j hlt
      have hy := HBP.out j hlt
      obtain ⟨x, hx0⟩ : ∃ x, fa j = x := ⟨_, rfl⟩
      obtain ⟨y, hy0⟩ : ∃ y, fp j = y := ⟨_, rfl⟩
      simp only [hx0] at c0
      rw [hx0] at hx
      rw [hy0] at c1 hy
      have eL : lowK fp (j + 1) = min (lowK fp j) y := by rw [← hy0]; rfl
      have eH : highK fp (j + 1) = max (highK fp j) y := by rw [← hy0]; rfl
      have eP : putK fa fp (j + 1) = upd (putK fa fp j) x (max y (-y)) := by rw [← hy0, ← hx0]; rfl
      have hwn : IntKind.i64.wrap (-y) = -y := IntWalk.i64_in _ (by omega)
      have EL := Lib.hid eL
      have EH := Lib.hid eH
      have EP := Lib.hid eP
      have hwb : w.heap.size < wr.heap.size := (Array.getElem?_eq_some_iff.1 hr).1
      obtain ⟨l, hl⟩ : ∃ l, lowK fp j = l := ⟨_, rfl⟩
      obtain ⟨h, hh⟩ : ∃ l, highK fp j = l := ⟨_, rfl⟩
      rw [hl] at EL
      rw [hh] at EH
      rw [hl, hh]
      clear hr hB ha hp ca' cp' eL eH eP hx0 hy0 hl hh
      go_wp2
      go_quiet (fail)
      obtain ⟨l', hl'⟩ : ∃ l', min l y = l' := ⟨_, rfl⟩
      obtain ⟨h', hh'⟩ : ∃ h', max h y = h' := ⟨_, rfl⟩
      (try rw [show (if y < l then y else l) = min l y by split <;> omega, show (if h < y then y else h) = max h y by split <;> omega])
      rw [hl', hh']
      have g1 : l' = lowK fp (j + 1) := by rw [EL.out, ← hl']
      have g2 : h' = highK fp (j + 1) := by rw [EH.out, ← hh']
      clear hl' hh'
      have G1 := Lib.hid g1
      have G2 := Lib.hid g2
      clear g1 g2
      have hb1 : Below wr.heap.size wr (wr.drewN nq) := below_drewN (Below.refl _ _) nq
      obtain ⟨W1, hW1⟩ : ∃ W1, wr.drewN nq = W1 := ⟨_, rfl⟩
      rw [hW1] at hb1 ⊢
      have hr1 := RowIs.below HR.out hb1
      have hB1 := HB.out.trans (hb1.mono HB.out.size)
      have d0 := (hb1.cell (p := ⟨ba, oa + j, none⟩) (Nat.lt_of_lt_of_le hbas HB.out.size)).trans c0
      have d1 := (hb1.cell (p := ⟨bp, op + j, none⟩) (Nat.lt_of_lt_of_le hbps HB.out.size)).trans c1
      have q0 : W1.cell? ⟨w.heap.size, x, none⟩ = some (.int .i64 (putK fa fp j x)) := (RowIs.cell hr1 x).trans (rowZ_get _ _ x hx)
      have q1 : W1.frozen? ⟨w.heap.size, x, none⟩ = false := RowIs.frozen hr1 x
      obtain ⟨X, hX⟩ : ∃ X, (W1.setCell ⟨w.heap.size, x, none⟩ (.int .i64 (max y (-y)))).drew = X := ⟨_, rfl⟩
      have hBX : Below w.heap.size w X := by rw [← hX]; exact (Below.setCell hB1 (p := ⟨w.heap.size, x, none⟩) (Nat.le_refl _) _).drew
      have x1 : RowIs X w.heap.size (rowZ n (putK fa fp (j + 1))) 2 := by
        rw [← hX, EP.out, ← rowZ_upd]
        exact RowIs.drew (RowIs.set hr1 x _)
      have X1 := Lib.hid x1
      clear hW1 c0 c1 hr1 hB1 hb1 x1
      go_wp2
      go_region
      go_wp2
      go_roundw
      case rel => exact ⟨j + 1, by omega, by go_num, by rw [G1.out], by rw [G2.out], X1.out, hBX⟩
      case measure => simp [intOf]; omega
    · obtain rfl : j = k := by omega
      have hlw := low_le0 fp j
      have hhg := high_ge0 fp j
      have hcase : putB fp j = true ∨ putB fp j = false := by cases putB fp j <;> simp
      obtain ⟨l, hl⟩ : ∃ l, lowK fp j = l := ⟨_, rfl⟩
      obtain ⟨h, hh⟩ : ∃ l, highK fp j = l := ⟨_, rfl⟩
      have hpb : putB fp j = decide ((l < 0 ∧ 0 < h) ∨ (l = 0 ∧ h = 0)) := by unfold putB; rw [hl, hh]
      rw [hl] at hlw ⊢
      rw [hh] at hhg ⊢
      clear hr hB ha hp
      by_cases e1 : l < 0
      · have t1 : decide (l < 0) = true := decide_eq_true e1
        have t1' : (l == 0) = false := by simp; omega
        by_cases e2 : 0 < h
        · have t2 : decide (0 < h) = true := decide_eq_true e2
          have hb : putB fp j = true := by rw [hpb]; exact decide_eq_true (.inl ⟨e1, e2⟩)
          go_wp2
          go_ret
          exact ⟨_, rfl, by unfold putR; rw [if_pos hb]; rfl, HB.out⟩
        · have t2 : decide (0 < h) = false := decide_eq_false e2
          have hb : putB fp j = false := by rw [hpb]; exact decide_eq_false (by omega)
          go_wp2
          go_ret
          exact ⟨_, rfl, by unfold putR; rw [if_neg (by rw [hb]; simp)]; exact ⟨_, rfl, HR.out⟩, HB.out⟩
      · have t1 : decide (l < 0) = false := decide_eq_false e1
        have t1' : (l == 0) = true := by simp; omega
        by_cases e2 : 0 < h
        · have t2 : (h == 0) = false := by simp; omega
          have hb : putB fp j = false := by rw [hpb]; exact decide_eq_false (by omega)
          go_wp2
          go_ret
          exact ⟨_, rfl, by unfold putR; rw [if_neg (by rw [hb]; simp)]; exact ⟨_, rfl, HR.out⟩, HB.out⟩
        · have t2 : (h == 0) = true := by simp; omega
          have hb : putB fp j = true := by rw [hpb]; exact decide_eq_true (by omega)
          go_wp2
          go_ret
          exact ⟨_, rfl, by unfold putR; rw [if_pos hb]; rfl, HB.out⟩

end Go.Proofs.YtehafggcncbnkaaGreat
