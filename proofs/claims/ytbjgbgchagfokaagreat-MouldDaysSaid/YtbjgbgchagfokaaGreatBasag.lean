/- Plain mathematics: as few days as the greatest load are enough. It uses nothing of the program but words. -/
import Derived.Test.YtbjgbgchagfokaaGreatBasaa
namespace Go.Proofs.YtbjgbgchagfokaaGreat
open Classical

/-- Right days of the first n wants, with numbers below D. -/
def Right (f : Nat → W2) (n D : Nat) (d : Nat → Nat) : Prop := (∀ i, i < n → d i < D) ∧ ∀ i k, i < n → k < n → i ≠ k → d i = d k → (f i).s ≠ (f k).s ∧ (f i).m ≠ (f k).m
/-- How many of the first have this number. -/
def many (g : Nat → Int) (x : Int) : Nat → Nat
  | 0 => 0
  | k + 1 => many g x k + if g k = x then 1 else 0
def manyDay (g : Nat → Int) (x : Int) (d : Nat → Nat) (a : Nat) : Nat → Nat
  | 0 => 0
  | k + 1 => manyDay g x d a k + if g k = x ∧ d k = a then 1 else 0
def sumN (h : Nat → Nat) : Nat → Nat
  | 0 => 0
  | k + 1 => sumN h k + h k
theorem sumN_add (h g : Nat → Nat) : ∀ n, sumN (fun i => h i + g i) n = sumN h n + sumN g n
  | 0 => rfl
  | n + 1 => by simp only [sumN, sumN_add h g n]; omega
theorem sumN_zero : ∀ n, sumN (fun _ => 0) n = 0
  | 0 => rfl
  | n + 1 => by simp only [sumN, sumN_zero n]
theorem sumN_le {h : Nat → Nat} : ∀ {n}, (∀ i, i < n → 1 ≤ h i) → n ≤ sumN h n
  | 0, _ => Nat.le_refl _
  | n + 1, hh => by
    have h1 := sumN_le (h := h) (n := n) fun i hi => hh i (by omega)
    have h2 := hh n (by omega)
    simp only [sumN]
    omega
theorem sumN_one (p : Prop) [Decidable p] (v : Nat) : ∀ D, sumN (fun a => if p ∧ v = a then 1 else 0) D ≤ (if p ∧ v < D then 1 else 0)
  | 0 => by simp [sumN]
  | D + 1 => by
    have := sumN_one p v D
    simp only [sumN]
    by_cases hp : p
    · by_cases e : v = D
      · subst e
        rw [if_neg (show ¬ (p ∧ v < v) from fun h => Nat.lt_irrefl _ h.2)] at this
        rw [if_pos (show p ∧ v = v from ⟨hp, rfl⟩), if_pos (show p ∧ v < v + 1 from ⟨hp, Nat.lt_succ_self _⟩)]
        omega
      · by_cases h : v < D
        · rw [if_pos (show p ∧ v < D from ⟨hp, h⟩)] at this
          rw [if_neg (show ¬ (p ∧ v = D) from fun h => e h.2), if_pos (show p ∧ v < D + 1 from ⟨hp, by omega⟩)]
          omega
        · rw [if_neg (show ¬ (p ∧ v < D) from fun hh => h hh.2)] at this
          rw [if_neg (show ¬ (p ∧ v = D) from fun h => e h.2)]
          omega
    · rw [if_neg (show ¬ (p ∧ v < D) from fun hh => hp hh.1)] at this
      rw [if_neg (show ¬ (p ∧ v = D) from fun h => hp h.1)]
      omega
theorem days_many (g : Nat → Int) (x : Int) (d : Nat → Nat) (D : Nat) : ∀ n, sumN (fun a => manyDay g x d a n) D ≤ many g x n
  | 0 => by simp only [manyDay, many, sumN_zero]; exact Nat.le_refl _
  | n + 1 => by
    have h1 := days_many g x d D n
    have h2 := sumN_one (g n = x) (d n) D
    simp only [manyDay, many, sumN_add]
    have h3 : (if g n = x ∧ d n < D then 1 else 0) ≤ (if g n = x then 1 else 0) := by
      by_cases e : g n = x
      · by_cases h : d n < D <;> simp [e, h]
      · simp [e]
    omega
theorem manyDay_pos {g : Nat → Int} {x : Int} {d : Nat → Nat} {a i : Nat} : ∀ {n}, i < n → g i = x → d i = a → 1 ≤ manyDay g x d a n
  | 0, h, _, _ => by omega
  | n + 1, h, h1, h2 => by
    simp only [manyDay]
    by_cases e : i = n
    · subst e
      rw [if_pos ⟨h1, h2⟩]
      omega
    · have := manyDay_pos (g := g) (x := x) (d := d) (a := a) (i := i) (n := n) (by omega) h1 h2
      omega
/-- Who has less wants than there are days has a free day. -/
theorem free_day (g : Nat → Int) (x : Int) (d : Nat → Nat) (n D : Nat) (h : many g x n < D) : ∃ a, a < D ∧ ∀ i, i < n → g i = x → d i ≠ a := by
  by_cases e : ∃ a, a < D ∧ ∀ i, i < n → g i = x → d i ≠ a
  · exact e
  · have h1 : ∀ a, a < D → 1 ≤ manyDay g x d a n := fun a ha => by
      by_cases h2 : ∃ i, i < n ∧ g i = x ∧ d i = a
      · obtain ⟨i, hi, h3, h4⟩ := h2
        exact manyDay_pos hi h3 h4
      · exact absurd ⟨a, ha, fun i hi h3 h4 => h2 ⟨i, hi, h3, h4⟩⟩ e
    have h2 := sumN_le h1
    have h3 := days_many g x d D n
    omega

/-- The chain of a mould by two days. -/
inductive Ch (f : Nat → W2) (n : Nat) (d : Nat → Nat) (a b : Nat) (v : Int) : Nat → Prop
  | start (i : Nat) (hi : i < n) (hm : (f i).m = v) (hd : d i = a) : Ch f n d a b v i
  | shop (i j : Nat) (h : Ch f n d a b v i) (hd : d i = a) (hj : j < n) (he : d j = b) (hs : (f j).s = (f i).s) : Ch f n d a b v j
  | mould (i j : Nat) (h : Ch f n d a b v i) (hd : d i = b) (hj : j < n) (he : d j = a) (hs : (f j).m = (f i).m) : Ch f n d a b v j
theorem Ch.day {f : Nat → W2} {n : Nat} {d : Nat → Nat} {a b : Nat} {v : Int} {i : Nat} (h : Ch f n d a b v i) : i < n ∧ (d i = a ∨ d i = b) := by
  cases h with
  | start i hi hm hd => exact ⟨hi, .inl hd⟩
  | shop i j h hd hj he hs => exact ⟨hj, .inr he⟩
  | mould i j h hd hj he hs => exact ⟨hj, .inl he⟩
theorem Right.same {f : Nat → W2} {n D : Nat} {d : Nat → Nat} (h : Right f n D d) {i k : Nat} (hi : i < n) (hk : k < n) (e : d i = d k) (hc : (f i).s = (f k).s ∨ (f i).m = (f k).m) : i = k := by
  by_cases hik : i = k
  · exact hik
  · have := h.2 i k hi hk hik e
    rcases hc with hc | hc
    · exact absurd hc this.1
    · exact absurd hc this.2
theorem Ch.closed {f : Nat → W2} {n D : Nat} {d : Nat → Nat} {a b : Nat} {v : Int} (hR : Right f n D d) (hv : ∀ i, i < n → (f i).m = v → d i ≠ b) {i k : Nat} (h : Ch f n d a b v i) (hk : k < n) (hd : d k = a ∨ d k = b) (hne : d k ≠ d i)
    (hc : (f k).s = (f i).s ∨ (f k).m = (f i).m) : Ch f n d a b v k := by
  cases h with
  | start i hi hm hda =>
    have hkb : d k = b := by rcases hd with h | h; exact absurd (h.trans hda.symm) hne; exact h
    rcases hc with hc | hc
    · exact .shop i k (.start i hi hm hda) hda hk hkb hc
    · exact absurd hkb (hv k hk (hc.trans hm))
  | shop i0 i h0 hd0 hi he hs =>
    have hka : d k = a := by rcases hd with h | h; exact h; exact absurd (h.trans he.symm) hne
    rcases hc with hc | hc
    · rw [hR.same hk h0.day.1 (hka.trans hd0.symm) (.inl (hc.trans hs))]
      exact h0
    · exact .mould i k (.shop i0 i h0 hd0 hi he hs) he hk hka hc
  | mould i0 i h0 hd0 hi he hs =>
    have hkb : d k = b := by rcases hd with h | h; exact absurd (h.trans he.symm) hne; exact h
    rcases hc with hc | hc
    · exact .shop i k (.mould i0 i h0 hd0 hi he hs) he hk hkb hc
    · rw [hR.same hk h0.day.1 (hkb.trans hd0.symm) (.inr (hc.trans hs))]
      exact h0
theorem Ch.away {f : Nat → W2} {n : Nat} {d : Nat → Nat} {a b : Nat} {u v : Int} (hu : ∀ i, i < n → (f i).s = u → d i ≠ a) {i : Nat} (h : Ch f n d a b v i) : (f i).s ≠ u := fun e => by
  cases h with
  | start i hi hm hd => exact hu i hi e hd
  | shop i0 i h0 hd0 hi he hs => exact hu i0 h0.day.1 (hs.symm.trans e) hd0
  | mould i0 i h0 hd0 hi he hs => exact hu i hi e he

noncomputable def swapD (C : Nat → Prop) (a b : Nat) (d : Nat → Nat) (i : Nat) : Nat := if C i then (if d i = a then b else a) else d i
/-- A chain that is swapped leaves days right. -/
theorem swap_right {f : Nat → W2} {n D : Nat} {d : Nat → Nat} {a b : Nat} {C : Nat → Prop} (hR : Right f n D d) (ha : a < D) (hb : b < D) (hab : a ≠ b) (hC : ∀ i, C i → d i = a ∨ d i = b)
    (hcl : ∀ i k, C i → k < n → (d k = a ∨ d k = b) → d k ≠ d i → ((f k).s = (f i).s ∨ (f k).m = (f i).m) → C k) : Right f n D (swapD C a b d) := by
  have part : ∀ i k, i < n → k < n → C i → ¬ C k → swapD C a b d i = swapD C a b d k → (f i).s ≠ (f k).s ∧ (f i).m ≠ (f k).m := fun i k hi hk h1 h2 e => by
    unfold swapD at e
    rw [if_pos h1, if_neg h2] at e
    have hday : (d k = a ∨ d k = b) ∧ d k ≠ d i := by
      rcases hC i h1 with h | h
      · rw [if_pos h] at e
        exact ⟨.inr e.symm, fun h3 => hab (h.symm.trans (h3.symm.trans e.symm))⟩
      · rw [if_neg (fun h3 => hab (h3.symm.trans h))] at e
        exact ⟨.inl e.symm, fun h3 => hab (e.trans (h3.trans h))⟩
    exact ⟨fun hs => h2 (hcl i k h1 hk hday.1 hday.2 (.inl hs.symm)), fun hs => h2 (hcl i k h1 hk hday.1 hday.2 (.inr hs.symm))⟩
  refine ⟨fun i hi => ?_, fun i k hi hk hne e => ?_⟩
  · unfold swapD
    split
    · split <;> assumption
    · exact hR.1 i hi
  · by_cases h1 : C i
    · by_cases h2 : C k
      · refine hR.2 i k hi hk hne ?_
        unfold swapD at e
        rw [if_pos h1, if_pos h2] at e
        rcases hC i h1 with h3 | h3 <;> rcases hC k h2 with h4 | h4
        · exact h3.trans h4.symm
        · rw [if_pos h3, if_neg (fun h => hab (h.symm.trans h4))] at e
          exact absurd e.symm hab
        · rw [if_neg (fun h => hab (h.symm.trans h3)), if_pos h4] at e
          exact absurd e hab
        · exact h3.trans h4.symm
      · exact part i k hi hk h1 h2 e
    · by_cases h2 : C k
      · have := part k i hk hi h2 h1 e.symm
        exact ⟨fun h => this.1 h.symm, fun h => this.2 h.symm⟩
      · refine hR.2 i k hi hk hne ?_
        unfold swapD at e
        rwa [if_neg h1, if_neg h2] at e

theorem one_more {f : Nat → W2} {n D : Nat} {d : Nat → Nat} (hR : Right f n D d) (hs : many (fun i => (f i).s) (f n).s n < D) (hm : many (fun i => (f i).m) (f n).m n < D) : ∃ d', Right f (n + 1) D d' := by
  obtain ⟨a, ha, hu⟩ := free_day (fun i => (f i).s) (f n).s d n D hs
  obtain ⟨b, hb, hv⟩ := free_day (fun i => (f i).m) (f n).m d n D hm
  have add : ∀ e : Nat → Nat, Right f n D e → (∀ i, i < n → (f i).s = (f n).s → e i ≠ a) → (∀ i, i < n → (f i).m = (f n).m → e i ≠ a) → ∃ d', Right f (n + 1) D d' := fun e hE h1 h2 => by
    refine ⟨fun i => if i = n then a else e i, fun i hi => ?_, fun i k hi hk hne he => ?_⟩
    · by_cases h : i = n
      · simp only [h, if_true]; exact ha
      · simp only [h, if_false]; exact hE.1 i (by omega)
    · by_cases h : i = n
      · have hkn : k ≠ n := fun h3 => hne (h.trans h3.symm)
        simp only [h, hkn, if_true, if_false] at he
        subst h
        exact ⟨fun h3 => h1 k (by omega) h3.symm he.symm, fun h3 => h2 k (by omega) h3.symm he.symm⟩
      · by_cases h3 : k = n
        · simp only [h, h3, if_true, if_false] at he
          subst h3
          exact ⟨fun h4 => h1 i (by omega) h4 he, fun h4 => h2 i (by omega) h4 he⟩
        · simp only [h, h3, if_false] at he
          exact hE.2 i k (by omega) (by omega) hne he
  by_cases hab : a = b
  · subst hab
    exact add d hR hu hv
  · refine add (swapD (Ch f n d a b (f n).m) a b d) (swap_right hR ha hb hab (fun i h => h.day.2) fun i k h hk h1 h2 h3 => h.closed hR hv hk h1 h2 h3) (fun i hi h1 => ?_) fun i hi h1 => ?_
    · unfold swapD
      rw [if_neg fun h => h.away hu h1]
      exact hu i hi h1
    · unfold swapD
      by_cases hc : Ch f n d a b (f n).m i
      · rw [if_pos hc]
        rcases hc.day.2 with h2 | h2
        · rw [if_pos h2]; exact fun h => hab h.symm
        · exact absurd h2 (hv i hi h1)
      · rw [if_neg hc]
        exact fun h2 => hc (.start i hi h1 h2)
theorem many_mono (g : Nat → Int) (x : Int) : ∀ {n k}, n ≤ k → many g x n ≤ many g x k
  | n, 0, h => by
    obtain rfl : n = 0 := by omega
    exact Nat.le_refl _
  | n, k + 1, h => by
    by_cases e : n = k + 1
    · subst e; exact Nat.le_refl _
    · have := many_mono g x (n := n) (k := k) (by omega)
      simp only [many]
      omega
/-- As few days as the greatest load are enough. -/
theorem days_enough (f : Nat → W2) (D : Nat) : ∀ n, (∀ x, many (fun i => (f i).s) x n ≤ D) → (∀ x, many (fun i => (f i).m) x n ≤ D) → ∃ d, Right f n D d
  | 0, _, _ => ⟨fun _ => 0, fun i hi => by omega, fun i k hi => by omega⟩
  | n + 1, h1, h2 => by
    obtain ⟨d, hd⟩ := days_enough f D n (fun x => Nat.le_trans (many_mono _ x (Nat.le_succ n)) (h1 x)) fun x => Nat.le_trans (many_mono _ x (Nat.le_succ n)) (h2 x)
    have e1 := h1 (f n).s
    have e2 := h2 (f n).m
    simp only [many, if_true] at e1 e2
    exact one_more hd (by omega) (by omega)

end Go.Proofs.YtbjgbgchagfokaaGreat

namespace Go.Proofs.YtbjgbgchagfokaaGreat
open Classical

/-- How many numbers below n are so. -/
noncomputable def cnt (p : Nat → Prop) : Nat → Nat
  | 0 => 0
  | k + 1 => cnt p k + if p k then 1 else 0
theorem cnt_congr {p q : Nat → Prop} : ∀ {n}, (∀ i, i < n → (p i ↔ q i)) → cnt p n = cnt q n
  | 0, _ => rfl
  | n + 1, h => by
    have h1 := cnt_congr (p := p) (q := q) (n := n) fun i hi => h i (by omega)
    have h2 := h n (by omega)
    simp only [cnt, h1, h2]
theorem cnt_mono {p q : Nat → Prop} : ∀ {n}, (∀ i, i < n → p i → q i) → cnt p n ≤ cnt q n
  | 0, _ => Nat.le_refl _
  | n + 1, h => by
    have h1 := cnt_mono (p := p) (q := q) (n := n) fun i hi => h i (by omega)
    have h2 := h n (by omega)
    simp only [cnt]
    by_cases e : p n
    · rw [if_pos e, if_pos (h2 e)]; omega
    · rw [if_neg e]; omega
theorem cnt_atmost (p : Nat → Prop) : ∀ n, cnt p n ≤ n
  | 0 => Nat.le_refl _
  | n + 1 => by have := cnt_atmost p n; simp only [cnt]; split <;> omega
theorem cnt_none {p : Nat → Prop} : ∀ {n}, (∀ i, i < n → ¬ p i) → cnt p n = 0
  | 0, _ => rfl
  | n + 1, h => by simp only [cnt, cnt_none (p := p) (n := n) fun i hi => h i (by omega), if_neg (h n (by omega))]
/-- One more. -/
theorem cnt_more {p q : Nat → Prop} {v : Nat} : ∀ {n}, v < n → ¬ p v → (∀ i, i < n → (q i ↔ p i ∨ i = v)) → cnt q n = cnt p n + 1
  | 0, h, _, _ => by omega
  | n + 1, hv, hp, h => by
    simp only [cnt]
    by_cases e : v = n
    · subst e
      rw [cnt_congr (p := q) (q := p) fun i hi => by
        rw [h i (by omega)]
        exact ⟨fun h => by rcases h with h | h; exact h; omega, .inl⟩, if_pos ((h v (by omega)).2 (.inr rfl)), if_neg hp]
    · rw [cnt_more (p := p) (q := q) (v := v) (n := n) (by omega) hp fun i hi => h i (by omega)]
      have h1 := h n (by omega)
      have h2 : q n ↔ p n := h1.trans ⟨fun h => by rcases h with h | h; exact h; exact absurd h.symm e, .inl⟩
      simp only [h2]
      omega
theorem cnt_split (p q : Nat → Prop) : ∀ n, cnt p n = cnt (fun i => p i ∧ q i) n + cnt (fun i => p i ∧ ¬ q i) n
  | 0 => rfl
  | n + 1 => by
    have := cnt_split p q n
    simp only [cnt]
    by_cases h : p n <;> by_cases h2 : q n <;> simp only [h, h2, and_self, and_true, not_true, not_false_iff, if_true, if_false, and_false] <;> omega
/-- As many numbers as there are such that have them, if each has its own. -/
theorem cnt_values (g : Nat → Int) (p : Nat → Prop) (T : Nat) : ∀ n, (∀ i, i < n → p i → 0 ≤ g i ∧ g i < T) → (∀ i k, i < n → k < n → p i → p k → g i = g k → i = k) → cnt (fun y => ∃ i, i < n ∧ p i ∧ g i = (y : Int)) T = cnt p n
  | 0, _, _ => cnt_none fun y _ h => by obtain ⟨i, hi, _⟩ := h; omega
  | n + 1, hr, hinj => by
    have ih := cnt_values g p T n (fun i hi => hr i (by omega)) fun i k hi hk => hinj i k (by omega) (by omega)
    simp only [cnt]
    by_cases hp : p n
    · obtain ⟨v, hv⟩ := Int.eq_ofNat_of_zero_le (hr n (by omega) hp).1
      have hvT : v < T := by have := (hr n (by omega) hp).2; omega
      rw [if_pos hp, ← ih]
      refine cnt_more (v := v) hvT (fun h => ?_) fun y _ => ⟨fun h => ?_, fun h => ?_⟩
      · obtain ⟨i, hi, hpi, e⟩ := h
        have := hinj i n (by omega) (by omega) hpi hp (e.trans hv.symm)
        omega
      · obtain ⟨i, hi, hpi, e⟩ := h
        by_cases hin : i = n
        · subst hin
          exact .inr (by omega)
        · exact .inl ⟨i, by omega, hpi, e⟩
      · rcases h with ⟨i, hi, hpi, e⟩ | e
        · exact ⟨i, by omega, hpi, e⟩
        · subst e
          exact ⟨n, by omega, hp, hv⟩
    · rw [if_neg hp, Nat.add_zero, ← ih]
      refine cnt_congr fun y _ => ⟨fun h => ?_, fun h => ?_⟩
      · obtain ⟨i, hi, hpi, e⟩ := h
        by_cases hin : i = n
        · subst hin; exact absurd hpi hp
        · exact ⟨i, by omega, hpi, e⟩
      · obtain ⟨i, hi, hpi, e⟩ := h
        exact ⟨i, by omega, hpi, e⟩

/-- Wants of one day. -/
def Day (f : Nat → W2) (n : Nat) (M : Nat → Prop) : Prop := ∀ i k, i < n → k < n → M i → M k → i ≠ k → (f i).s ≠ (f k).s ∧ (f i).m ≠ (f k).m
theorem Day.same {f : Nat → W2} {n : Nat} {M : Nat → Prop} (h : Day f n M) {i k : Nat} (hi : i < n) (hk : k < n) (a : M i) (b : M k) (hc : (f i).s = (f k).s ∨ (f i).m = (f k).m) : i = k := by
  by_cases e : i = k
  · exact e
  · have := h i k hi hk a b e
    rcases hc with hc | hc
    · exact absurd hc this.1
    · exact absurd hc this.2
/-- Shops that are reached from one that is not served, with the day's wants turned round so that they are not served. -/
inductive Reach (f : Nat → W2) (n : Nat) (M0 : Nat → Prop) : Int → (Nat → Prop) → Prop
  | base (i : Nat) (hi : i < n) (h : ∀ k, k < n → M0 k → (f k).s ≠ (f i).s) : Reach f n M0 (f i).s M0
  | step (r : Int) (M : Nat → Prop) (w w' : Nat) (h : Reach f n M0 r M) (hw : w < n) (hs : (f w).s = r) (hw' : w' < n) (hM : M w') (hm : (f w').m = (f w).m) : Reach f n M0 (f w').s fun i => (M i ∧ i ≠ w') ∨ i = w

structure Turn (f : Nat → W2) (n : Nat) (M0 : Nat → Prop) (r : Int) (M : Nat → Prop) : Prop where
  day : Day f n M
  size : cnt M n = cnt M0 n
  free : ∀ i, i < n → M i → (f i).s ≠ r
  moulds : ∀ x, (∃ i, i < n ∧ M i ∧ (f i).m = x) ↔ ∃ i, i < n ∧ M0 i ∧ (f i).m = x
  left : ∀ i, i < n → M0 i → ¬ M i → ∃ M', Reach f n M0 (f i).s M'
  want : ∃ i, i < n ∧ (f i).s = r

theorem reach_turn {f : Nat → W2} {n : Nat} {M0 : Nat → Prop} (hD : Day f n M0) {r : Int} {M : Nat → Prop} (h : Reach f n M0 r M) : Turn f n M0 r M := by
  induction h with
  | base i hi h => exact ⟨hD, rfl, h, fun x => Iff.rfl, fun k hk a b => absurd a b, i, hi, rfl⟩
  | step r M w w' hR hw hs hw' hM hm ih =>
    have hMw : ¬ M w := fun h => ih.free w hw h hs
    have hne : w ≠ w' := fun e => hMw (by rw [e]; exact hM)
    refine ⟨fun i k hi hk a b hik => ?_, ?_, fun i hi a => ?_, fun x => ?_, fun i hi a b => ?_, w', hw', rfl⟩
    · rcases a with a | a <;> rcases b with b | b
      · exact ih.day i k hi hk a.1 b.1 hik
      · subst b
        exact ⟨fun e => ih.free i hi a.1 (e.trans hs), fun e => a.2 (ih.day.same hi hw' a.1 hM (.inr (e.trans hm.symm)))⟩
      · subst a
        exact ⟨fun e => ih.free k hk b.1 (e.symm.trans hs), fun e => b.2 (ih.day.same hk hw' b.1 hM (.inr (e.symm.trans hm.symm)))⟩
      · exact absurd (a.trans b.symm) hik
    · have h1 := cnt_more (p := fun i => M i ∧ i ≠ w') (q := fun i => (M i ∧ i ≠ w') ∨ i = w) (v := w) (n := n) hw (fun h => hMw h.1) fun i _ => Iff.rfl
      have h2 := cnt_more (p := fun i => M i ∧ i ≠ w') (q := M) (v := w') (n := n) hw' (fun h => h.2 rfl) fun i _ => ⟨fun h => by
        by_cases e : i = w'
        · exact .inr e
        · exact .inl ⟨h, e⟩, fun h => by rcases h with h | h; exact h.1; rw [h]; exact hM⟩
      rw [h1, ← ih.size, h2]
    · rcases a with a | a
      · intro e
        exact a.2 (ih.day.same hi hw' a.1 hM (.inl e))
      · subst a
        rw [hs]
        exact fun e => ih.free w' hw' hM e.symm
    · rw [← ih.moulds x]
      constructor
      · rintro ⟨i, hi, a | a, e⟩
        · exact ⟨i, hi, a.1, e⟩
        · subst a
          exact ⟨w', hw', hM, hm.trans e⟩
      · rintro ⟨i, hi, a, e⟩
        by_cases h : i = w'
        · subst h
          exact ⟨w, hw, .inr rfl, hm.symm.trans e⟩
        · exact ⟨i, hi, .inl ⟨a, h⟩, e⟩
    · by_cases h : M i
      · have hiw : i = w' := by
          by_cases e : i = w'
          · exact e
          · exact absurd (.inl ⟨h, e⟩) b
        subst hiw
        exact ⟨_, .step r M w i hR hw hs hi h hm⟩
      · exact ih.left i hi a h

/-- Shops with wants; of some shops those, and the moulds that they want. -/
def WantS (f : Nat → W2) (n : Nat) (x : Nat) : Prop := ∃ i, i < n ∧ (f i).s = (x : Int)
def WantM (f : Nat → W2) (n : Nat) (A : Int → Prop) (y : Nat) : Prop := ∃ i, i < n ∧ A (f i).s ∧ (f i).m = (y : Int)

section
variable {f : Nat → W2} {n S T : Nat} (hS : ∀ i, i < n → 0 ≤ (f i).s ∧ (f i).s < S) (hT : ∀ i, i < n → 0 ≤ (f i).m ∧ (f i).m < T)
include hS hT

/-- No day's list has more wants than shops with wants, less what moulds are too few for some. -/
theorem list_most {M : Nat → Prop} (hD : Day f n M) (A : Int → Prop) (hA : ∀ x : Nat, x < S → A x → WantS f n x) : cnt M n + cnt (fun x => A (x : Int)) S ≤ cnt (WantS f n) S + cnt (WantM f n A) T := by
  have h1 : cnt (fun y => ∃ i, i < n ∧ (M i ∧ A (f i).s) ∧ (f i).m = (y : Int)) T = cnt (fun i => M i ∧ A (f i).s) n :=
    cnt_values (fun i => (f i).m) (fun i => M i ∧ A (f i).s) T n (fun i hi _ => hT i hi) fun i k hi hk a b e => hD.same hi hk a.1 b.1 (.inr e)
  have h2 : cnt (fun y => ∃ i, i < n ∧ (M i ∧ A (f i).s) ∧ (f i).m = (y : Int)) T ≤ cnt (WantM f n A) T := cnt_mono fun y _ h => by
    obtain ⟨i, hi, a, e⟩ := h
    exact ⟨i, hi, a.2, e⟩
  have h3 : cnt (fun x => ∃ i, i < n ∧ (M i ∧ ¬ A (f i).s) ∧ (f i).s = (x : Int)) S = cnt (fun i => M i ∧ ¬ A (f i).s) n :=
    cnt_values (fun i => (f i).s) (fun i => M i ∧ ¬ A (f i).s) S n (fun i hi _ => hS i hi) fun i k hi hk a b e => hD.same hi hk a.1 b.1 (.inl e)
  have h4 : cnt (fun x => ∃ i, i < n ∧ (M i ∧ ¬ A (f i).s) ∧ (f i).s = (x : Int)) S ≤ cnt (fun x => WantS f n x ∧ ¬ A (x : Int)) S := cnt_mono fun x _ h => by
    obtain ⟨i, hi, a, e⟩ := h
    exact ⟨⟨i, hi, e⟩, by rw [← e]; exact a.2⟩
  have h5 := cnt_split (WantS f n) (fun x => A (x : Int)) S
  have h6 : cnt (fun x => WantS f n x ∧ A (x : Int)) S = cnt (fun x => A (x : Int)) S := cnt_congr fun x hx => ⟨fun h => h.2, fun h => ⟨hA x hx h, h⟩⟩
  have h7 := cnt_split M (fun i => A (f i).s) n
  omega

/-- A greatest one has as many as that, for some shops. -/
theorem list_least {M : Nat → Prop} (hD : Day f n M) (hmax : ∀ M', Day f n M' → cnt M' n ≤ cnt M n) :
    ∃ A : Int → Prop, (∀ x : Nat, x < S → A x → WantS f n x) ∧ cnt M n + cnt (fun x => A (x : Int)) S = cnt (WantS f n) S + cnt (WantM f n A) T := by
  refine ⟨fun r => ∃ M', Reach f n M r M', fun x hx h => ?_, ?_⟩
  · obtain ⟨M', h⟩ := h
    exact (reach_turn hD h).want
  have covered : ∀ r M' w, Reach f n M r M' → w < n → (f w).s = r → ∃ i, i < n ∧ M i ∧ (f i).m = (f w).m := fun r M' w h hw hs => by
    have t := reach_turn hD h
    rw [← t.moulds]
    by_cases e : ∃ i, i < n ∧ M' i ∧ (f i).m = (f w).m
    · exact e
    · have hday : Day f n fun i => M' i ∨ i = w := fun i k hi hk a b hik => by
        rcases a with a | a <;> rcases b with b | b
        · exact t.day i k hi hk a b hik
        · subst b
          exact ⟨fun h => t.free i hi a (h.trans hs), fun h => e ⟨i, hi, a, h⟩⟩
        · subst a
          exact ⟨fun h => t.free k hk b (h.symm.trans hs), fun h => e ⟨k, hk, b, h.symm⟩⟩
        · exact absurd (a.trans b.symm) hik
      have h1 := cnt_more (p := M') (q := fun i => M' i ∨ i = w) (v := w) (n := n) hw (fun h => t.free w hw h hs) fun i _ => Iff.rfl
      have h2 := hmax _ hday
      rw [h1, t.size] at h2
      omega
  have partner : ∀ r M' w i, Reach f n M r M' → w < n → (f w).s = r → i < n → M i → (f i).m = (f w).m → ∃ M'', Reach f n M (f i).s M'' := fun r M' w i h hw hs hi hMi hm => by
    have t := reach_turn hD h
    by_cases e : M' i
    · exact ⟨_, .step r M' w i h hw hs hi e hm⟩
    · exact t.left i hi hMi e
  have h1 : cnt (fun y => ∃ i, i < n ∧ (M i ∧ ∃ M', Reach f n M (f i).s M') ∧ (f i).m = (y : Int)) T = cnt (fun i => M i ∧ ∃ M', Reach f n M (f i).s M') n :=
    cnt_values (fun i => (f i).m) (fun i => M i ∧ ∃ M', Reach f n M (f i).s M') T n (fun i hi _ => hT i hi) fun i k hi hk a b e => hD.same hi hk a.1 b.1 (.inr e)
  have h2 : cnt (fun y => ∃ i, i < n ∧ (M i ∧ ∃ M', Reach f n M (f i).s M') ∧ (f i).m = (y : Int)) T = cnt (WantM f n fun r => ∃ M', Reach f n M r M') T := cnt_congr fun y _ => ⟨fun h => by
    obtain ⟨i, hi, a, e⟩ := h
    exact ⟨i, hi, a.2, e⟩, fun h => by
    obtain ⟨w, hw, ⟨M', hR⟩, e⟩ := h
    obtain ⟨i, hi, hMi, hm⟩ := covered _ M' w hR hw rfl
    exact ⟨i, hi, ⟨hMi, partner _ M' w i hR hw rfl hi hMi hm⟩, hm.trans e⟩⟩
  have h3 : cnt (fun x => ∃ i, i < n ∧ (M i ∧ ¬ ∃ M', Reach f n M (f i).s M') ∧ (f i).s = (x : Int)) S = cnt (fun i => M i ∧ ¬ ∃ M', Reach f n M (f i).s M') n :=
    cnt_values (fun i => (f i).s) (fun i => M i ∧ ¬ ∃ M', Reach f n M (f i).s M') S n (fun i hi _ => hS i hi) fun i k hi hk a b e => hD.same hi hk a.1 b.1 (.inl e)
  have h4 : cnt (fun x => ∃ i, i < n ∧ (M i ∧ ¬ ∃ M', Reach f n M (f i).s M') ∧ (f i).s = (x : Int)) S = cnt (fun x => WantS f n x ∧ ¬ ∃ M', Reach f n M (x : Int) M') S := cnt_congr fun x _ => ⟨fun h => by
    obtain ⟨i, hi, a, e⟩ := h
    exact ⟨⟨i, hi, e⟩, by rw [← e]; exact a.2⟩, fun h => by
    obtain ⟨⟨w, hw, e⟩, hno⟩ := h
    by_cases h5 : ∃ i, i < n ∧ M i ∧ (f i).s = (f w).s
    · obtain ⟨i, hi, hMi, e2⟩ := h5
      exact ⟨i, hi, ⟨hMi, by rw [e2, e]; exact hno⟩, e2.trans e⟩
    · exact absurd ⟨M, by rw [← e]; exact .base w hw fun k hk a b => h5 ⟨k, hk, a, b⟩⟩ hno⟩
  have h5 := cnt_split (WantS f n) (fun x => ∃ M', Reach f n M (x : Int) M') S
  have h6 : cnt (fun x => WantS f n x ∧ ∃ M', Reach f n M (x : Int) M') S = cnt (fun x => ∃ M', Reach f n M (x : Int) M') S := cnt_congr fun x _ => ⟨fun h => h.2, fun h => by
    obtain ⟨M', hR⟩ := h
    exact ⟨(reach_turn hD hR).want, M', hR⟩⟩
  have h7 := cnt_split M (fun i => ∃ M', Reach f n M (f i).s M') n
  have h8 : cnt (fun x => (fun r => ∃ M', Reach f n M r M') (x : Int)) S = cnt (fun x => ∃ M', Reach f n M (x : Int) M') S := rfl
  rw [h8]
  omega
end

end Go.Proofs.YtbjgbgchagfokaaGreat

namespace Go.Proofs.YtbjgbgchagfokaaGreat
open Classical

theorem many_cnt (g : Nat → Int) (x : Int) : ∀ n, many g x n = cnt (fun i => g i = x) n
  | 0 => rfl
  | n + 1 => by
    simp only [many, cnt, many_cnt g x n]
    by_cases e : g n = x <;> simp only [e, if_true, if_false]
/-- The days that are used. -/
def Used (n : Nat) (d : Nat → Nat) (a : Nat) : Prop := ∃ i, i < n ∧ d i = a
theorem used_count {f : Nat → W2} {n D : Nat} {d : Nat → Nat} (hR : Right f n D d) (p : Nat → Prop) (hp : ∀ i k, i < n → k < n → p i → p k → i ≠ k → (f i).s = (f k).s ∨ (f i).m = (f k).m) : cnt p n ≤ cnt (Used n d) D := by
  rw [← cnt_values (fun i => (d i : Int)) p D n (fun i hi _ => ⟨by omega, by have := hR.1 i hi; omega⟩) fun i k hi hk a b e => by
    by_cases hik : i = k
    · exact hik
    · exact hR.same hi hk (by omega) (hp i k hi hk a b hik)]
  exact cnt_mono fun y _ h => by
    obtain ⟨i, hi, _, e⟩ := h
    exact ⟨i, hi, by omega⟩
/-- No load is greater than the number of different days. -/
theorem load_s {f : Nat → W2} {n D : Nat} {d : Nat → Nat} (hR : Right f n D d) (x : Int) : many (fun i => (f i).s) x n ≤ cnt (Used n d) D := by
  rw [many_cnt]
  exact used_count hR _ fun i k _ _ a b _ => .inl (a.trans b.symm)
theorem load_m {f : Nat → W2} {n D : Nat} {d : Nat → Nat} (hR : Right f n D d) (x : Int) : many (fun i => (f i).m) x n ≤ cnt (Used n d) D := by
  rw [many_cnt]
  exact used_count hR _ fun i k _ _ a b _ => .inr (a.trans b.symm)
/-- Right days with at most as many different ones as the greatest load. -/
theorem fewest (f : Nat → W2) (n D D' : Nat) (hD : D ≤ D') (h1 : ∀ x, many (fun i => (f i).s) x n ≤ D) (h2 : ∀ x, many (fun i => (f i).m) x n ≤ D) : ∃ d, Right f n D' d ∧ cnt (Used n d) D' ≤ D := by
  obtain ⟨d, hd⟩ := days_enough f D n h1 h2
  refine ⟨d, ⟨fun i hi => by have := hd.1 i hi; omega, hd.2⟩, ?_⟩
  have h3 : ∀ E, cnt (Used n d) (D + E) ≤ D := fun E => by
    induction E with
    | zero => exact cnt_atmost _ _
    | succ E ih =>
      have : ¬ Used n d (D + E) := fun h => by
        obtain ⟨i, hi, e⟩ := h
        have := hd.1 i hi
        omega
      show cnt (Used n d) (D + E) + (if Used n d (D + E) then 1 else 0) ≤ D
      rw [if_neg this]
      exact ih
  have := h3 (D' - D)
  rwa [show D + (D' - D) = D' by omega] at this

/-- Shops and moulds so that each want is of one of them. -/
def IsCover (f : Nat → W2) (n : Nat) (A B : Int → Prop) : Prop := ∀ i, i < n → A (f i).s ∨ B (f i).m
section
variable {f : Nat → W2} {n S T : Nat} (hS : ∀ i, i < n → 0 ≤ (f i).s ∧ (f i).s < S) (hT : ∀ i, i < n → 0 ≤ (f i).m ∧ (f i).m < T)
include hS hT
theorem cover_most {M : Nat → Prop} (hD : Day f n M) {A B : Int → Prop} (hC : IsCover f n A B) : cnt M n ≤ cnt (fun x => A (x : Int)) S + cnt (fun y => B (y : Int)) T := by
  have h1 : cnt (fun x => ∃ i, i < n ∧ (M i ∧ A (f i).s) ∧ (f i).s = (x : Int)) S = cnt (fun i => M i ∧ A (f i).s) n :=
    cnt_values (fun i => (f i).s) (fun i => M i ∧ A (f i).s) S n (fun i hi _ => hS i hi) fun i k hi hk a b e => hD.same hi hk a.1 b.1 (.inl e)
  have h2 : cnt (fun x => ∃ i, i < n ∧ (M i ∧ A (f i).s) ∧ (f i).s = (x : Int)) S ≤ cnt (fun x => A (x : Int)) S := cnt_mono fun x _ h => by
    obtain ⟨i, hi, a, e⟩ := h
    show A (x : Int)
    rw [← e]; exact a.2
  have h3 : cnt (fun y => ∃ i, i < n ∧ (M i ∧ ¬ A (f i).s) ∧ (f i).m = (y : Int)) T = cnt (fun i => M i ∧ ¬ A (f i).s) n :=
    cnt_values (fun i => (f i).m) (fun i => M i ∧ ¬ A (f i).s) T n (fun i hi _ => hT i hi) fun i k hi hk a b e => hD.same hi hk a.1 b.1 (.inr e)
  have h4 : cnt (fun y => ∃ i, i < n ∧ (M i ∧ ¬ A (f i).s) ∧ (f i).m = (y : Int)) T ≤ cnt (fun y => B (y : Int)) T := cnt_mono fun y _ h => by
    obtain ⟨i, hi, a, e⟩ := h
    show B (y : Int)
    rw [← e]
    exact (hC i hi).resolve_left a.2
  have h5 := cnt_split M (fun i => A (f i).s) n
  omega
/-- A greatest day's list has a cover with as many numbers. -/
theorem cover_least {M : Nat → Prop} (hD : Day f n M) (hmax : ∀ M', Day f n M' → cnt M' n ≤ cnt M n) :
    ∃ A B : Int → Prop, IsCover f n A B ∧ cnt (fun x => A (x : Int)) S + cnt (fun y => B (y : Int)) T = cnt M n := by
  obtain ⟨A, hA, hc⟩ := list_least hS hT hD hmax
  refine ⟨fun r => (∃ i, i < n ∧ (f i).s = r) ∧ ¬ A r, fun y => ∃ i, i < n ∧ A (f i).s ∧ (f i).m = y, fun i hi => ?_, ?_⟩
  · by_cases h : A (f i).s
    · exact .inr ⟨i, hi, h, rfl⟩
    · exact .inl ⟨⟨i, hi, rfl⟩, h⟩
  · have h5 := cnt_split (WantS f n) (fun x => A (x : Int)) S
    have h6 : cnt (fun x => WantS f n x ∧ A (x : Int)) S = cnt (fun x => A (x : Int)) S := cnt_congr fun x hx => ⟨fun h => h.2, fun h => ⟨hA x hx h, h⟩⟩
    show cnt (fun x : Nat => (∃ i, i < n ∧ (f i).s = (x : Int)) ∧ ¬ A (x : Int)) S + cnt (fun y : Nat => ∃ i, i < n ∧ A (f i).s ∧ (f i).m = (y : Int)) T = cnt M n
    have h7 : cnt (fun x : Nat => (∃ i, i < n ∧ (f i).s = (x : Int)) ∧ ¬ A (x : Int)) S = cnt (fun x => WantS f n x ∧ ¬ A (x : Int)) S := rfl
    have h8 : cnt (fun y : Nat => ∃ i, i < n ∧ A (f i).s ∧ (f i).m = (y : Int)) T = cnt (WantM f n A) T := rfl
    omega
end

end Go.Proofs.YtbjgbgchagfokaaGreat

namespace Go.Proofs.YtbjgbgchagfokaaGreat
open Classical

/-- Two wants clash. -/
def Clashes (f : Nat → W2) (i k : Nat) : Prop := (f i).s = (f k).s ∨ (f i).m = (f k).m
theorem Clashes.symm {f : Nat → W2} {i k : Nat} (h : Clashes f i k) : Clashes f k i := h.imp Eq.symm Eq.symm
/-- The chain of a want among those that are meant. -/
inductive Chn (f : Nat → W2) (n : Nat) (P : Nat → Prop) (w : Nat) : Nat → Prop
  | self : Chn f n P w w
  | next (i k : Nat) (h : Chn f n P w i) (hk : k < n) (hP : P k) (hc : Clashes f i k) : Chn f n P w k
theorem Chn.in {f : Nat → W2} {n : Nat} {P : Nat → Prop} {w i : Nat} (hw : w < n) (hP : P w) (h : Chn f n P w i) : i < n ∧ P i := by
  cases h with
  | self => exact ⟨hw, hP⟩
  | next i k h hk hP hc => exact ⟨hk, hP⟩
theorem Chn.trans {f : Nat → W2} {n : Nat} {P : Nat → Prop} {w i k : Nat} (h1 : Chn f n P w i) (h2 : Chn f n P i k) : Chn f n P w k := by
  induction h2 with
  | self => exact h1
  | next a b h hk hP hc ih => exact .next a b ih hk hP hc
theorem Chn.symm {f : Nat → W2} {n : Nat} {P : Nat → Prop} {w i : Nat} (hw : w < n) (hP : P w) (h : Chn f n P w i) : Chn f n P i w := by
  induction h with
  | self => exact .self
  | next a b h hk hPb hc ih =>
    have := h.in hw hP
    exact (Chn.next b a .self this.1 this.2 hc.symm).trans ih
/-- The chain of any want of it is the same. -/
theorem Chn.same {f : Nat → W2} {n : Nat} {P : Nat → Prop} {w v : Nat} (hw : w < n) (hP : P w) (h : Chn f n P w v) (k : Nat) : Chn f n P v k ↔ Chn f n P w k :=
  ⟨fun h1 => h.trans h1, fun h1 => (h.symm hw hP).trans h1⟩
theorem Chn.congr {f : Nat → W2} {n : Nat} {P Q : Nat → Prop} (hPQ : ∀ i, i < n → (P i ↔ Q i)) {w k : Nat} (h : Chn f n P w k) : Chn f n Q w k := by
  induction h with
  | self => exact .self
  | next a b h hk hP hc ih => exact .next a b ih hk ((hPQ b hk).1 hP) hc

/-- The wants of two days. -/
def Two (d : Nat → Nat) (a b : Nat) (i : Nat) : Prop := d i = a ∨ d i = b
theorem two_turn (d : Nat → Nat) (a b i : Nat) : Two d a b i ↔ Two d b a i := ⟨Or.symm, Or.symm⟩
theorem two_swap (C : Nat → Prop) (d : Nat → Nat) (a b i : Nat) (hC : C i → Two d a b i) : Two (swapD C a b d) a b i ↔ Two d a b i := by
  unfold Two swapD
  by_cases h : C i
  · rw [if_pos h]
    have := hC h
    unfold Two at this
    by_cases e : d i = a
    · rw [if_pos e]; exact ⟨fun _ => .inl e, fun _ => .inr rfl⟩
    · rw [if_neg e]; exact ⟨fun _ => this, fun _ => .inl rfl⟩
  · rw [if_neg h]
/-- Days stay right when a chain is swapped. -/
theorem chain_right {f : Nat → W2} {n D : Nat} {d : Nat → Nat} {a b w : Nat} (hR : Right f n D d) (ha : a < D) (hb : b < D) (hab : a ≠ b) (hw : w < n) (h : Two d a b w) : Right f n D (swapD (Chn f n (Two d a b) w) a b d) :=
  swap_right hR ha hb hab (fun _ hi => (hi.in hw h).2) fun i k hi hk h1 _ hc => .next i k hi hk h1 (hc.imp Eq.symm Eq.symm)
/-- It is the same chain afterwards, named by any want of it, and whichever day is named first. -/
theorem chain_again {f : Nat → W2} {n : Nat} {d : Nat → Nat} {a b w v : Nat} (hw : w < n) (h : Two d a b w) (hv : Chn f n (Two d a b) w v) (k : Nat) :
    Chn f n (Two (swapD (Chn f n (Two d a b) w) a b d) a b) v k ↔ Chn f n (Two d a b) w k := by
  have hin : ∀ i, i < n → (Two (swapD (Chn f n (Two d a b) w) a b d) a b i ↔ Two d a b i) := fun i hi => two_swap _ d a b i fun hc => (hc.in hw h).2
  rw [← hv.same hw h k]
  exact ⟨fun h1 => h1.congr hin, fun h1 => h1.congr fun i hi => (hin i hi).symm⟩
/-- Swapped again the days are what they were. -/
theorem swap_back {C C' : Nat → Prop} {d : Nat → Nat} {a b i : Nat} (hab : a ≠ b) (hC : C i → Two d a b i) (hCC : C' i ↔ C i) : swapD C' a b (swapD C a b d) i = d i := by
  unfold swapD
  by_cases h : C i
  · rw [if_pos (hCC.2 h), if_pos h]
    have := hC h
    unfold Two at this
    by_cases e : d i = a
    · rw [if_pos e, if_neg (fun h => hab h.symm), e]
    · rw [if_neg e, if_pos rfl]
      exact (this.resolve_left e).symm
  · rw [if_neg fun h1 => h (hCC.1 h1), if_neg h]
theorem swap_turn (C : Nat → Prop) (d : Nat → Nat) (a b i : Nat) (hab : a ≠ b) (hC : C i → Two d a b i) : swapD C a b d i = swapD C b a d i := by
  unfold swapD
  by_cases h : C i
  · rw [if_pos h, if_pos h]
    have := hC h
    unfold Two at this
    by_cases e : d i = a
    · rw [if_pos e, if_neg (fun h1 => hab (e.symm.trans h1))]
    · rw [if_neg e, if_pos (this.resolve_left e)]
  · rw [if_neg h, if_neg h]

end Go.Proofs.YtbjgbgchagfokaaGreat

namespace Go.Proofs.YtbjgbgchagfokaaGreat
open Classical

/-- There is a greatest day's list. -/
theorem exists_most (f : Nat → W2) (n : Nat) : ∃ M, Day f n M ∧ ∀ M', Day f n M' → cnt M' n ≤ cnt M n := by
  have h : ∀ k M, Day f n M → n ≤ cnt M n + k → ∃ M, Day f n M ∧ ∀ M', Day f n M' → cnt M' n ≤ cnt M n := fun k => by
    induction k with
    | zero => exact fun M hM h => ⟨M, hM, fun M' _ => by have := cnt_atmost M' n; omega⟩
    | succ k ih =>
      intro M hM h
      by_cases e : ∃ M', Day f n M' ∧ cnt M n < cnt M' n
      · obtain ⟨M', h1, h2⟩ := e
        exact ih M' h1 (by omega)
      · exact ⟨M, hM, fun M' h1 => by
          by_cases h2 : cnt M' n ≤ cnt M n
          · exact h2
          · exact absurd ⟨M', h1, by omega⟩ e⟩
  exact h n (fun _ => False) (fun _ _ _ _ a => a.elim) (by omega)

/-- All shops that have wants are served. -/
def AllServed (f : Nat → W2) (n : Nat) (M : Nat → Prop) : Prop := ∀ i, i < n → ∃ k, k < n ∧ M k ∧ (f k).s = (f i).s
section
variable {f : Nat → W2} {n S T : Nat} (hS : ∀ i, i < n → 0 ≤ (f i).s ∧ (f i).s < S) (hT : ∀ i, i < n → 0 ≤ (f i).m ∧ (f i).m < T)
include hS
theorem list_shops {M : Nat → Prop} (hD : Day f n M) : cnt (fun x => ∃ i, i < n ∧ M i ∧ (f i).s = (x : Int)) S = cnt M n :=
  cnt_values (fun i => (f i).s) M S n (fun i hi _ => hS i hi) fun _ _ hi hk a b e => hD.same hi hk a b (.inl e)
theorem served_count {M : Nat → Prop} (hD : Day f n M) (h : AllServed f n M) : cnt M n = cnt (WantS f n) S := by
  rw [← list_shops hS hD]
  exact cnt_congr fun x _ => ⟨fun ⟨i, hi, _, e⟩ => ⟨i, hi, e⟩, fun ⟨i, hi, e⟩ => by
    obtain ⟨k, hk, hM, e2⟩ := h i hi
    exact ⟨k, hk, hM, e2.trans e⟩⟩
omit hS in
theorem cnt_eq {p q : Nat → Prop} : ∀ {n}, (∀ i, i < n → p i → q i) → cnt p n = cnt q n → ∀ i, i < n → q i → p i
  | 0, _, _, i, hi, _ => by omega
  | n + 1, h, e, i, hi, hq => by
    have h1 := cnt_mono (p := p) (q := q) (n := n) fun k hk => h k (by omega)
    have h2 := h n (by omega)
    simp only [cnt] at e
    by_cases hp : p n
    · rw [if_pos hp, if_pos (h2 hp)] at e
      by_cases hin : i = n
      · rw [hin]; exact hp
      · exact cnt_eq (p := p) (q := q) (n := n) (fun k hk => h k (by omega)) (by omega) i (by omega) hq
    · rw [if_neg hp] at e
      by_cases hqn : q n
      · rw [if_pos hqn] at e
        omega
      · rw [if_neg hqn] at e
        by_cases hin : i = n
        · rw [hin] at hq; exact absurd hq hqn
        · exact cnt_eq (p := p) (q := q) (n := n) (fun k hk => h k (by omega)) (by omega) i (by omega) hq
theorem count_served {M : Nat → Prop} (hD : Day f n M) (h : cnt (WantS f n) S ≤ cnt M n) : AllServed f n M := fun i hi => by
  have h1 := list_shops hS hD
  have h2 : cnt (fun x => ∃ i, i < n ∧ M i ∧ (f i).s = (x : Int)) S ≤ cnt (WantS f n) S := cnt_mono fun x _ ⟨i, hi, _, e⟩ => ⟨i, hi, e⟩
  obtain ⟨v, hv⟩ := Int.eq_ofNat_of_zero_le (hS i hi).1
  have hvS : v < S := by have := (hS i hi).2; omega
  obtain ⟨k, hk, hM, e⟩ := cnt_eq (p := fun x => ∃ i, i < n ∧ M i ∧ (f i).s = (x : Int)) (q := WantS f n) (fun x _ ⟨i, hi, _, e⟩ => ⟨i, hi, e⟩) (by omega) v hvS ⟨i, hi, hv⟩
  exact ⟨k, hk, hM, e.trans hv.symm⟩
include hT
/-- Not both: served, and short. -/
theorem served_enough {M : Nat → Prop} (hD : Day f n M) (h : AllServed f n M) (A : Int → Prop) (hA : ∀ x : Nat, x < S → A x → WantS f n x) : cnt (fun x => A (x : Int)) S ≤ cnt (WantM f n A) T := by
  have h1 := list_most hS hT hD A hA
  have h2 := served_count hS hD h
  omega
/-- One of both. -/
theorem served_or_short : (∃ M, Day f n M ∧ AllServed f n M) ∨ ∃ A : Int → Prop, (∀ x : Nat, x < S → A x → WantS f n x) ∧ cnt (WantM f n A) T < cnt (fun x => A (x : Int)) S := by
  obtain ⟨M, hD, hmax⟩ := exists_most f n
  obtain ⟨A, hA, hc⟩ := list_least hS hT hD hmax
  by_cases h : cnt (WantS f n) S ≤ cnt M n
  · exact .inl ⟨M, hD, count_served hS hD h⟩
  · exact .inr ⟨A, hA, by omega⟩
end

/-- Who has as many wants as there are different days has one on each. -/
theorem full_day {f : Nat → W2} {n D : Nat} {d : Nat → Nat} (hR : Right f n D d) (x : Int) (h : cnt (Used n d) D ≤ many (fun i => (f i).s) x n) (a : Nat) (ha : Used n d a) : ∃ i, i < n ∧ (f i).s = x ∧ d i = a := by
  have haD : a < D := by
    obtain ⟨i, hi, e⟩ := ha
    have := hR.1 i hi
    omega
  rw [many_cnt] at h
  have h1 := cnt_values (fun i => (d i : Int)) (fun i => (f i).s = x) D n (fun i hi _ => ⟨by omega, by have := hR.1 i hi; omega⟩) fun i k hi hk a b e => hR.same hi hk (by omega) (.inl (a.trans b.symm))
  have h2 : ∀ y, y < D → (∃ i, i < n ∧ (f i).s = x ∧ (d i : Int) = (y : Int)) → Used n d y := fun y _ ⟨i, hi, _, e⟩ => ⟨i, hi, by omega⟩
  have h3 := cnt_mono (n := D) h2
  obtain ⟨i, hi, e1, e2⟩ := cnt_eq h2 (by omega) a haD ha
  exact ⟨i, hi, e1, by omega⟩
/-- The wants of one day are a day's list. -/
theorem day_list {f : Nat → W2} {n D : Nat} {d : Nat → Nat} (hR : Right f n D d) (a : Nat) : Day f n fun i => d i = a := fun i k hi hk h1 h2 hne => hR.2 i k hi hk hne (h1.trans h2.symm)

/-- With one more want a best list has at most one more, and no fewer. -/
theorem list_one_more {f : Nat → W2} {n : Nat} {M M' : Nat → Prop} (hD : Day f n M) (hmax : ∀ N, Day f n N → cnt N n ≤ cnt M n) (hD' : Day f (n + 1) M') (hmax' : ∀ N, Day f (n + 1) N → cnt N (n + 1) ≤ cnt M' (n + 1)) :
    cnt M n ≤ cnt M' (n + 1) ∧ cnt M' (n + 1) ≤ cnt M n + 1 := by
  constructor
  · have h1 : Day f (n + 1) fun i => M i ∧ i ≠ n := fun i k hi hk a b hne => hD i k (by omega) (by omega) a.1 b.1 hne
    have h2 := hmax' _ h1
    have h3 : cnt (fun i => M i ∧ i ≠ n) (n + 1) = cnt M n := by
      simp only [cnt, ne_eq, not_true, and_false, if_false, Nat.add_zero]
      exact cnt_congr fun i hi => ⟨fun h => h.1, fun h => ⟨h, by omega⟩⟩
    omega
  · have h1 : Day f n M' := fun i k hi hk a b hne => hD' i k (by omega) (by omega) a b hne
    have h2 := hmax _ h1
    simp only [cnt]
    split <;> omega

end Go.Proofs.YtbjgbgchagfokaaGreat

namespace Go.Proofs.YtbjgbgchagfokaaGreat
open Classical

/-- The same for the first k. -/
def Agree (k : Nat) (d e : Nat → Nat) : Prop := ∀ j, j < k → d j = e j
/-- Before another one in lexicographic order. -/
def LexLt (n : Nat) (d e : Nat → Nat) : Prop := ∃ k, k < n ∧ Agree k d e ∧ d k < e k
/-- The first right ones of those that begin so. -/
structure Firsts (f : Nat → W2) (n D k : Nat) (p l : Nat → Nat) : Prop where
  right : Right f n D l
  begins : Agree k l p
  first : ∀ d, Right f n D d → Agree k d p → ¬ LexLt n d l
/-- None begin so. -/
def Nones (f : Nat → W2) (n D k : Nat) (p : Nat → Nat) : Prop := ∀ d, Right f n D d → ¬ Agree k d p
/-- None begin so, and go on with a number below this one. -/
def NoneTo (f : Nat → W2) (n D k : Nat) (p : Nat → Nat) (v : Nat) : Prop := ∀ d, Right f n D d → Agree k d p → v ≤ d k
/-- With one more number. -/
def updD (p : Nat → Nat) (k v : Nat) (i : Nat) : Nat := if i = k then v else p i
theorem agree_upd {p d : Nat → Nat} {k v : Nat} : Agree (k + 1) d (updD p k v) ↔ Agree k d p ∧ d k = v := by
  constructor
  · intro h
    refine ⟨fun j hj => ?_, ?_⟩
    · have := h j (by omega)
      unfold updD at this
      rwa [if_neg (by omega)] at this
    · have := h k (by omega)
      unfold updD at this
      rwa [if_pos rfl] at this
  · rintro ⟨h1, h2⟩ j hj
    unfold updD
    by_cases e : j = k
    · rw [if_pos e, e, h2]
    · rw [if_neg e]; exact h1 j (by omega)

theorem firsts_end {f : Nat → W2} {n D : Nat} {p : Nat → Nat} (h : Right f n D p) : Firsts f n D n p p :=
  ⟨h, fun _ _ => rfl, fun d _ ha ⟨k, hk, _, hlt⟩ => by have := ha k hk; omega⟩
/-- A number that the next one can have, by those before. -/
def Fits (f : Nat → W2) (k : Nat) (p : Nat → Nat) (v : Nat) : Prop := ∀ i, i < k → p i = v → (f i).s ≠ (f k).s ∧ (f i).m ≠ (f k).m
theorem none_zero (f : Nat → W2) (n D k : Nat) (p : Nat → Nat) : NoneTo f n D k p 0 := fun _ _ _ => Nat.zero_le _
theorem none_unfit {f : Nat → W2} {n D k : Nat} {p : Nat → Nat} {v : Nat} (hk : k < n) (h : NoneTo f n D k p v) (hf : ¬ Fits f k p v) : NoneTo f n D k p (v + 1) := fun d hd ha => by
  have h1 := h d hd ha
  by_cases e : d k = v
  · exact absurd (fun i hi hv => hd.2 i k (by omega) hk (by omega) (by rw [ha i hi, hv, e])) hf
  · omega
theorem none_sub {f : Nat → W2} {n D k : Nat} {p : Nat → Nat} {v : Nat} (h : NoneTo f n D k p v) (hs : Nones f n D (k + 1) (updD p k v)) : NoneTo f n D k p (v + 1) := fun d hd ha => by
  have h1 := h d hd ha
  by_cases e : d k = v
  · exact absurd (agree_upd.2 ⟨ha, e⟩) (hs d hd)
  · omega
theorem none_whole {f : Nat → W2} {n D k : Nat} {p : Nat → Nat} (hk : k < n) (h : NoneTo f n D k p D) : Nones f n D k p := fun d hd ha => by
  have h1 := h d hd ha
  have h2 := hd.1 k hk
  omega
theorem firsts_sub {f : Nat → W2} {n D k : Nat} {p l : Nat → Nat} {v : Nat} (h : NoneTo f n D k p v) (hl : Firsts f n D (k + 1) (updD p k v) l) : Firsts f n D k p l := by
  have hb := agree_upd.1 hl.begins
  refine ⟨hl.right, hb.1, fun d hd ha hlt => ?_⟩
  have h1 := h d hd ha
  by_cases e : d k = v
  · exact hl.first d hd (agree_upd.2 ⟨ha, e⟩) hlt
  · obtain ⟨j, hj, hag, hlt⟩ := hlt
    rcases Nat.lt_trichotomy j k with h2 | h2 | h2
    · have := ha j h2; have := hb.1 j h2; omega
    · subst h2; omega
    · have := hag k h2; omega
/-- What begins rightly is right with one more that fits. -/
theorem right_upd {f : Nat → W2} {D k : Nat} {p : Nat → Nat} {v : Nat} (h : Right f k D p) (hv : v < D) (hf : Fits f k p v) : Right f (k + 1) D (updD p k v) := by
  refine ⟨fun i hi => ?_, fun i j hi hj hne e => ?_⟩
  · unfold updD
    split
    · exact hv
    · exact h.1 i (by omega)
  · unfold updD at e
    by_cases h1 : i = k
    · rw [if_pos h1, if_neg (show j ≠ k by omega)] at e
      have := hf j (by omega) e.symm
      rw [h1]
      exact ⟨fun h => this.1 h.symm, fun h => this.2 h.symm⟩
    · by_cases h2 : j = k
      · rw [if_neg h1, if_pos h2] at e
        rw [h2]
        exact hf i (by omega) e
      · rw [if_neg h1, if_neg h2] at e
        exact h.2 i j (by omega) (by omega) hne e
theorem lex_three (n : Nat) (d e : Nat → Nat) : LexLt n d e ∨ Agree n d e ∨ LexLt n e d := by
  induction n with
  | zero => exact .inr (.inl fun j hj => by omega)
  | succ n ih =>
    rcases ih with ⟨k, hk, h⟩ | h | ⟨k, hk, h⟩
    · exact .inl ⟨k, by omega, h⟩
    · rcases Nat.lt_trichotomy (d n) (e n) with h1 | h1 | h1
      · exact .inl ⟨n, by omega, h, h1⟩
      · exact .inr (.inl fun j hj => by
          by_cases e1 : j = n
          · rw [e1]; exact h1
          · exact h j (by omega))
      · exact .inr (.inr ⟨n, by omega, fun j hj => (h j hj).symm, h1⟩)
    · exact .inr (.inr ⟨k, by omega, h⟩)
/-- There is but one first. -/
theorem firsts_one {f : Nat → W2} {n D k : Nat} {p l l' : Nat → Nat} (h : Firsts f n D k p l) (h' : Firsts f n D k p l') : Agree n l l' := by
  rcases lex_three n l l' with e | e | e
  · exact absurd e (h'.first l h.right h.begins)
  · exact e
  · exact absurd e (h.first l' h'.right h'.begins)
/-- One is first, or there are none. -/
theorem firsts_or (f : Nat → W2) (n D : Nat) : ∀ r k p, k + r = n → (∃ l, Firsts f n D k p l) ∨ Nones f n D k p := fun r => by
  induction r with
  | zero =>
    intro k p e
    obtain rfl : k = n := by omega
    by_cases h : ∃ d, Right f k D d ∧ Agree k d p
    · obtain ⟨d, h1, h2⟩ := h
      exact .inl ⟨d, h1, h2, fun e _ ha ⟨j, hj, _, hlt⟩ => by have := ha j hj; have := h2 j hj; omega⟩
    · exact .inr fun d h1 h2 => h ⟨d, h1, h2⟩
  | succ r ih =>
    intro k p e
    have h : ∀ v, (∃ l, Firsts f n D k p l) ∨ NoneTo f n D k p v := fun v => by
      induction v with
      | zero => exact .inr (none_zero f n D k p)
      | succ v ihv =>
        rcases ihv with h | h
        · exact .inl h
        · rcases ih (k + 1) (updD p k v) (by omega) with ⟨l, h1⟩ | h1
          · exact .inl ⟨l, firsts_sub h h1⟩
          · exact .inr (none_sub h h1)
    exact (h D).imp_right fun h1 => none_whole (by omega) h1
theorem firsts_some {f : Nat → W2} {n D : Nat} {d : Nat → Nat} (h : Right f n D d) : ∃ l, Firsts f n D 0 d l := by
  rcases firsts_or f n D n 0 d (by omega) with h1 | h1
  · exact h1
  · exact absurd (fun j hj => by omega) (h1 d h)

end Go.Proofs.YtbjgbgchagfokaaGreat

namespace Go.Proofs.YtbjgbgchagfokaaGreat
open Classical

/-- The first number behind all of those before. -/
def topU (p : Nat → Nat) : Nat → Nat
  | 0 => 0
  | k + 1 => max (topU p k) (p k + 1)
theorem topU_gt {p : Nat → Nat} {i : Nat} : ∀ {k}, i < k → p i < topU p k
  | 0, h => by omega
  | k + 1, h => by
    simp only [topU]
    by_cases e : i = k
    · rw [e]; omega
    · have := topU_gt (p := p) (i := i) (k := k) (by omega)
      omega
theorem topU_congr {d e : Nat → Nat} : ∀ {k}, Agree k d e → topU d k = topU e k
  | 0, _ => rfl
  | k + 1, h => by simp only [topU, topU_congr (d := d) (e := e) (k := k) fun j hj => h j (by omega), h k (by omega)]
def Normal (n : Nat) (d : Nat → Nat) : Prop := ∀ j, j < n → d j ≤ topU d j
/-- Two numbers exchanged. -/
def exch (u v x : Nat) : Nat := if x = u then v else if x = v then u else x
theorem exch_inj {u v x y : Nat} (h : exch u v x = exch u v y) : x = y := by
  unfold exch at h
  by_cases h1 : x = u <;> by_cases h2 : y = u <;> by_cases h3 : x = v <;> by_cases h4 : y = v <;> simp only [h1, h2, h3, h4, if_true, if_false] at h <;> grind
/-- The first ones are normal. -/
theorem firsts_normal {f : Nat → W2} {n D : Nat} {p l : Nat → Nat} (h : Firsts f n D 0 p l) : Normal n l := fun j hj => by
  by_cases e : l j ≤ topU l j
  · exact e
  · have hjD := h.right.1 j hj
    have hR : Right f n D fun i => exch (topU l j) (l j) (l i) := ⟨fun i hi => by
      have := h.right.1 i hi
      show exch (topU l j) (l j) (l i) < D
      unfold exch
      split
      · omega
      · split <;> omega, fun i k hi hk hne he => h.right.2 i k hi hk hne (exch_inj he)⟩
    refine absurd ⟨j, hj, fun i hi => ?_, ?_⟩ (h.first _ hR fun i hi => by omega)
    · have := topU_gt (p := l) hi
      show exch (topU l j) (l j) (l i) = l i
      unfold exch
      rw [if_neg (by omega), if_neg (by omega)]
    · show exch (topU l j) (l j) (l j) < l j
      unfold exch
      rw [if_neg (by omega), if_pos rfl]
      omega

/-- Where the search stands: so many have days, and the next one is to have this day, or a later one. -/
structure St (f : Nat → W2) (n D w v : Nat) (d : Nat → Nat) : Prop where
  le : w ≤ n
  top : v ≤ D
  right : Right f w D d
  before : ∀ e, Right f n D e → Normal n e → ∀ k, k < w → Agree k e d → d k ≤ e k
  next : ∀ e, Right f n D e → Normal n e → w < n → Agree w e d → v ≤ e w
theorem st_start (f : Nat → W2) (n D : Nat) (d : Nat → Nat) : St f n D 0 0 d :=
  ⟨Nat.zero_le _, Nat.zero_le _, ⟨fun i hi => by omega, fun i k hi => by omega⟩, fun e _ _ k hk => by omega, fun e _ _ _ _ => Nat.zero_le _⟩
theorem St.taken {f : Nat → W2} {n D w v : Nat} {d : Nat → Nat} (h : St f n D w v d) (hw : w < n) (hv : v < D) (hf : ¬ Fits f w d v) : St f n D w (v + 1) d :=
  ⟨h.le, hv, h.right, h.before, fun e he hn _ ha => by
    have h1 := h.next e he hn hw ha
    by_cases e1 : e w = v
    · exact absurd (fun i hi hiv => he.2 i w (by omega) hw (by omega) (by rw [ha i hi, hiv, e1])) hf
    · omega⟩
theorem St.found {f : Nat → W2} {n D w v : Nat} {d : Nat → Nat} (h : St f n D w v d) (hw : w < n) (hv : v < D) (hf : Fits f w d v) : St f n D (w + 1) 0 (updD d w v) := by
  refine ⟨hw, Nat.zero_le _, right_upd h.right hv hf, fun e he hn k hk ha => ?_, fun e _ _ _ _ => Nat.zero_le _⟩
  have ha' : Agree k e d := fun j hj => by
    have := ha j hj
    unfold updD at this
    rwa [if_neg (by omega)] at this
  unfold updD
  by_cases e1 : k = w
  · rw [if_pos e1, e1]
    rw [e1] at ha'
    exact h.next e he hn hw ha'
  · rw [if_neg e1]
    exact h.before e he hn k (by omega) ha'
theorem St.spent {f : Nat → W2} {n D w v : Nat} {d : Nat → Nat} (h : St f n D w v d) (hw : w < n) (hv : min D (topU d w + 1) ≤ v) (e : Nat → Nat) (he : Right f n D e) (hn : Normal n e) : ¬ Agree w e d := fun ha => by
  have h1 := h.next e he hn hw ha
  have h2 := he.1 w hw
  have h3 := hn w hw
  rw [topU_congr ha] at h3
  omega
/-- The search goes back: there is a want before. -/
theorem St.back {f : Nat → W2} {n D w v : Nat} {d : Nat → Nat} (h : St f n D w v d) (hw : w < n) (hv : min D (topU d w + 1) ≤ v) (hex : ∃ e, Right f n D e) : 0 < w ∧ St f n D (w - 1) (d (w - 1) + 1) d := by
  have hw0 : 0 < w := by
    by_cases e1 : w = 0
    · subst e1
      obtain ⟨e, he⟩ := hex
      obtain ⟨l, hl⟩ := firsts_some he
      exact absurd (fun j hj => by omega) (h.spent hw hv l hl.right (firsts_normal hl))
    · omega
  refine ⟨hw0, by omega, h.right.1 _ (by omega), ⟨fun i hi => h.right.1 i (by omega), fun i k hi hk => h.right.2 i k (by omega) (by omega)⟩, fun e he hn k hk ha => h.before e he hn k (by omega) ha, fun e he hn _ ha => ?_⟩
  have h1 := h.before e he hn (w - 1) (by omega) ha
  by_cases e1 : e (w - 1) = d (w - 1)
  · refine absurd (fun j hj => ?_) (h.spent hw hv e he hn)
    by_cases e2 : j = w - 1
    · rw [e2]; exact e1
    · exact ha j (by omega)
  · omega
/-- What the search finds is the first. -/
theorem St.firsts {f : Nat → W2} {n D v : Nat} {d : Nat → Nat} (h : St f n D n v d) (p : Nat → Nat) : Firsts f n D 0 p d := by
  obtain ⟨l, hl⟩ := firsts_some h.right
  have ha : Agree n l d := by
    rcases lex_three n l d with ⟨k, hk, h1, h2⟩ | h1 | h1
    · have := h.before l hl.right (firsts_normal hl) k hk h1
      omega
    · exact h1
    · exact absurd h1 (hl.first d h.right fun j hj => by omega)
  refine ⟨h.right, fun j hj => by omega, fun e he _ ⟨k, hk, h1, h2⟩ => hl.first e he (fun j hj => by omega) ⟨k, hk, fun j hj => (h1 j hj).trans (ha j (by omega)).symm, ?_⟩⟩
  rw [ha k hk]
  exact h2

/-- The search ends: its place, as a number, grows. -/
def valD (B : Nat) (d : Nat → Nat) : Nat → Nat
  | 0 => 0
  | w + 1 => valD B d w * B + (2 * d w + 1)
def place (B n w v : Nat) (d : Nat → Nat) : Nat := (valD B d w * B + 2 * v) * B ^ (n - w)
theorem valD_congr {B : Nat} {d e : Nat → Nat} : ∀ {w}, Agree w d e → valD B d w = valD B e w
  | 0, _ => rfl
  | w + 1, h => by simp only [valD, valD_congr (B := B) (d := d) (e := e) (w := w) fun j hj => h j (by omega), h w (by omega)]
theorem valD_lt {B : Nat} {d : Nat → Nat} : ∀ {w}, (∀ j, j < w → 2 * d j + 1 < B) → valD B d w + 1 ≤ B ^ w
  | 0, _ => Nat.le_refl _
  | w + 1, h => by
    have h1 := valD_lt (B := B) (d := d) (w := w) fun j hj => h j (by omega)
    have h2 := h w (by omega)
    have h3 := Nat.mul_le_mul_right B h1
    simp only [valD, Nat.pow_succ]
    rw [Nat.add_mul, Nat.one_mul] at h3
    omega
theorem place_mono {B n w v v' : Nat} {d : Nat → Nat} (h : v ≤ v') : place B n w v d ≤ place B n w v' d := Nat.mul_le_mul_right _ (by omega)
theorem place_found {B n w v : Nat} {d : Nat → Nat} (hB : 0 < B) (hw : w < n) : place B n w v d < place B n (w + 1) 0 (updD d w v) := by
  unfold place
  rw [show n - w = (n - (w + 1)) + 1 by omega, Nat.pow_succ]
  have h1 : valD B (updD d w v) w = valD B d w := valD_congr fun j hj => by unfold updD; rw [if_neg (by omega)]
  have h2 : updD d w v w = v := by unfold updD; rw [if_pos rfl]
  simp only [valD, h1, h2]
  have h3 := Nat.pow_pos (n := n - (w + 1)) hB
  have h4 : (valD B d w * B + 2 * v) * (B ^ (n - (w + 1)) * B) = ((valD B d w * B + 2 * v) * B) * B ^ (n - (w + 1)) := by rw [Nat.mul_comm (B ^ _) B, Nat.mul_assoc]
  rw [h4]
  exact Nat.mul_lt_mul_of_pos_right (by rw [Nat.mul_zero, Nat.add_zero]; exact Nat.mul_lt_mul_of_pos_right (by omega) hB) h3
theorem place_back {B n w v : Nat} {d : Nat → Nat} (hB : 2 * v < B) (hw : w < n) (h0 : 0 < w) : place B n w v d < place B n (w - 1) (d (w - 1) + 1) d := by
  obtain ⟨k, rfl⟩ : ∃ k, w = k + 1 := ⟨w - 1, by omega⟩
  unfold place
  simp only [Nat.add_sub_cancel, valD]
  rw [show n - k = (n - (k + 1)) + 1 by omega, Nat.pow_succ]
  have h3 := Nat.pow_pos (n := n - (k + 1)) (show 0 < B by omega)
  have h4 : (valD B d k * B + 2 * (d k + 1)) * (B ^ (n - (k + 1)) * B) = ((valD B d k * B + 2 * (d k + 1)) * B) * B ^ (n - (k + 1)) := by rw [Nat.mul_comm (B ^ _) B, Nat.mul_assoc]
  rw [h4]
  refine Nat.mul_lt_mul_of_pos_right ?_ h3
  rw [show valD B d k * B + 2 * (d k + 1) = (valD B d k * B + (2 * d k + 1)) + 1 by omega, Nat.add_mul (valD B d k * B + (2 * d k + 1)) 1 B, Nat.one_mul]
  omega
theorem place_lt {f : Nat → W2} {n D w v : Nat} {d : Nat → Nat} (h : St f n D w v d) : place (2 * D + 3) n w v d < (2 * D + 3) ^ (n + 1) := by
  unfold place
  have h1 := valD_lt (B := 2 * D + 3) (d := d) (w := w) fun j hj => by have := h.right.1 j hj; omega
  have h2 := Nat.mul_le_mul_right (2 * D + 3) h1
  rw [Nat.add_mul, Nat.one_mul] at h2
  have h7 : (2 * D + 3) ^ (w + 1) = (2 * D + 3) ^ w * (2 * D + 3) := Nat.pow_succ _ _
  have h3 := h.top
  have h4 := h.le
  have h5 : valD (2 * D + 3) d w * (2 * D + 3) + 2 * v < (2 * D + 3) ^ (w + 1) := by omega
  have h6 := Nat.mul_lt_mul_of_pos_right h5 (Nat.pow_pos (n := n - w) (show 0 < 2 * D + 3 by omega))
  rwa [← Nat.pow_add, show w + 1 + (n - w) = n + 1 by omega] at h6

end Go.Proofs.YtbjgbgchagfokaaGreat
