/- Lists of mixtures in memory: rows of slices, each a row of numbers of its own. -/
import Derived.Test.YtehafggcncbnkaaGreatProg
import Derived.Test.YtehafggcncbnkaaGreatBasaa
import Derived.Test.YtehafggcncbnkaaGreatBasag
import Derived.Test.YtehafggcncbnkaaGreatBasai
import Derived.Test.YtehafggcncbnkaaGreatCosaa
import Derived.Test.YtehafggcncbnkaaGreatBasab
import Derived.Test.YtehafggcncbnkaaGreatBasar
import Derived.WalkKit
import Derived.Test.YtehafggcncbnkaaGreatBasaf
import Derived.Test.YtehafggcncbnkaaGreatBasao
namespace Go.Proofs.YtehafggcncbnkaaGreat
open Go Go.RowKit

theorem infoMixes : (Tryz.prog.info? 25).map (fun i => (i.zero, i.size, i.bytes)) = some (some (.slice none 0 0), 1, 24) := by kernel_rfl

/-- A row of slices of its own, from block B on, whose entries are what L says. -/
def EdgesAt (w : World) (B n : Nat) (v : Value) (L : List (Option (Nat → Int))) : Prop :=
  ∃ hs : List Value, w.ownsRow B 25 1 v L.length hs ∧ ∀ t, t < L.length → ∃ u, hs[t]? = some u ∧ IsPut w n u (L.getD t none)

theorem IsPut.below {w w' : World} {n : Nat} {v : Value} {o : Option (Nat → Int)} (h : IsPut w n v o) (hb : Below w.heap.size w w') : IsPut w' n v o := by
  cases o with
  | none => exact h
  | some f =>
    obtain ⟨g, e, hr⟩ := h
    exact ⟨g, e, RowIs.below hr hb⟩
theorem IsPut.form {w : World} {n : Nat} {v : Value} {o : Option (Nat → Int)} (h : IsPut w n v o) : ∃ ad k c, v = .slice ad k c := by
  cases o with
  | none => exact ⟨_, _, _, h⟩
  | some f =>
    obtain ⟨g, e, _⟩ := h
    exact ⟨_, _, _, e⟩
theorem IsPut.grown {w w' : World} {B n N : Nat} {v u : Value} {hs : List Value} {o : Option (Nat → Int)} (h : IsPut w n u o) (hown : w.ownsRow B 25 1 v N hs) (hg : w.grownBy w' v.ownBlock) : IsPut w' n u o := by
  cases o with
  | none => exact h
  | some f =>
    obtain ⟨g, e, hr⟩ := h
    refine ⟨g, e, ?_⟩
    have hlt := (Array.getElem?_eq_some_iff.1 hr).1
    have hne : some g ≠ v.ownBlock := fun he => by
      rcases hown.2 with ⟨hv, _⟩ | ⟨g', cap, cur, hv, _, hh, _⟩
      · rw [hv] at he
        cases he
      · rw [hv] at he
        have hgg : g = g' := Option.some.inj he
        subst hgg
        unfold RowIs at hr
        rw [hr] at hh
        injection hh with hh
        injection hh with _ hh _
        exact absurd hh (by decide)
    show w'.heap[g]? = _
    rw [hg.block g hlt hne]
    exact hr
theorem EdgesAt.below {w w' : World} {B n : Nat} {v : Value} {L : List (Option (Nat → Int))} (h : EdgesAt w B n v L) (hb : Below w.heap.size w w') : EdgesAt w' B n v L := by
  obtain ⟨hs, h1, h2⟩ := h
  exact ⟨hs, own_below h1 hb, fun t ht => by
    obtain ⟨u, e, hu⟩ := h2 t ht
    exact ⟨u, e, hu.below hb⟩⟩
theorem EdgesAt.nil (w : World) (B n : Nat) : EdgesAt w B n (.slice none 0 0) [] := ⟨[], World.ownsRow_nil _ _ _ _, fun t ht => by simp at ht⟩
theorem EdgesAt.snoc {w w' : World} {B n : Nat} {v v' u : Value} {L : List (Option (Nat → Int))} {hs : List Value} {o : Option (Nat → Int)} (hown : w.ownsRow B 25 1 v L.length hs) (hin : ∀ t, t < L.length → ∃ u, hs[t]? = some u ∧ IsPut w n u (L.getD t none))
    (hu : IsPut w n u o) (hown2 : w'.ownsRow B 25 1 v' (L.length + 1) (hs ++ [u])) (hg : w.grownBy w' v.ownBlock) : EdgesAt w' B n v' (L ++ [o]) := by
  have hl : hs.length = L.length := by rw [hown.1]; omega
  refine ⟨hs ++ [u], by simpa using hown2, fun t ht => ?_⟩
  simp only [List.length_append, List.length_singleton] at ht
  by_cases e : t < L.length
  · obtain ⟨x, hx, hp⟩ := hin t e
    refine ⟨x, by rw [List.getElem?_append_left (by omega)]; exact hx, ?_⟩
    have : (L ++ [o]).getD t none = L.getD t none := by simp [List.getD, List.getElem?_append_left e]
    rw [this]
    exact hp.grown hown hg
  · obtain rfl : t = L.length := by omega
    refine ⟨u, by rw [List.getElem?_append_right (by omega), hl]; simp, ?_⟩
    have : (L ++ [o]).getD L.length none = o := by simp [List.getD]
    rw [this]
    exact hu.grown hown hg
theorem EdgesAt.snoc2 {w w' : World} {B n : Nat} {v v' u u2 : Value} {L : List (Option (Nat → Int))} {hs : List Value} {o o2 : Option (Nat → Int)} (hown : w.ownsRow B 25 1 v L.length hs) (hin : ∀ t, t < L.length → ∃ u, hs[t]? = some u ∧ IsPut w n u (L.getD t none))
    (hu : IsPut w n u o) (hu2 : IsPut w n u2 o2) (hown2 : w'.ownsRow B 25 1 v' (L.length + 2) (hs ++ [u, u2])) (hg : w.grownBy w' v.ownBlock) : EdgesAt w' B n v' (L ++ [o, o2]) := by
  have hl : hs.length = L.length := by rw [hown.1]; omega
  refine ⟨hs ++ [u, u2], by simpa using hown2, fun t ht => ?_⟩
  simp only [List.length_append, List.length_cons, List.length_nil] at ht
  by_cases e : t < L.length
  · obtain ⟨x, hx, hp⟩ := hin t e
    refine ⟨x, by rw [List.getElem?_append_left (by omega)]; exact hx, ?_⟩
    have : (L ++ [o, o2]).getD t none = L.getD t none := by simp [List.getD, List.getElem?_append_left e]
    rw [this]
    exact hp.grown hown hg
  · by_cases e2 : t = L.length
    · subst e2
      refine ⟨u, by rw [List.getElem?_append_right (by omega), hl]; simp, ?_⟩
      have : (L ++ [o, o2]).getD L.length none = o := by simp [List.getD]
      rw [this]
      exact hu.grown hown hg
    · obtain rfl : t = L.length + 1 := by omega
      refine ⟨u2, by rw [List.getElem?_append_right (by omega), hl]; simp, ?_⟩
      have : (L ++ [o, o2]).getD (L.length + 1) none = o2 := by simp [List.getD]
      rw [this]
      exact hu2.grown hown hg
theorem EdgesAt.form {w : World} {B n : Nat} {v : Value} {L : List (Option (Nat → Int))} (h : EdgesAt w B n v L) : ∃ ad c, v = .slice ad L.length c := by
  obtain ⟨hs, h1, _⟩ := h
  rcases h1.2 with ⟨hv, h0⟩ | ⟨g, cap, _, hv, _⟩
  · exact ⟨none, 0, by rw [hv, h0]⟩
  · exact ⟨_, _, hv⟩
theorem EdgesAt.at {w : World} {B n t : Nat} {v : Value} {L : List (Option (Nat → Int))} (h : EdgesAt w B n v L) (ht : t < L.length) :
    ∃ g c u, v = .slice (some ⟨g, 0, none⟩) L.length c ∧ g < w.heap.size ∧ B ≤ g ∧ w.cell? ⟨g, t, none⟩ = some u ∧ IsPut w n u (L.getD t none) := by
  obtain ⟨hs, h1, h2⟩ := h
  obtain ⟨u, hu, hp⟩ := h2 t ht
  rcases h1.2 with ⟨hv, h0⟩ | ⟨g, cap, _, hv, hB, hh, _⟩
  · omega
  · subst hv
    refine ⟨g, cap, u, rfl, (Array.getElem?_eq_some_iff.1 hh).1, hB, ?_, hp⟩
    rw [h1.cellAt t (by omega)]
    exact hu

/-- A row of numbers, as a slice of it. -/
theorem ints_rowZ {w : World} {b n : Nat} {T : TypeId} {f : Nat → Int} (h : RowIs w b (rowZ n f) T) : Ints w (some ⟨b, 0, none⟩) n f :=
  .inr ⟨b, 0, rfl, (Array.getElem?_eq_some_iff.1 h).1, fun i hi => by rw [Nat.zero_add, RowIs.cell h i]; exact rowZ_get n f i hi⟩
/-- A short list that is written out. -/
theorem ints_lit {w : World} {b k : Nat} {c : Array Value} {T : TypeId} {f : Nat → Int} (h : RowIs w b c T) (hc : ∀ i, i < k → c[i]? = some (.int .i64 (f i))) : Ints w (some ⟨b, 0, none⟩) k f :=
  .inr ⟨b, 0, rfl, (Array.getElem?_eq_some_iff.1 h).1, fun i hi => by rw [Nat.zero_add, RowIs.cell h i]; exact hc i hi⟩

theorem ints_lit1 {w : World} {b : Nat} {x : Int} {T : TypeId} {f : Nat → Int} (h : RowIs w b #[.int .i64 x] T) (h0 : f 0 = x) : Ints w (some ⟨b, 0, none⟩) 1 f := ints_lit h fun i hi => by
  obtain rfl : i = 0 := by omega
  rw [h0]; rfl
theorem ints_lit2 {w : World} {b : Nat} {x y : Int} {T : TypeId} {f : Nat → Int} (h : RowIs w b #[.int .i64 x, .int .i64 y] T) (h0 : f 0 = x) (h1 : f 1 = y) : Ints w (some ⟨b, 0, none⟩) 2 f := ints_lit h fun i hi => by
  have hc : i = 0 ∨ i = 1 := by omega
  rcases hc with rfl | rfl
  · rw [h0]; rfl
  · rw [h1]; rfl
theorem ints_lit3 {w : World} {b : Nat} {x y z : Int} {T : TypeId} {f : Nat → Int} (h : RowIs w b #[.int .i64 x, .int .i64 y, .int .i64 z] T) (h0 : f 0 = x) (h1 : f 1 = y) (h2 : f 2 = z) : Ints w (some ⟨b, 0, none⟩) 3 f := ints_lit h fun i hi => by
  have hc : i = 0 ∨ i = 1 ∨ i = 2 := by omega
  rcases hc with rfl | rfl | rfl
  · rw [h0]; rfl
  · rw [h1]; rfl
  · rw [h2]; rfl

end Go.Proofs.YtehafggcncbnkaaGreat

namespace Go.Proofs.YtehafggcncbnkaaGreat
open Go Go.RowKit

theorem map_getD {α β : Type} (f : α → β) (l : List α) (d : α) (e : β) (t : Nat) (h : t < l.length) : (l.map f).getD t e = f (l.getD t d) := by
  simp [List.getD, List.getElem?_eq_getElem h]
/-- One of the mixtures, as it lies. -/
theorem edges_at {w : World} {B n t : Nat} {v : Value} {L : List (Nat → Int)} (h : EdgesAt w B n v (L.map some)) (ht : t < L.length) :
    ∃ g c b, v = .slice (some ⟨g, 0, none⟩) L.length c ∧ g < w.heap.size ∧ B ≤ g ∧ w.cell? ⟨g, t, none⟩ = some (.slice (some ⟨b, 0, none⟩) n n) ∧ RowIs w b (rowZ n (L.getD t fun _ => 0)) 2 ∧ b < w.heap.size := by
  obtain ⟨g, c, u, hv, hg, hB, hc, hp⟩ := h.at (t := t) (by simpa using ht)
  rw [map_getD some L (fun _ => 0) none t ht] at hp
  obtain ⟨b, hu, hr⟩ := hp
  subst hu
  exact ⟨g, c, b, by simpa using hv, hg, hB, hc, hr, (Array.getElem?_eq_some_iff.1 hr).1⟩
theorem rat_box {a d A D : Int} (ha : 0 ≤ a ∧ a ≤ A) (hd : 0 < d ∧ d ≤ D) : (0 ≤ ratN a d ∧ ratN a d ≤ A) ∧ (0 < ratD a d ∧ ratD a d ≤ D) := by
  obtain ⟨g, hg, e1, e2, _⟩ := rat_parts a hd.1
  have hD := ratD_pos a hd.1
  have hN : 0 ≤ ratN a d := by
    rcases Int.lt_or_le (ratN a d) 0 with h | h
    · have := Int.mul_neg_of_neg_of_pos h hg
      omega
    · exact h
  have h1 := Int.mul_le_mul_of_nonneg_left (show 1 ≤ g from hg) hN
  have h2 := Int.mul_le_mul_of_nonneg_left (show 1 ≤ g from hg) (Int.le_of_lt hD)
  rw [Int.mul_one] at h1 h2
  omega
/-- A fraction that is small enough to be compared. -/
def Tame (x : Int × Int) : Prop := (0 ≤ x.1 ∧ x.1 ≤ 12000000000) ∧ (0 < x.2 ∧ x.2 ≤ 12000000)
theorem tame_mul {x y : Int × Int} (hx : Tame x) (hy : Tame y) : -4611686018427387904 ≤ x.1 * y.2 ∧ x.1 * y.2 ≤ 4611686018427387904 := by
  have := mul_bd hx.1.1 hx.1.2 (Int.le_of_lt hy.2.1) hy.2.2
  omega
theorem minV_tame {v : Nat → Int × Int} {K : Nat} (h : ∀ i, i < K → Tame (v i)) (h0 : 0 < K) : ∀ k, k ≤ K → Tame (minV v k)
  | 0, _ => h 0 h0
  | k + 1, hk => by
    simp only [minV]
    split
    · exact h k (by omega)
    · exact minV_tame h h0 k (by omega)
theorem maxV_tame {v : Nat → Int × Int} {K : Nat} (h : ∀ i, i < K → Tame (v i)) (h0 : 0 < K) : ∀ k, k ≤ K → Tame (maxV v k)
  | 0, _ => h 0 h0
  | k + 1, hk => by
    simp only [maxV]
    split
    · exact h k (by omega)
    · exact maxV_tame h h0 k (by omega)
theorem edge_part {n : Nat} {m : Nat → M5} {l c : Int} (hF : Fine n m) (ht : 0 ≤ l ∧ l ≤ 1000 ∧ 0 ≤ c ∧ c ≤ 1000) {s : Bool} {i : Nat} (hi : i < (edgeL n m l c s).length) :
    (∀ x, 0 ≤ edgeF n m l c s i x ∧ edgeF n m l c s i x ≤ 2000000) ∧ 0 < sumF (edgeF n m l c s i) n ∧ sumF (edgeF n m l c s i) n ≤ 12000000 := by
  obtain ⟨h1, h2, _⟩ := edge_is hF ht (edgeF_mem hi)
  refine ⟨h1, h2, ?_⟩
  have h3 := (sumF_nn (edgeF n m l c s i) 2000000 n fun x _ => h1 x).2
  have := hF.2.1
  omega
theorem edgeCost_tame {n : Nat} {m : Nat → M5} {l c : Int} (hF : Fine n m) (ht : 0 ≤ l ∧ l ≤ 1000 ∧ 0 ≤ c ∧ c ≤ 1000) {s : Bool} (i : Nat) (hi : i < (edgeL n m l c s).length) : Tame (edgeCost n m l c s i) := by
  obtain ⟨h1, h2, h3⟩ := edge_part hF ht hi
  have h4 := sumF_nn (fun x => edgeF n m l c s i x * (m x).p) 2000000000 n fun x hx => by
    have := mul_bd (h1 x).1 (h1 x).2 (hF.2.2 x hx).1 (hF.2.2 x hx).2.1
    omega
  have h6 := hF.2.1
  exact rat_box (a := priceF m (edgeF n m l c s i) n) (A := 12000000000) ⟨h4.1, by unfold priceF; omega⟩ ⟨h2, h3⟩
theorem edgeShare_tame {n : Nat} {m : Nat → M5} {l c : Int} (hF : Fine n m) (ht : 0 ≤ l ∧ l ≤ 1000 ∧ 0 ≤ c ∧ c ≤ 1000) {s : Bool} (k : Nat) (i : Nat) (hi : i < (edgeL n m l c s).length) : Tame (edgeShare n m l c s k i) := by
  obtain ⟨h1, h2, h3⟩ := edge_part hF ht hi
  exact rat_box (a := edgeF n m l c s i k) (A := 12000000000) ⟨(h1 k).1, by have := (h1 k).2; omega⟩ ⟨h2, h3⟩

end Go.Proofs.YtehafggcncbnkaaGreat

namespace Go.Proofs.YtehafggcncbnkaaGreat
open Go Go.RowKit

theorem edgeO_len (s : Bool) (n : Nat) (m : Nat → M5) (l c : Int) : ∀ r, (edgeO s n m l c r).length ≤ r.length
  | [] => Nat.le_refl _
  | o :: r => by
    have := edgeO_len s n m l c r
    have h : (goodO s n m l c o).length ≤ 1 := by
      cases o with
      | none => simp [goodO]
      | some f => simp only [goodO]; split <;> simp
    simp only [edgeO, List.length_append, List.length_cons]
    omega
theorem prod_bd {x y : Int} (hx : -1000 ≤ x ∧ x ≤ 1000) (hy : -1000 ≤ y ∧ y ≤ 1000) : -1000000 ≤ x * y ∧ x * y ≤ 1000000 := by
  have h1 : 0 ≤ (1000 - x) * (1000 + y) := Int.mul_nonneg (by omega) (by omega)
  have h2 : 0 ≤ (1000 + x) * (1000 - y) := Int.mul_nonneg (by omega) (by omega)
  have h3 : 0 ≤ (1000 - x) * (1000 - y) := Int.mul_nonneg (by omega) (by omega)
  have h4 : 0 ≤ (1000 + x) * (1000 + y) := Int.mul_nonneg (by omega) (by omega)
  constructor <;> grind

theorem edgesJ_len (L C : Nat → Int) (i k : Nat) : ∀ j, (edgesJ L C i k j).length = j
  | 0 => rfl
  | j + 1 => by simp [edgesJ, edgesJ_len L C i k j]
theorem edgesK_len (L C : Nat → Int) (i : Nat) : ∀ k, k ≤ 6 → (edgesK L C i k).length ≤ k * 8
  | 0, _ => Nat.le_refl _
  | k + 1, h => by
    have := edgesK_len L C i k (by omega)
    simp only [edgesK, List.length_append, List.length_cons, List.length_nil, edgesJ_len]
    omega
theorem edgesI_len (L C : Nat → Int) : ∀ n, n ≤ 6 → (edgesI L C n).length ≤ n * 49
  | 0, _ => Nat.le_refl _
  | n + 1, h => by
    have h1 := edgesI_len L C n (by omega)
    have h2 := edgesK_len L C n n (by omega)
    simp only [edgesI, List.length_append, List.length_cons, List.length_nil]
    omega

set_option maxRecDepth 100000 in
set_option maxHeartbeats 32000000 in
theorem redges_c (a : Option Addr) (n cap : Nat) (m : Nat → M5) (l c : Int) (s : Bool) (w : World) (hm : Metals w a n m) (hF : Fine n m) (ht : 0 ≤ l ∧ l ≤ 1000 ∧ 0 ≤ c ∧ c ≤ 1000) :
    Calls Tryz.prog 74 #[.slice a n cap, .agg #[.int .i64 l, .int .i64 c], .bool s] w fun e w' => ∃ v B, e = .returned v ∧ EdgesAt w' B n v ((edgeL n m l c s).map some) ∧ Below w.heap.size w w' := by
  obtain ⟨i0, hi, hz0, hz1, hz2⟩ := info_parts infoMixes
  obtain ⟨W, hW⟩ : ∃ W, w.alloc (.cells #[.int .i64 l, .int .i64 c] 24) = W := ⟨_, rfl⟩
  have hB0 : Below w.heap.size w W := by rw [← hW]; exact Below.alloc1 (Below.refl _ _) _ (Nat.le_refl _)
  have HT := Lib.hid (show RowIs W w.heap.size #[.int .i64 l, .int .i64 c] 24 by rw [← hW]; exact heap_new_at _ _ _ rfl)
  obtain ⟨bt, hbt⟩ : ∃ bt, w.heap.size = bt := ⟨_, rfl⟩
  rw [hbt] at HT
  have HM := Lib.hid (hm.below hB0)
  have HB0 := Lib.hid hB0
  have hn1 := hF.1
  have hn6 := hF.2.1
  obtain ⟨L, hL⟩ : ∃ L : Nat → Int, (fun i => spL s l (m i)) = L := ⟨_, rfl⟩
  obtain ⟨C, hC⟩ : ∃ C : Nat → Int, (fun i => spC s c (m i)) = C := ⟨_, rfl⟩
  have eA : edgesA n m l c s = edgesI L C n := by unfold edgesA; rw [hL, hC]
  have hSp : Spare L C n := by rw [← hL, ← hC]; exact spare_fine hF ht s
  have sl : ∀ i, spareR l c s false (m i) = L i := fun i => by rw [← hL]; rfl
  have sc : ∀ i, spareR l c s true (m i) = C i := fun i => by rw [← hC]; rfl
  have KL := Lib.hid (fun (i : Nat) (hi : i < n) (x : World) => by
    have h := rspare_c (m i) l c s false x ht (bad_bd hF s i hi) (good_bd hF s i hi)
    rw [sl i] at h
    exact h)
  have KC := Lib.hid (fun (i : Nat) (hi : i < n) (x : World) => by
    have h := rspare_c (m i) l c s true x ht (bad_bd hF s i hi) (good_bd hF s i hi)
    rw [sc i] at h
    exact h)
  have HF := Lib.hid hF
  have HSp := Lib.hid hSp
  have EA := Lib.hid eA
  have Ht := Lib.hid ht
  clear hm hF hL hC sl sc hSp eA hB0 ht
  go_enter Tryz.func74, Tryz.ntmps74
  go_wp2
  clear hW hbt
  go_loopw [8, 9] (fun v i wr => ∃ k, k ≤ n ∧ i = .int .i64 (k : Nat) ∧ EdgesAt wr W.heap.size n v (edgesI L C k) ∧ Below W.heap.size W wr) (fun _ i _ => n - (intOf i).toNat)
  case atStart => exact ⟨0, Nat.zero_le _, rfl, EdgesAt.nil _ _ _, Below.refl _ _⟩
  case round =>
    obtain ⟨i, hik, rfl, hE, hB⟩ := hrel
    have HB := Lib.hid hB
    have HE := Lib.hid hE
    clear hE
    by_cases hlt : i < n
    ·
      obtain ⟨Y, hY⟩ : ∃ Y, (wr.alloc (.cells #[.int .i64 (i : Nat)] 3)).alloc (.cells #[.int .i64 1] 2) = Y := ⟨_, rfl⟩
      have hbY : Below wr.heap.size wr Y := by rw [← hY]; exact (Below.alloc1 (Below.alloc1 (Below.refl _ _) _ (Nat.le_refl _)) _ (Nat.le_refl _))
      have rY0 : RowIs Y (wr.heap.size) #[.int .i64 (i : Nat)] 3 := by rw [← hY]; exact RowIs.alloc (heap_new_at _ _ _ rfl) _
      have rY1 : RowIs Y (wr.heap.size + 1) #[.int .i64 1] 2 := by rw [← hY]; exact heap_new_at _ _ _ (by simp)
      have i1HP := ints_lit1 (f := fun t => ((pick3 i i i t : Nat) : Int)) rY0 rfl
      have i2HP := ints_lit1 (f := pick3 1 1 1) rY1 rfl
      have HP := Lib.hid (rput_c n 1 1 1 (some ⟨wr.heap.size, 0, none⟩) (some ⟨wr.heap.size + 1, 0, none⟩) (pick3 i i i) (pick3 1 1 1) Y i1HP i2HP hn6 (by omega) (fun t _ => by unfold pick3; split <;> omega) (fun t _ => by unfold pick3; split <;> omega))
      clear i1HP i2HP
      have hlen := edgesI_len L C i (by omega)
      obtain ⟨N, hN⟩ : ∃ N, (edgesI L C i).length = N := ⟨_, rfl⟩
      go_wp2_with fail
      clear rY0 rY1
      refine HP.out.mono ?_
      rintro e w1 ⟨u, rfl, hu, hb1⟩
      have hbw1 := bup hbY hb1
      clear hY
      obtain ⟨hs, hown, hin⟩ := EdgesAt.below HE.out hbw1
      obtain ⟨ad, k1, c1, rfl⟩ := hu.form
      have Hu := Lib.hid hu
      have Hin := Lib.hid hin
      have Hown := Lib.hid hown
      have hbws := HB.out.size
      have hbs1 := hbw1.size
      clear hu hin HE
      rw [hN] at hown hlen
      go_wp2_with (at_builtin; refine wpList_append_own _ rfl _ _ 112 rfl W.heap.size 25 i0 (.slice none 0 0) 1 24 Tryz.underlying112 hi hz0 hz1 hz2 rfl (by decide) _ _ hs rfl (hown.alloc _) ⟨w1.heap.size, 0, none⟩ 1 1 [.slice ad k1 c1] rfl rfl (World.news_of_block (cs := #[.slice ad k1 c1]) (t := 25) (fr := (0, 0)) (heap_new_at _ _ _ rfl)) (by simp [Value.oneCell']) (by unfold maxLen; omega) (by omega) (by simp; omega) ?_; intro v' w2 hown2 hgr2 _)
      have hE2 : EdgesAt w2 W.heap.size n v' (edgesI L C i ++ [edge1 i]) := EdgesAt.snoc (hs := hs) (w := w1.alloc (.cells #[.slice ad k1 c1] 25)) (Hown.out.alloc _) (fun t ht => by
        obtain ⟨x, hx, hp⟩ := Hin.out t ht
        exact ⟨x, hx, hp.below (Below.alloc1 (Below.refl _ _) _ (Nat.le_refl _))⟩) (Hu.out.below (Below.alloc1 (Below.refl _ _) _ (Nat.le_refl _))) (by rw [hN]; exact hown2) hgr2
      have hB2 : Below W.heap.size W w2 := (Below.alloc1 (bup HB.out hbw1) _ (Nat.le_refl _)).grown hgr2 (by simp; omega) (fun j h => (hown.lt j h).1)
      have HE2 := Lib.hid hE2
      have HB2 := Lib.hid hB2
      clear hown hown2 hgr2 hE2 hB2 hB hb1 hbY hbw1 Hu Hin Hown HB HP hN hlen
      obtain ⟨bm, om, he_, hbm, -⟩ := Metals.at HM.out i hlt
      cases he_
      obtain ⟨_, _, he_, -, c0, c1, c2, c3, c4⟩ := Metals.at (Metals.below HM.out HB2.out) i hlt
      cases he_
      obtain ⟨tc0, tc1, _, _, tz⟩ := ratrow2 (RowIs.below HT.out HB2.out)
      have KL1 := KL.out i hlt
      have KC1 := KC.out i hlt
      have hbm1 := Nat.lt_of_lt_of_le hbm HB2.out.size
      have KL2 := Lib.hid KL1
      have KC2 := Lib.hid KC1
      clear KL1 KC1
      have hlc := fun (x : Later w2) => later_cell x
      go_wp2
      refine wp_region_later (by kernel_rfl) (by kernel_rfl) ?_
      repeat (go_big_quiet_step ((first | (with_reducible refine calls_later (KL2.out _)) | (with_reducible refine calls_later (KC2.out _)))))
      refine wpQuiet_nil ?_
      clear hlc
      rintro ⟨w3, hw3⟩
      dsimp only
      clear c0 c1 c2 c3 c4 tc0 tc1 tz KL2 KC2
      have HE3 := Lib.hid (EdgesAt.below HE2.out hw3)
      have HB3 := Lib.hid (bup HB2.out hw3)
      clear HE2 HB2 hw3
      have spi := HSp.out i hlt
      go_wp2
      go_loopw [8, 12] (fun v k wr => ∃ j, j ≤ i ∧ k = .int .i64 (j : Nat) ∧ EdgesAt wr W.heap.size n v ((edgesI L C i ++ [edge1 i]) ++ edgesK L C i j) ∧ Below W.heap.size W wr) (fun _ k _ => i - (intOf k).toNat)
      case atStart => exact ⟨0, Nat.zero_le _, rfl, by simpa [edgesK] using HE3.out, HB3.out⟩
      case round =>
        clear HE3 HB3
        obtain ⟨k, hki, rfl, hE, hB⟩ := hrel
        have HB := Lib.hid hB
        have HE := Lib.hid hE
        clear hE hB
        by_cases hlk : k < i
        ·
          have hkn : k < n := by omega
          have spk := HSp.out k hkn
          have hbr := HB.out.size
          obtain ⟨bm, om, he_, hbm, -⟩ := Metals.at HM.out k hkn
          cases he_
          obtain ⟨_, _, he_, -, c0, c1, c2, c3, c4⟩ := Metals.at (Metals.below HM.out HB.out) k hkn
          cases he_
          obtain ⟨tc0, tc1, _, _, tz⟩ := ratrow2 (RowIs.below HT.out HB.out)
          have KL1 := KL.out k hkn
          have KC1 := KC.out k hkn
          have hbm1 := Nat.lt_of_lt_of_le hbm HB.out.size
          have KL2 := Lib.hid KL1
          have KC2 := Lib.hid KC1
          clear KL1 KC1
          have hlc := fun (x : Later wr) => later_cell x
          go_wp2
          refine wp_region_later (by kernel_rfl) (by kernel_rfl) ?_
          repeat (go_big_quiet_step ((first | (with_reducible refine calls_later (KL2.out _)) | (with_reducible refine calls_later (KC2.out _)))))
          refine wpQuiet_nil ?_
          clear hlc
          rintro ⟨x0, hx0⟩
          dsimp only
          clear c0 c1 c2 c3 c4 tc0 tc1 tz KL2 KC2
          have HE1 := Lib.hid (EdgesAt.below HE.out hx0)
          have HB1 := Lib.hid (bup HB.out hx0)
          clear HE HB hx0 hbr
          have hlen := edgesK_len L C i k (by omega)
          have hlen0 := edgesI_len L C i (by omega)
          have hlen1 : ((edgesI L C i ++ [edge1 i]) ++ edgesK L C i k).length ≤ 500 := by simp only [List.length_append, List.length_cons, List.length_nil]; omega
          obtain ⟨N, hN⟩ : ∃ N, ((edgesI L C i ++ [edge1 i]) ++ edgesK L C i k).length = N := ⟨_, rfl⟩
          clear hlen hlen0
          have wn1 : IntKind.i64.wrap (-(L i)) = -(L i) := IntWalk.i64_in _ (by omega)
          have wn2 : IntKind.i64.wrap (-(C i)) = -(C i) := IntWalk.i64_in _ (by omega)
          have Hwn1 := Lib.hid wn1
          have Hwn2 := Lib.hid wn2
          clear wn1 wn2
          obtain ⟨Y, hY⟩ : ∃ Y, (x0.alloc (.cells #[.int .i64 (i : Nat), .int .i64 (k : Nat)] 3)).alloc (.cells #[.int .i64 (L k), .int .i64 (-(L i))] 2) = Y := ⟨_, rfl⟩
          have hbY : Below x0.heap.size x0 Y := by rw [← hY]; exact (Below.alloc1 (Below.alloc1 (Below.refl _ _) _ (Nat.le_refl _)) _ (Nat.le_refl _))
          have rY0 : RowIs Y (x0.heap.size) #[.int .i64 (i : Nat), .int .i64 (k : Nat)] 3 := by rw [← hY]; exact RowIs.alloc (heap_new_at _ _ _ rfl) _
          have rY1 : RowIs Y (x0.heap.size + 1) #[.int .i64 (L k), .int .i64 (-(L i))] 2 := by rw [← hY]; exact heap_new_at _ _ _ (by simp)
          have i1HP := ints_lit2 (f := fun t => ((pick3 i k k t : Nat) : Int)) rY0 rfl rfl
          have i2HP := ints_lit2 (f := pick3 (L k) (-(L i)) (-(L i))) rY1 rfl rfl
          have HP := Lib.hid (rput_c n 2 2 2 (some ⟨x0.heap.size, 0, none⟩) (some ⟨x0.heap.size + 1, 0, none⟩) (pick3 i k k) (pick3 (L k) (-(L i)) (-(L i))) Y i1HP i2HP hn6 (by omega) (fun t _ => by unfold pick3; split <;> omega) (fun t _ => by unfold pick3; split <;> omega))
          clear i1HP i2HP
          have wn1 := Hwn1.out
          go_wp2_with fail
          clear rY0 rY1 wn1
          refine HP.out.mono ?_
          rintro e x1 ⟨u1, rfl, hu1, hbx1⟩
          have hbw1 := bup hbY hbx1
          clear hY hbY hbx1 HP Hwn1
          obtain ⟨Z, hZ⟩ : ∃ Z, (x1.alloc (.cells #[.int .i64 (i : Nat), .int .i64 (k : Nat)] 3)).alloc (.cells #[.int .i64 (C k), .int .i64 (-(C i))] 2) = Z := ⟨_, rfl⟩
          have hbZ : Below x1.heap.size x1 Z := by rw [← hZ]; exact (Below.alloc1 (Below.alloc1 (Below.refl _ _) _ (Nat.le_refl _)) _ (Nat.le_refl _))
          have rZ0 : RowIs Z (x1.heap.size) #[.int .i64 (i : Nat), .int .i64 (k : Nat)] 3 := by rw [← hZ]; exact RowIs.alloc (heap_new_at _ _ _ rfl) _
          have rZ1 : RowIs Z (x1.heap.size + 1) #[.int .i64 (C k), .int .i64 (-(C i))] 2 := by rw [← hZ]; exact heap_new_at _ _ _ (by simp)
          have i1HP := ints_lit2 (f := fun t => ((pick3 i k k t : Nat) : Int)) rZ0 rfl rfl
          have i2HP := ints_lit2 (f := pick3 (C k) (-(C i)) (-(C i))) rZ1 rfl rfl
          have HP := Lib.hid (rput_c n 2 2 2 (some ⟨x1.heap.size, 0, none⟩) (some ⟨x1.heap.size + 1, 0, none⟩) (pick3 i k k) (pick3 (C k) (-(C i)) (-(C i))) Z i1HP i2HP hn6 (by omega) (fun t _ => by unfold pick3; split <;> omega) (fun t _ => by unfold pick3; split <;> omega))
          clear i1HP i2HP
          have Hu1 := Lib.hid (IsPut.below hu1 hbZ)
          have hbw2 := bup hbw1 hbZ
          have wn2 := Hwn2.out
          clear hu1
          go_wp2_with fail
          clear rZ0 rZ1 wn2
          refine HP.out.mono ?_
          rintro e x2 ⟨u2, rfl, hu2, hbx2⟩
          have hbw3 := bup hbw2 hbx2
          have hu1 := IsPut.below Hu1.out hbx2
          clear hZ hbZ hbw1 hbw2 HP Hwn2 Hu1
          obtain ⟨hs, hown, hin⟩ := EdgesAt.below HE1.out hbw3
          obtain ⟨ad1, k1, c1, rfl⟩ := hu1.form
          obtain ⟨ad2, k2, c2, rfl⟩ := hu2.form
          have Hu1 := Lib.hid hu1
          have Hu2 := Lib.hid hu2
          have Hin := Lib.hid hin
          have Hown := Lib.hid hown
          have hbws := HB1.out.size
          have hbs1 := hbw3.size
          clear hu1 hu2 hin HE1 hbx2
          rw [hN] at hown hlen1
          go_wp2_with (at_builtin; refine wpList_append_own _ rfl _ _ 112 rfl W.heap.size 25 i0 (.slice none 0 0) 1 24 Tryz.underlying112 hi hz0 hz1 hz2 rfl (by decide) _ _ hs rfl (hown.alloc _) ⟨x2.heap.size, 0, none⟩ 2 2 [.slice ad1 k1 c1, .slice ad2 k2 c2] rfl rfl (World.news_of_block (cs := #[.slice ad1 k1 c1, .slice ad2 k2 c2]) (t := 25) (fr := (0, 0)) (heap_new_at _ _ _ rfl)) (by simp [Value.oneCell']) (by unfold maxLen; omega) (by omega) (by simp; omega) ?_; intro v' w2 hown2 hgr2 _)
          have hE2 : EdgesAt w2 W.heap.size n v' (((edgesI L C i ++ [edge1 i]) ++ edgesK L C i k) ++ [edge2 i k (L k) (L i), edge2 i k (C k) (C i)]) := EdgesAt.snoc2 (hs := hs) (w := (x2.alloc (.cells #[.slice ad1 k1 c1, .slice ad2 k2 c2] 25))) (Hown.out.alloc _) (fun t ht => by
            obtain ⟨x, hx, hp⟩ := Hin.out t ht
            exact ⟨x, hx, hp.below (Below.alloc1 (Below.refl _ _) _ (Nat.le_refl _))⟩) (Hu1.out.below (Below.alloc1 (Below.refl _ _) _ (Nat.le_refl _))) (Hu2.out.below (Below.alloc1 (Below.refl _ _) _ (Nat.le_refl _))) (by rw [hN]; exact hown2) hgr2
          have hB2 : Below W.heap.size W w2 := (Below.alloc1 (bup HB1.out hbw3) _ (Nat.le_refl _)).grown hgr2 (by simp; omega) (fun j h => (hown.lt j h).1)
          have HE2 := Lib.hid hE2
          have HB2 := Lib.hid hB2
          clear hown hown2 hgr2 hE2 hB2 hbw3 Hu1 Hu2 Hin Hown HB1 hN hlen1 hbws hbs1
          go_wp2
          go_loopw [8, 15] (fun v i3 wr => ∃ j, j ≤ k ∧ i3 = .int .i64 (j : Nat) ∧ EdgesAt wr W.heap.size n v ((((edgesI L C i ++ [edge1 i]) ++ edgesK L C i k) ++ [edge2 i k (L k) (L i), edge2 i k (C k) (C i)]) ++ edgesJ L C i k j) ∧ Below W.heap.size W wr) (fun _ i3 _ => k - (intOf i3).toNat)
          case atStart => exact ⟨0, Nat.zero_le _, rfl, by simpa [edgesJ] using HE2.out, HB2.out⟩
          case round =>
            clear HE2 HB2
            obtain ⟨j, hjk, rfl, hE, hB⟩ := hrel
            have HB := Lib.hid hB
            have HE := Lib.hid hE
            clear hE hB
            by_cases hlj : j < k
            ·
              have hjn : j < n := by omega
              have spj := HSp.out j hjn
              obtain ⟨bm, om, he_, hbm, -⟩ := Metals.at HM.out j hjn
              cases he_
              obtain ⟨_, _, he_, -, c0, c1, c2, c3, c4⟩ := Metals.at (Metals.below HM.out HB.out) j hjn
              cases he_
              obtain ⟨tc0, tc1, _, _, tz⟩ := ratrow2 (RowIs.below HT.out HB.out)
              have KL1 := KL.out j hjn
              have KC1 := KC.out j hjn
              have hbm1 := Nat.lt_of_lt_of_le hbm HB.out.size
              have KL2 := Lib.hid KL1
              have KC2 := Lib.hid KC1
              clear KL1 KC1
              have hlc := fun (x : Later wr) => later_cell x
              go_wp2
              refine wp_region_later (by kernel_rfl) (by kernel_rfl) ?_
              repeat (go_big_quiet_step ((first | (with_reducible refine calls_later (KL2.out _)) | (with_reducible refine calls_later (KC2.out _)))))
              refine wpQuiet_nil ?_
              clear hlc
              rintro ⟨x0, hx0⟩
              dsimp only
              clear c0 c1 c2 c3 c4 tc0 tc1 tz KL2 KC2
              have HE1 := Lib.hid (EdgesAt.below HE.out hx0)
              have HB1 := Lib.hid (bup HB.out hx0)
              clear HE HB hx0
              have hlen1 : ((((edgesI L C i ++ [edge1 i]) ++ edgesK L C i k) ++ [edge2 i k (L k) (L i), edge2 i k (C k) (C i)]) ++ edgesJ L C i k j).length ≤ 500 := by
                have hlen := edgesK_len L C i k (by omega)
                have hlen0 := edgesI_len L C i (by omega)
                simp only [List.length_append, List.length_cons, List.length_nil, edgesJ_len]
                omega
              obtain ⟨N, hN⟩ : ∃ N, ((((edgesI L C i ++ [edge1 i]) ++ edgesK L C i k) ++ [edge2 i k (L k) (L i), edge2 i k (C k) (C i)]) ++ edgesJ L C i k j).length = N := ⟨_, rfl⟩
              have m1 := prod_bd spk.1 spj.2
              have m2 := prod_bd spk.2 spj.1
              have m3 := prod_bd spj.1 spi.2
              have m4 := prod_bd spj.2 spi.1
              have m5 := prod_bd spi.1 spk.2
              have m6 := prod_bd spi.2 spk.1
              obtain ⟨q1, hq1⟩ : ∃ q, L k * C j = q := ⟨_, rfl⟩
              obtain ⟨q2, hq2⟩ : ∃ q, C k * L j = q := ⟨_, rfl⟩
              obtain ⟨q3, hq3⟩ : ∃ q, L j * C i = q := ⟨_, rfl⟩
              obtain ⟨q4, hq4⟩ : ∃ q, C j * L i = q := ⟨_, rfl⟩
              obtain ⟨q5, hq5⟩ : ∃ q, L i * C k = q := ⟨_, rfl⟩
              obtain ⟨q6, hq6⟩ : ∃ q, C i * L k = q := ⟨_, rfl⟩
              have eJ : edgeJ L C i k j = putR (pick3 i k j) (pick3 (q1 - q2) (q3 - q4) (q5 - q6)) 3 := by unfold edgeJ edge3; rw [hq1, hq2, hq3, hq4, hq5, hq6]
              have EJ := Lib.hid eJ
              rw [hq1] at m1
              rw [hq2] at m2
              rw [hq3] at m3
              rw [hq4] at m4
              rw [hq5] at m5
              rw [hq6] at m6
              clear eJ
              obtain ⟨Y, hY⟩ : ∃ Y, (x0.alloc (.cells #[.int .i64 (i : Nat), .int .i64 (k : Nat), .int .i64 (j : Nat)] 3)).alloc (.cells #[.int .i64 (q1 - q2), .int .i64 (q3 - q4), .int .i64 (q5 - q6)] 2) = Y := ⟨_, rfl⟩
              have hbY : Below x0.heap.size x0 Y := by rw [← hY]; exact (Below.alloc1 (Below.alloc1 (Below.refl _ _) _ (Nat.le_refl _)) _ (Nat.le_refl _))
              have rY0 : RowIs Y (x0.heap.size) #[.int .i64 (i : Nat), .int .i64 (k : Nat), .int .i64 (j : Nat)] 3 := by rw [← hY]; exact RowIs.alloc (heap_new_at _ _ _ rfl) _
              have rY1 : RowIs Y (x0.heap.size + 1) #[.int .i64 (q1 - q2), .int .i64 (q3 - q4), .int .i64 (q5 - q6)] 2 := by rw [← hY]; exact heap_new_at _ _ _ (by simp)
              have i1HP := ints_lit3 (f := fun t => ((pick3 i k j t : Nat) : Int)) rY0 rfl rfl rfl
              have i2HP := ints_lit3 (f := pick3 (q1 - q2) (q3 - q4) (q5 - q6)) rY1 rfl rfl rfl
              have HP := Lib.hid (rput_c n 3 3 3 (some ⟨x0.heap.size, 0, none⟩) (some ⟨x0.heap.size + 1, 0, none⟩) (pick3 i k j) (pick3 (q1 - q2) (q3 - q4) (q5 - q6)) Y i1HP i2HP hn6 (by omega) (fun t _ => by unfold pick3; split <;> omega) (fun t _ => by unfold pick3; split <;> omega))
              clear i1HP i2HP
              go_wp2_with fail
              clear rY0 rY1 hq1 hq2 hq3 hq4 hq5 hq6
              refine HP.out.mono ?_
              rintro e x1 ⟨u1, rfl, hu1, hbx1⟩
              have hbw1 := bup hbY hbx1
              clear hY hbY hbx1 HP
              obtain ⟨hs, hown, hin⟩ := EdgesAt.below HE1.out hbw1
              obtain ⟨ad1, k1, c1, rfl⟩ := hu1.form
              rw [← EJ.out] at hu1
              have Hu1 := Lib.hid hu1
              have Hin := Lib.hid hin
              have Hown := Lib.hid hown
              have hbws := HB1.out.size
              have hbs1 := hbw1.size
              clear hu1 hin HE1
              rw [hN] at hown hlen1
              go_wp2_with (at_builtin; refine wpList_append_own _ rfl _ _ 112 rfl W.heap.size 25 i0 (.slice none 0 0) 1 24 Tryz.underlying112 hi hz0 hz1 hz2 rfl (by decide) _ _ hs rfl (hown.alloc _) ⟨x1.heap.size, 0, none⟩ 1 1 [.slice ad1 k1 c1] rfl rfl (World.news_of_block (cs := #[.slice ad1 k1 c1]) (t := 25) (fr := (0, 0)) (heap_new_at _ _ _ rfl)) (by simp [Value.oneCell']) (by unfold maxLen; omega) (by omega) (by simp; omega) ?_; intro v' w2 hown2 hgr2 _)
              have hE2 : EdgesAt w2 W.heap.size n v' (((((edgesI L C i ++ [edge1 i]) ++ edgesK L C i k) ++ [edge2 i k (L k) (L i), edge2 i k (C k) (C i)]) ++ edgesJ L C i k j) ++ [edgeJ L C i k j]) := EdgesAt.snoc (hs := hs) (w := (x1.alloc (.cells #[.slice ad1 k1 c1] 25))) (Hown.out.alloc _) (fun t ht => by
                obtain ⟨x, hx, hp⟩ := Hin.out t ht
                exact ⟨x, hx, hp.below (Below.alloc1 (Below.refl _ _) _ (Nat.le_refl _))⟩) (Hu1.out.below (Below.alloc1 (Below.refl _ _) _ (Nat.le_refl _))) (by rw [hN]; exact hown2) hgr2
              have hB2 : Below W.heap.size W w2 := (Below.alloc1 (bup HB1.out hbw1) _ (Nat.le_refl _)).grown hgr2 (by simp; omega) (fun j h => (hown.lt j h).1)
              have HE2 := Lib.hid hE2
              have HB2 := Lib.hid hB2
              clear hown hown2 hgr2 hE2 hB2 hbw1 Hu1 Hin Hown HB1 hN hlen1 hbws hbs1 EJ m1 m2 m3 m4 m5 m6
              go_wp2
              go_roundw
              case rel => exact ⟨j + 1, by omega, by go_num, by simpa [edgesJ, List.append_assoc] using HE2.out, HB2.out⟩
              case measure => simp [intOf]; omega
            ·
              obtain rfl : j = k := by omega
              have hE9 := HE.out
              rw [show ((((edgesI L C i ++ [edge1 i]) ++ edgesK L C i j) ++ [edge2 i j (L j) (L i), edge2 i j (C j) (C i)]) ++ edgesJ L C i j j) = (edgesI L C i ++ [edge1 i]) ++ edgesK L C i (j + 1) by simp [edgesK, List.append_assoc]] at hE9
              have HE9 := Lib.hid hE9
              clear hE9 HE
              go_wp2
              go_roundw
              case rel => exact ⟨j + 1, by omega, by go_num, HE9.out, HB.out⟩
              case measure => simp [intOf]; omega
        ·
          obtain rfl : k = i := by omega
          have hE9 : EdgesAt wr W.heap.size n _ (edgesI L C (k + 1)) := HE.out
          have HE9 := Lib.hid hE9
          clear hE9 HE
          go_wp2
          go_roundw
          case rel => exact ⟨k + 1, by omega, by go_num, HE9.out, HB.out⟩
          case measure => simp [intOf]; omega
    ·
      obtain rfl : n = i := by omega
      obtain ⟨W4, hW4⟩ : ∃ W4, W4 = wr := ⟨_, rfl⟩
      subst hW4
      obtain ⟨ad8, c8, he8⟩ := HE.out.form
      subst he8
      have hlenA := edgesI_len L C n (by omega)
      obtain ⟨A, hA⟩ : ∃ A, edgesI L C n = A := ⟨_, rfl⟩
      have HAm := Lib.hid (show ∀ f, some f ∈ A → ∀ x, 0 ≤ f x ∧ f x ≤ 2147483648 from fun f h x => by
        rw [← hA] at h
        have := (edge_good HSp.out (mem_edgesI.1 h)).1 x
        omega)
      have HEL := Lib.hid (show edgeO s n m l c A = edgeL n m l c s by unfold edgeL; rw [EA.out, hA])
      obtain ⟨K, hK⟩ : ∃ K, A.length = K := ⟨_, rfl⟩
      rw [hA] at HE hlenA ⊢
      rw [hK] at HE hlenA ⊢
      have HK := Lib.hid hK
      clear hA hK KL KC HSp EA
      go_wp2
      go_loopw [18, 19] (fun o t wx => ∃ j, j ≤ K ∧ t = .int .i64 (j : Nat) ∧ EdgesAt wx W4.heap.size n o ((edgeO s n m l c (A.take j)).map some) ∧ Below W4.heap.size W4 wx) (fun _ t _ => K - (intOf t).toNat)
      case atStart => exact ⟨0, Nat.zero_le _, rfl, by simpa [edgeO] using EdgesAt.nil _ _ _, Below.refl _ _⟩
      case round =>
        obtain ⟨t, htK, rfl, hO, hB4⟩ := hrel
        have HO := Lib.hid hO
        have HB4 := Lib.hid hB4
        clear hO
        by_cases hlt : t < K
        · obtain ⟨g, c9, u, he_, hg, hBg, hcell, hp⟩ := (EdgesAt.below HE.out HB4.out).at (t := t) (by rw [HK.out]; exact hlt)
          rw [HK.out] at he_
          cases he_
          have htake : A.take (t + 1) = A.take t ++ [A.getD t none] := by
            rw [List.take_add_one]
            simp [List.getD, List.getElem?_eq_getElem (show t < A.length by rw [HK.out]; exact hlt)]
          obtain ⟨o, ho⟩ : ∃ o, A.getD t none = o := ⟨_, rfl⟩
          rw [ho] at hp htake
          have hmem : o ∈ A := by
            rw [← ho]
            simp [List.getD, List.getElem?_eq_getElem (show t < A.length by rw [HK.out]; exact hlt)]
          have Htake := Lib.hid htake
          clear htake ho
          cases o with
          | none =>
            have hu : u = .slice none 0 0 := hp
            subst hu
            have q1 : ((0 : Int) == (n : Int)) = false := by simp; omega
            have q2 : (0 : Int) ≠ (n : Int) := by omega
            have hE9 : edgeO s n m l c (A.take (t + 1)) = edgeO s n m l c (A.take t) := by rw [Htake.out, edgeO_snoc]; simp [goodO]
            have HE9 := Lib.hid hE9
            clear hE9 hp hmem
            go_wp2
            go_quiet (fail)
            go_wp2
            go_roundw
            case rel => exact ⟨t + 1, by omega, by go_num, by rw [HE9.out]; exact EdgesAt.below HO.out (below_drewN (Below.refl _ _) nq), below_drewN HB4.out nq⟩
            case measure => simp [intOf]; omega
          | some f =>
            obtain ⟨b, hu, hr⟩ := hp
            subst hu
            have hfb := HAm.out f hmem
            have KG := Lib.hid (fun (x : World) (hx : Below wr.heap.size wr x) => risGood_c a (some ⟨b, 0, none⟩) n cap n m f l c s x (HM.out.below (bup HB.out (bup HB4.out hx))) (ints_rowZ (RowIs.below hr hx)) HF.out (fun i _ => hfb i) Ht.out)
            have HR := Lib.hid hr
            obtain ⟨tc0, tc1, _, _, tz⟩ := ratrow2 (RowIs.below HT.out (bup HB.out HB4.out))
            clear hfb hmem hr hB4
            cases hgd : goodB s n m l c f
            case false =>
              rw [hgd] at KG
              have hE9 : edgeO s n m l c (A.take (t + 1)) = edgeO s n m l c (A.take t) := by rw [Htake.out, edgeO_snoc]; simp [goodO, hgd]
              have HE9 := Lib.hid hE9
              clear hE9 hgd
              have hlc := fun (x : Later wr) => later_cell x
              go_wp2
              refine wp_region_later (by kernel_rfl) (by kernel_rfl) ?_
              repeat (go_big_quiet_step ((with_reducible refine calls_later (KG.out _ (Later.h _)))))
              refine wpQuiet_nil ?_
              clear hlc
              rintro ⟨x0, hx0⟩
              dsimp only
              clear tc0 tc1 tz KG hcell
              go_wp2
              go_roundw
              case rel => exact ⟨t + 1, by omega, by go_num, by rw [HE9.out]; exact EdgesAt.below HO.out hx0, bup HB4.out hx0⟩
              case measure => simp [intOf]; omega
            case true =>
              rw [hgd] at KG
              have hE9 : edgeO s n m l c (A.take (t + 1)) = edgeO s n m l c (A.take t) ++ [f] := by rw [Htake.out, edgeO_snoc]; simp [goodO, hgd]
              have HE9 := Lib.hid hE9
              have hlen := edgeO_len s n m l c (A.take t)
              rw [List.length_take] at hlen
              clear hE9 hgd
              have hlc := fun (x : Later wr) => later_cell x
              go_wp2
              refine wp_region_later (by kernel_rfl) (by kernel_rfl) ?_
              repeat (go_big_quiet_step ((with_reducible refine calls_later (KG.out _ (Later.h _)))))
              refine wpQuiet_nil ?_
              clear hlc
              rintro ⟨x0, hx0⟩
              dsimp only
              have hcell1 := (hx0.cell (p := ⟨g, t, none⟩) hg).trans hcell
              have hg1 := Nat.lt_of_lt_of_le hg hx0.size
              obtain ⟨hs, hown, hin⟩ := EdgesAt.below HO.out hx0
              have Hin := Lib.hid hin
              have Hown := Lib.hid hown
              have hbws := HB4.out.size
              have hbs1 := hx0.size
              rw [List.length_map] at hown
              obtain ⟨N, hN⟩ : ∃ N, (edgeO s n m l c (A.take t)).length = N := ⟨_, rfl⟩
              rw [hN] at hown hlen
              clear tc0 tc1 tz KG hcell hin
              go_wp2_with (at_builtin; refine wpList_append_own _ rfl _ _ 112 rfl W4.heap.size 25 i0 (.slice none 0 0) 1 24 Tryz.underlying112 hi hz0 hz1 hz2 rfl (by decide) _ _ hs rfl (hown.alloc _) ⟨x0.heap.size, 0, none⟩ 1 1 [.slice (some ⟨b, 0, none⟩) n n] rfl rfl (World.news_of_block (cs := #[.slice (some ⟨b, 0, none⟩) n n]) (t := 25) (fr := (0, 0)) (heap_new_at _ _ _ rfl)) (by simp [Value.oneCell']) (by unfold maxLen; omega) (by omega) (by simp; omega) ?_; intro v' w2 hown2 hgr2 _)
              have hE2 : EdgesAt w2 W4.heap.size n v' ((edgeO s n m l c (A.take t)).map some ++ [some f]) := EdgesAt.snoc (hs := hs) (w := x0.alloc (.cells #[.slice (some ⟨b, 0, none⟩) n n] 25)) (Hown.out.alloc _) (fun t ht => by
                obtain ⟨x, hx, hp⟩ := Hin.out t ht
                exact ⟨x, hx, hp.below (Below.alloc1 (Below.refl _ _) _ (Nat.le_refl _))⟩) ⟨b, rfl, RowIs.below HR.out (bup hx0 (Below.alloc1 (Below.refl _ _) _ (Nat.le_refl _)))⟩ (by rw [List.length_map, hN]; exact hown2) hgr2
              have hB2 : Below W4.heap.size W4 w2 := (Below.alloc1 (bup HB4.out hx0) _ (Nat.le_refl _)).grown hgr2 (by simp; omega) (fun j h => (hown.lt j h).1)
              have HE2 := Lib.hid hE2
              have HB2 := Lib.hid hB2
              clear hown hown2 hgr2 hE2 hB2 Hin Hown hN hlen hcell1 hg1 hbws hbs1
              go_wp2
              go_roundw
              case rel => exact ⟨t + 1, by omega, by go_num, by rw [HE9.out, List.map_append]; exact HE2.out, HB2.out⟩
              case measure => simp [intOf]; omega
        · obtain rfl : t = K := by omega
          have hO9 := HO.out
          rw [← HK.out, List.take_length, HEL.out] at hO9
          have HO9 := Lib.hid hO9
          have HBf := Lib.hid (bup HB0.out (bup HB.out HB4.out))
          clear hO9 hB4
          go_wp2
          go_ret
          exact ⟨_, _, rfl, HO9.out, HBf.out⟩
end Go.Proofs.YtehafggcncbnkaaGreat
