/- The frame of the rows: how a book and a list of numbers open. -/
import Derived.Test.YtbjgbgchagfokaaGreatProg
import Derived.Test.YtbjgbgchagfokaaGreatBasaa
import Derived.ProofKit
import Derived.OpenShut
import Derived.Deep.Slices
import Derived.Deep.SlicePairs
import Derived.Lib.SmallJoins
namespace Go.Proofs.YtbjgbgchagfokaaGreat
open Go Go.RowKit Go.ChangeShapes Go.WideShapes Go.Deep Go.Joins

theorem cellsWant : Tryz.prog.cellsOf 77 = 2 := by kernel_rfl
theorem cellsBook : Tryz.prog.cellsOf 24 = 3 := by kernel_rfl
theorem cellsInt : Tryz.prog.cellsOf 3 = 1 := by kernel_rfl

instance : Inhabited W2 := ⟨⟨0, 0⟩⟩

theorem add_plainN (b off n : Nat) : (⟨b, off, none⟩ : Addr).add n = ⟨b, off + n, none⟩ := by
  unfold Addr.add
  split
  · rename_i h
    rw [h]
    rfl
  · rfl

section
variable {H : Type} {enc : TypeId × Value → H} {W : World} {sp : Nat → Bool}

set_option maxRecDepth 100000 in
theorem open_wants {n : Nat} {v : Value} {y : DataW H × List MemPlace} (h : DataW.trod enc Tryz.prog W 0 sp true n 22 [v] = some y) :
    ∃ a n cap f, v = .slice a n cap ∧ Wants W a n f := by
  rcases open_slice_pairs Tryz.underlying22 Tryz.underlying77 cellsWant rfl rfl cellsInt cellsInt h with ⟨hcs, _⟩ | ⟨a', len, cap', m, n', V0, V1, D0, D1, P0, P1, hcs, _, hl, _, hm, _, hi⟩
  · obtain rfl : v = .slice none 0 0 := by simpa using hcs
    exact ⟨none, 0, 0, fun _ => ⟨0, 0⟩, rfl, .inl rfl⟩
  · obtain rfl : v = .slice (some a') len cap' := by simpa using hcs
    have hlm : len ≤ m := by rw [hm]; split <;> omega
    obtain ⟨f, hf⟩ := choose_lt (n := m) (p := fun i (q : W2) => W.cell? (a'.add (i * 2)) = some (.int .i64 q.s) ∧ W.cell? (a'.add (i * 2 + 1)) = some (.int .i64 q.m)) (fun i hik => by
      obtain ⟨c0, c1, t0, t1⟩ := hi i hik
      obtain ⟨x, hx, _, _⟩ := DataW.trod_int Tryz.underlying3 t0
      obtain ⟨z, hz, _, _⟩ := DataW.trod_int Tryz.underlying3 t1
      simp at hx hz
      rw [hx] at c0
      rw [hz] at c1
      exact ⟨⟨x, z⟩, c0, c1⟩)
    refine ⟨some a', len, cap', f, rfl, ?_⟩
    by_cases h0 : len = 0
    · exact .inl h0
    obtain ⟨b, off, spot⟩ := a'
    have hspot : spot = none := by simpa [Addr.add] using World.cell?_spot (hf 0 (by omega)).1
    subst hspot
    have hf' : ∀ i, i < len → W.cell? ⟨b, off + i * 2, none⟩ = some (.int .i64 (f i).s) ∧ W.cell? ⟨b, off + i * 2 + 1, none⟩ = some (.int .i64 (f i).m) := fun i hin => by
      have := hf i (by omega)
      simpa [add_plainN, Nat.add_assoc] using this
    exact .inr ⟨b, off, rfl, World.block_lt_of_cell? W _ (hf' 0 (by omega)).1, hf'⟩

set_option maxRecDepth 100000 in
theorem open_book {r : Reach} {base : Nat} {v : Value} {d : DataW H} {p : List MemPlace} (hok : Value.okWide Tryz.prog W r base 24 v) (h : DataW.Trod enc Tryz.prog W 0 sp true 24 v d p) :
    ∃ S M a n cap f, v = bookV S M a n cap ∧ Wants W a n f := by
  obtain ⟨v0, v1, v2, y0, y1, y2, n, rfl, _, _, h0, h1, h2⟩ := open_agg3 Tryz.underlying24 (by kernel_rfl) cellsBook hok h
  obtain ⟨S, hS, _, _⟩ := DataW.trod_int Tryz.underlying3 h0
  obtain ⟨M, hM, _, _⟩ := DataW.trod_int Tryz.underlying3 h1
  obtain ⟨a, n, cap, f, rfl, hf⟩ := open_wants h2
  simp at hS hM
  subst hS hM
  exact ⟨S, M, a, n, cap, f, rfl, hf⟩

set_option maxRecDepth 100000 in
theorem open_days {base : Nat} {v : Value} {d : DataW H} {p : List MemPlace} (hok : Value.okWide Tryz.prog W .any base 25 v) (h : DataW.Trod enc Tryz.prog W 0 sp true 25 v d p) :
    ∃ a n cap f, v = .slice a n cap ∧ Ints W a n f ∧ n ≤ cap ∧ cap ≤ 9223372036854775807 := by
  obtain ⟨a, n, cap, rfl⟩ := okWide_slice Tryz.underlying25 hok
  obtain ⟨fuel, hf⟩ := h
  rcases open_ints Tryz.underlying25 Tryz.underlying3 cellsInt hf with ⟨hcs, _⟩ | ⟨a', len, cap', zs, hcs, _, hl, hm, hk, _, hi, _⟩
  · simp [Value.cells] at hcs
    obtain ⟨rfl, rfl, rfl⟩ := hcs
    exact ⟨none, 0, 0, fun _ => 0, rfl, .inl rfl, Nat.le_refl _, by omega⟩
  · simp [Value.cells] at hcs
    obtain ⟨rfl, rfl, rfl⟩ := hcs
    have hlk : n ≤ zs.length := by rw [hk]; split <;> omega
    refine ⟨some a', n, cap, fun i => zs.getD i 0, rfl, ?_, hl, hm⟩
    by_cases h0 : n = 0
    · exact .inl h0
    obtain ⟨b, off, rfl, hc⟩ := ints_at hi (by omega)
    exact .inr ⟨b, off, rfl, World.block_lt_of_cell? W _ (hc 0 (by omega)), fun i hin => hc i (by omega)⟩
end

end Go.Proofs.YtbjgbgchagfokaaGreat
