/- Contracts of layer 2: the loads, as the document's own answer has them. -/
import Derived.Test.YtbjgbgchagfokaaGreatProg
import Derived.Test.YtbjgbgchagfokaaGreatBasaa
import Derived.Test.YtbjgbgchagfokaaGreatBasab
import Derived.Shelf.Abstract
namespace Go.Proofs.YtbjgbgchagfokaaGreat
open Go Go.RowKit

theorem RowIs.frozen {w : World} {b : Nat} {c : Array Value} {e : TypeId} (h : RowIs w b c e) (j : Nat) : w.frozen? ⟨b, j, none⟩ = false := by
  simp [World.frozen?, h]
theorem RowIs.set {w : World} {b : Nat} {c : Array Value} {e : TypeId} (h : RowIs w b c e) (j : Nat) (v : Value) : RowIs (w.setCell ⟨b, j, none⟩ v) b (c.setIfInBounds j v) e := by
  simp only [RowIs, World.setCell, Array.getElem?_modify]
  simp only [RowIs] at h
  simp [h]
theorem RowIs.other {w : World} {b b' : Nat} {c : Array Value} {e : TypeId} (h : RowIs w b c e) (j : Nat) (v : Value) (hn : b' ≠ b) : RowIs (w.setCell ⟨b', j, none⟩ v) b c e := by
  rw [RowIs, Below.heap_setCell _ _ _ _ (fun e => hn e.symm)]; exact h
theorem RowIs.alloc {w : World} {b : Nat} {c : Array Value} {e : TypeId} (h : RowIs w b c e) (o : Obj) : RowIs (w.alloc o) b c e := by
  have hb := (Array.getElem?_eq_some_iff.1 h).1
  rw [RowIs, Below.heap_alloc _ _ _ hb]; exact h

/-- How many of the first wants have this number. -/
def loadF (g : Nat → Int) (x : Nat) : Nat → Int
  | 0 => 0
  | k + 1 => loadF g x k + if g k = x then 1 else 0
theorem loadF_bd (g : Nat → Int) (x : Nat) : ∀ k, 0 ≤ loadF g x k ∧ loadF g x k ≤ k
  | 0 => ⟨Int.le_refl _, Int.le_refl _⟩
  | k + 1 => by have := loadF_bd g x k; unfold loadF; split <;> omega

set_option maxHeartbeats 8000000 in
theorem LoadsOf_c (s m : Nat) (a : Option Addr) (n cap : Nat) (f : Nat → W2) (w : World) (hf : Wants w a n f) (hG : GoodBook s m n f) :
    Calls Tryz.prog 80 #[bookV s m a n cap] w fun e w' => ∃ b1 b2, e = .returned (.tuple #[.slice (some ⟨b1, 0, none⟩) s s, .slice (some ⟨b2, 0, none⟩) m m]) ∧ RowIs w' b1 (rowA s fun x => loadF (fun i => (f i).s) x n) 3 ∧ RowIs w' b2 (rowA m fun x => loadF (fun i => (f i).m) x n) 3 ∧ w.heap.size < b1 ∧ w.heap.size < b2 ∧ b1 ≠ b2 ∧ Below w.heap.size w w' := by
  obtain ⟨W, hW⟩ : ∃ W, w.alloc (.cells #[.int .i64 s, .int .i64 m, .slice a n cap] 24) = W := ⟨_, rfl⟩
  have hB : Below w.heap.size w W := by rw [← hW]; exact Below.alloc1 (Below.refl _ _) _ (Nat.le_refl _)
  have hR : W.heap[w.heap.size]? = some (.cells #[.int .i64 s, .int .i64 m, .slice a n cap] 24 (0, 0)) := by rw [← hW]; exact heap_new_at _ _ _ rfl
  have r0 : W.cell? ⟨w.heap.size, 0, none⟩ = some (.int .i64 s) := RowIs.cell hR 0
  have r1 : W.cell? ⟨w.heap.size, 1, none⟩ = some (.int .i64 m) := RowIs.cell hR 1
  have r2 : W.cell? ⟨w.heap.size, 2, none⟩ = some (.slice a n cap) := RowIs.cell hR 2
  have rz : w.heap.size < W.heap.size := (Array.getElem?_eq_some_iff.1 hR).1
  obtain ⟨hS, hM, hn, hr⟩ := hG
  have HR := Lib.hid hr
  have HfW := Lib.hid (hf.below hB)
  clear hf hR hr
  obtain ⟨V1, hV1⟩ : ∃ V1, ((W.alloc (.cells (rowA s fun _ => 0) 3)).alloc (.cells (rowA m fun _ => 0) 3)).drew = V1 := ⟨_, rfl⟩
  obtain ⟨V2, hV2⟩ : ∃ V2, ((W.alloc (.cells (rowA m fun _ => 0) 3)).alloc (.cells (rowA s fun _ => 0) 3)).drew = V2 := ⟨_, rfl⟩
  have SV1 : RowIs V1 W.heap.size (rowA s fun _ => 0) 3 ∧ RowIs V1 (W.heap.size + 1) (rowA m fun _ => 0) 3 ∧ Below W.heap.size W V1 := by
    rw [← hV1]
    exact ⟨RowIs.alloc (heap_new_at W _ _ rfl) _, heap_new_at _ _ _ (by simp), (Below.alloc1 (Below.alloc1 (Below.refl _ _) _ (Nat.le_refl _)) _ (by simp)).drew⟩
  have SV2 : RowIs V2 (W.heap.size + 1) (rowA s fun _ => 0) 3 ∧ RowIs V2 W.heap.size (rowA m fun _ => 0) 3 ∧ Below W.heap.size W V2 := by
    rw [← hV2]
    exact ⟨heap_new_at _ _ _ (by simp), RowIs.alloc (heap_new_at W _ _ rfl) _, (Below.alloc1 (Below.alloc1 (Below.refl _ _) _ (Nat.le_refl _)) _ (by simp)).drew⟩
  have mk1 := make_row s (by omega)
  have mk2 := make_row m (by omega)
  replace SV1 := Lib.hid SV1
  replace SV2 := Lib.hid SV2
  go_enter Tryz.func80, Tryz.ntmps80
  go_wp2
  go_region
  ·
    clear hV1 hV2 hW mk1 mk2
    go_wp2
    go_loopw [6] (fun i wr => ∃ k : Nat, k ≤ n ∧ i = .int .i64 k ∧ RowIs wr (W.heap.size) (rowA s fun x => loadF (fun i => (f i).s) x k) 3 ∧ RowIs wr (W.heap.size + 1) (rowA m fun x => loadF (fun i => (f i).m) x k) 3 ∧ Below W.heap.size W wr) (fun i _ => n - (intOf i).toNat)
    case atStart => exact ⟨0, Nat.zero_le _, rfl, SV1.out.1, SV1.out.2.1, SV1.out.2.2⟩
    case round =>
      obtain ⟨k, hk, rfl, hr1, hr2, hB2⟩ := hrel
      have H1 := Lib.hid hr1
      have H2 := Lib.hid hr2
      have q2 := (hB2.cell (p := ⟨w.heap.size, 2, none⟩) rz).trans r2
      by_cases hlt : k < n
      · obtain ⟨b, off, rfl, hbs, -, -⟩ := Wants.at HfW.out k hlt
        obtain ⟨b', off', he, -, c0, c1⟩ := Wants.at (Wants.below HfW.out hB2) k hlt
        cases he
        obtain ⟨x, hx⟩ := Int.eq_ofNat_of_zero_le (HR.out k hlt).1.1
        obtain ⟨y, hy⟩ := Int.eq_ofNat_of_zero_le (HR.out k hlt).2.1
        have hxs : x < s := by have := (HR.out k hlt).1.2; omega
        have hym : y < m := by have := (HR.out k hlt).2.2; omega
        have hlx := loadF_bd (fun i => (f i).s) x k
        have hly := loadF_bd (fun i => (f i).m) y k
        rw [hx] at c0
        rw [hy] at c1
        have e0 : wr.cell? ⟨W.heap.size, x, none⟩ = some (.int .i64 (loadF (fun i => (f i).s) x k)) := (RowIs.cell hr1 x).trans (rowA_get _ _ x hxs)
        have e1 : wr.frozen? ⟨W.heap.size, x, none⟩ = false := RowIs.frozen hr1 x
        obtain ⟨X, hX⟩ : ∃ X, wr.setCell ⟨W.heap.size, x, none⟩ (.int .i64 (loadF (fun i => (f i).s) x k + 1)) = X := ⟨_, rfl⟩
        have hBX : Below W.heap.size W X := by rw [← hX]; exact Below.setCell hB2 (by show W.heap.size ≤ W.heap.size; omega) _
        have x1 : RowIs X (W.heap.size) (rowA s fun x => loadF (fun i => (f i).s) x (k + 1)) 3 := by
          rw [← hX]
          have := RowIs.set hr1 x (.int .i64 (loadF (fun i => (f i).s) x k + 1))
          rwa [rowA_set s _ (fun z => loadF (fun i => (f i).s) z (k + 1)) x _ (by simp [loadF, hx]) (fun i _ hn => by simp [loadF, hx]; omega)] at this
        have x2 : RowIs X (W.heap.size + 1) (rowA m fun x => loadF (fun i => (f i).m) x k) 3 := by rw [← hX]; exact RowIs.other hr2 _ _ (by omega)
        have f0 : X.cell? ⟨W.heap.size + 1, y, none⟩ = some (.int .i64 (loadF (fun i => (f i).m) y k)) := (RowIs.cell x2 y).trans (rowA_get _ _ y hym)
        have f1 : X.frozen? ⟨W.heap.size + 1, y, none⟩ = false := RowIs.frozen x2 y
        obtain ⟨Y, hY⟩ : ∃ Y, X.setCell ⟨W.heap.size + 1, y, none⟩ (.int .i64 (loadF (fun i => (f i).m) y k + 1)) = Y := ⟨_, rfl⟩
        have hBY : Below W.heap.size W Y := by rw [← hY]; exact Below.setCell hBX (by show W.heap.size ≤ W.heap.size + 1; omega) _
        have y2 : RowIs Y (W.heap.size + 1) (rowA m fun x => loadF (fun i => (f i).m) x (k + 1)) 3 := by
          rw [← hY]
          have := RowIs.set x2 y (.int .i64 (loadF (fun i => (f i).m) y k + 1))
          rwa [rowA_set m _ (fun z => loadF (fun i => (f i).m) z (k + 1)) y _ (by simp [loadF, hy]) (fun i _ hn => by simp [loadF, hy]; omega)] at this
        have y1 : RowIs Y (W.heap.size) (rowA s fun x => loadF (fun i => (f i).s) x (k + 1)) 3 := by rw [← hY]; exact RowIs.other x1 _ _ (by omega)
        have p2 := (hBX.cell (p := ⟨w.heap.size, 2, none⟩) rz).trans r2
        have d1 : X.cell? ⟨b, off + k * 2 + 1, none⟩ = some (.int .i64 y) := (hBX.cell (p := ⟨b, off + k * 2 + 1, none⟩) hbs).trans ((hB2.cell (p := ⟨b, off + k * 2 + 1, none⟩) hbs).symm.trans c1)
        have hw1 : IntKind.i64.wrap (loadF (fun i => (f i).s) x k + 1) = loadF (fun i => (f i).s) x k + 1 := IntWalk.i64_in _ (by omega)
        have hw2 : IntKind.i64.wrap (loadF (fun i => (f i).m) y k + 1) = loadF (fun i => (f i).m) y k + 1 := IntWalk.i64_in _ (by omega)
        have Y1 := Lib.hid y1
        have Y2 := Lib.hid y2
        clear hr1 hr2 x1 x2 y1 y2 r0 r1 r2
        go_wp2
        go_roundw
        case rel => exact ⟨k + 1, by omega, by go_num, Y1.out, Y2.out, hBY⟩
        case measure => simp [intOf]; omega
      · obtain rfl : k = n := by omega
        go_wp2
        refine bodyPost_ret (v := .tuple #[.slice (some ⟨W.heap.size, 0, none⟩) s s, .slice (some ⟨W.heap.size + 1, 0, none⟩) m m]) (by simp [results, Tryz.results80, go_sem]) rfl ⟨_, _, rfl, H1.out, H2.out, by omega, by omega, by omega, bup hB hB2⟩
  ·
    clear hV1 hV2 hW mk1 mk2
    go_wp2
    go_loopw [6] (fun i wr => ∃ k : Nat, k ≤ n ∧ i = .int .i64 k ∧ RowIs wr (W.heap.size + 1) (rowA s fun x => loadF (fun i => (f i).s) x k) 3 ∧ RowIs wr (W.heap.size) (rowA m fun x => loadF (fun i => (f i).m) x k) 3 ∧ Below W.heap.size W wr) (fun i _ => n - (intOf i).toNat)
    case atStart => exact ⟨0, Nat.zero_le _, rfl, SV2.out.1, SV2.out.2.1, SV2.out.2.2⟩
    case round =>
      obtain ⟨k, hk, rfl, hr1, hr2, hB2⟩ := hrel
      have H1 := Lib.hid hr1
      have H2 := Lib.hid hr2
      have q2 := (hB2.cell (p := ⟨w.heap.size, 2, none⟩) rz).trans r2
      by_cases hlt : k < n
      · obtain ⟨b, off, rfl, hbs, -, -⟩ := Wants.at HfW.out k hlt
        obtain ⟨b', off', he, -, c0, c1⟩ := Wants.at (Wants.below HfW.out hB2) k hlt
        cases he
        obtain ⟨x, hx⟩ := Int.eq_ofNat_of_zero_le (HR.out k hlt).1.1
        obtain ⟨y, hy⟩ := Int.eq_ofNat_of_zero_le (HR.out k hlt).2.1
        have hxs : x < s := by have := (HR.out k hlt).1.2; omega
        have hym : y < m := by have := (HR.out k hlt).2.2; omega
        have hlx := loadF_bd (fun i => (f i).s) x k
        have hly := loadF_bd (fun i => (f i).m) y k
        rw [hx] at c0
        rw [hy] at c1
        have e0 : wr.cell? ⟨W.heap.size + 1, x, none⟩ = some (.int .i64 (loadF (fun i => (f i).s) x k)) := (RowIs.cell hr1 x).trans (rowA_get _ _ x hxs)
        have e1 : wr.frozen? ⟨W.heap.size + 1, x, none⟩ = false := RowIs.frozen hr1 x
        obtain ⟨X, hX⟩ : ∃ X, wr.setCell ⟨W.heap.size + 1, x, none⟩ (.int .i64 (loadF (fun i => (f i).s) x k + 1)) = X := ⟨_, rfl⟩
        have hBX : Below W.heap.size W X := by rw [← hX]; exact Below.setCell hB2 (by show W.heap.size ≤ W.heap.size + 1; omega) _
        have x1 : RowIs X (W.heap.size + 1) (rowA s fun x => loadF (fun i => (f i).s) x (k + 1)) 3 := by
          rw [← hX]
          have := RowIs.set hr1 x (.int .i64 (loadF (fun i => (f i).s) x k + 1))
          rwa [rowA_set s _ (fun z => loadF (fun i => (f i).s) z (k + 1)) x _ (by simp [loadF, hx]) (fun i _ hn => by simp [loadF, hx]; omega)] at this
        have x2 : RowIs X (W.heap.size) (rowA m fun x => loadF (fun i => (f i).m) x k) 3 := by rw [← hX]; exact RowIs.other hr2 _ _ (by omega)
        have f0 : X.cell? ⟨W.heap.size, y, none⟩ = some (.int .i64 (loadF (fun i => (f i).m) y k)) := (RowIs.cell x2 y).trans (rowA_get _ _ y hym)
        have f1 : X.frozen? ⟨W.heap.size, y, none⟩ = false := RowIs.frozen x2 y
        obtain ⟨Y, hY⟩ : ∃ Y, X.setCell ⟨W.heap.size, y, none⟩ (.int .i64 (loadF (fun i => (f i).m) y k + 1)) = Y := ⟨_, rfl⟩
        have hBY : Below W.heap.size W Y := by rw [← hY]; exact Below.setCell hBX (by show W.heap.size ≤ W.heap.size; omega) _
        have y2 : RowIs Y (W.heap.size) (rowA m fun x => loadF (fun i => (f i).m) x (k + 1)) 3 := by
          rw [← hY]
          have := RowIs.set x2 y (.int .i64 (loadF (fun i => (f i).m) y k + 1))
          rwa [rowA_set m _ (fun z => loadF (fun i => (f i).m) z (k + 1)) y _ (by simp [loadF, hy]) (fun i _ hn => by simp [loadF, hy]; omega)] at this
        have y1 : RowIs Y (W.heap.size + 1) (rowA s fun x => loadF (fun i => (f i).s) x (k + 1)) 3 := by rw [← hY]; exact RowIs.other x1 _ _ (by omega)
        have p2 := (hBX.cell (p := ⟨w.heap.size, 2, none⟩) rz).trans r2
        have d1 : X.cell? ⟨b, off + k * 2 + 1, none⟩ = some (.int .i64 y) := (hBX.cell (p := ⟨b, off + k * 2 + 1, none⟩) hbs).trans ((hB2.cell (p := ⟨b, off + k * 2 + 1, none⟩) hbs).symm.trans c1)
        have hw1 : IntKind.i64.wrap (loadF (fun i => (f i).s) x k + 1) = loadF (fun i => (f i).s) x k + 1 := IntWalk.i64_in _ (by omega)
        have hw2 : IntKind.i64.wrap (loadF (fun i => (f i).m) y k + 1) = loadF (fun i => (f i).m) y k + 1 := IntWalk.i64_in _ (by omega)
        have Y1 := Lib.hid y1
        have Y2 := Lib.hid y2
        clear hr1 hr2 x1 x2 y1 y2 r0 r1 r2
        go_wp2
        go_roundw
        case rel => exact ⟨k + 1, by omega, by go_num, Y1.out, Y2.out, hBY⟩
        case measure => simp [intOf]; omega
      · obtain rfl : k = n := by omega
        go_wp2
        refine bodyPost_ret (v := .tuple #[.slice (some ⟨W.heap.size + 1, 0, none⟩) s s, .slice (some ⟨W.heap.size, 0, none⟩) m m]) (by simp [results, Tryz.results80, go_sem]) rfl ⟨_, _, rfl, H1.out, H2.out, by omega, by omega, by omega, bup hB hB2⟩

end Go.Proofs.YtbjgbgchagfokaaGreat

namespace Go.Proofs.YtbjgbgchagfokaaGreat
open Go Go.RowKit

abbrev wantV (x : W2) : Value := .agg #[.int .i64 x.s, .int .i64 x.m]
/-- Twelve numbers. -/
def loadRow (h : Nat → Int) : Array Value := #[.int .i64 (h 0), .int .i64 (h 1), .int .i64 (h 2), .int .i64 (h 3), .int .i64 (h 4), .int .i64 (h 5), .int .i64 (h 6), .int .i64 (h 7), .int .i64 (h 8), .int .i64 (h 9), .int .i64 (h 10), .int .i64 (h 11)]
abbrev loadV (h : Nat → Int) : Value := .agg #[.int .i64 (h 0), .int .i64 (h 1), .int .i64 (h 2), .int .i64 (h 3), .int .i64 (h 4), .int .i64 (h 5), .int .i64 (h 6), .int .i64 (h 7), .int .i64 (h 8), .int .i64 (h 9), .int .i64 (h 10), .int .i64 (h 11)]
def deskRow (S M : Int) (a : Option Addr) (n cap : Nat) (h : Nat → Int) : Array Value := #[.int .i64 S, .int .i64 M, .slice a n cap, .int .i64 (h 0), .int .i64 (h 1), .int .i64 (h 2), .int .i64 (h 3), .int .i64 (h 4), .int .i64 (h 5), .int .i64 (h 6), .int .i64 (h 7), .int .i64 (h 8), .int .i64 (h 9), .int .i64 (h 10), .int .i64 (h 11)]
abbrev deskV (S M : Int) (a : Option Addr) (n cap : Nat) (h : Nat → Int) : Value := .agg #[.int .i64 S, .int .i64 M, .slice a n cap, .int .i64 (h 0), .int .i64 (h 1), .int .i64 (h 2), .int .i64 (h 3), .int .i64 (h 4), .int .i64 (h 5), .int .i64 (h 6), .int .i64 (h 7), .int .i64 (h 8), .int .i64 (h 9), .int .i64 (h 10), .int .i64 (h 11)]

theorem loadRow_at (h : Nat → Int) (x : Nat) (hx : x < 12) : (loadRow h)[x]? = some (.int .i64 (h x)) := by
  have : x = 0 ∨ x = 1 ∨ x = 2 ∨ x = 3 ∨ x = 4 ∨ x = 5 ∨ x = 6 ∨ x = 7 ∨ x = 8 ∨ x = 9 ∨ x = 10 ∨ x = 11 := by omega
  rcases this with rfl | rfl | rfl | rfl | rfl | rfl | rfl | rfl | rfl | rfl | rfl | rfl <;> rfl
theorem loadRow_rowA (h : Nat → Int) : loadRow h = rowA 12 h := rfl
theorem loadRow_set (h g : Nat → Int) (j : Nat) (v : Int) (hv : v = g j) (hg : ∀ i, i < 12 → i ≠ j → g i = h i) : (loadRow h).setIfInBounds j (.int .i64 v) = loadRow g := rowA_set 12 h g j v hv hg

/-- What the twelve cells of loads hold. -/
theorem loadcells {w : World} {b : Nat} {h : Nat → Int} {T : TypeId} (hr : RowIs w b (loadRow h) T) :
    w.cell? ⟨b, 0, none⟩ = some (.int .i64 (h 0)) ∧ w.cell? ⟨b, 1, none⟩ = some (.int .i64 (h 1)) ∧ w.cell? ⟨b, 2, none⟩ = some (.int .i64 (h 2)) ∧ w.cell? ⟨b, 3, none⟩ = some (.int .i64 (h 3)) ∧ w.cell? ⟨b, 4, none⟩ = some (.int .i64 (h 4)) ∧ w.cell? ⟨b, 5, none⟩ = some (.int .i64 (h 5)) ∧
    w.cell? ⟨b, 6, none⟩ = some (.int .i64 (h 6)) ∧ w.cell? ⟨b, 7, none⟩ = some (.int .i64 (h 7)) ∧ w.cell? ⟨b, 8, none⟩ = some (.int .i64 (h 8)) ∧ w.cell? ⟨b, 9, none⟩ = some (.int .i64 (h 9)) ∧ w.cell? ⟨b, 10, none⟩ = some (.int .i64 (h 10)) ∧ w.cell? ⟨b, 11, none⟩ = some (.int .i64 (h 11)) ∧ b < w.heap.size :=
  ⟨hr.cell 0, hr.cell 1, hr.cell 2, hr.cell 3, hr.cell 4, hr.cell 5, hr.cell 6, hr.cell 7, hr.cell 8, hr.cell 9, hr.cell 10, hr.cell 11, (Array.getElem?_eq_some_iff.1 hr).1⟩
theorem loadfree {w : World} {b : Nat} {h : Nat → Int} {T : TypeId} (hr : RowIs w b (loadRow h) T) :
    w.frozen? ⟨b, 0, none⟩ = false ∧ w.frozen? ⟨b, 1, none⟩ = false ∧ w.frozen? ⟨b, 2, none⟩ = false ∧ w.frozen? ⟨b, 3, none⟩ = false ∧ w.frozen? ⟨b, 4, none⟩ = false ∧ w.frozen? ⟨b, 5, none⟩ = false ∧
    w.frozen? ⟨b, 6, none⟩ = false ∧ w.frozen? ⟨b, 7, none⟩ = false ∧ w.frozen? ⟨b, 8, none⟩ = false ∧ w.frozen? ⟨b, 9, none⟩ = false ∧ w.frozen? ⟨b, 10, none⟩ = false ∧ w.frozen? ⟨b, 11, none⟩ = false :=
  ⟨hr.frozen 0, hr.frozen 1, hr.frozen 2, hr.frozen 3, hr.frozen 4, hr.frozen 5, hr.frozen 6, hr.frozen 7, hr.frozen 8, hr.frozen 9, hr.frozen 10, hr.frozen 11⟩
/-- What the fifteen cells of a desk hold. -/
theorem deskcells {w : World} {b : Nat} {S M : Int} {a : Option Addr} {n cap : Nat} {h : Nat → Int} {T : TypeId} (hr : RowIs w b (deskRow S M a n cap h) T) :
    w.cell? ⟨b, 0, none⟩ = some (.int .i64 S) ∧ w.cell? ⟨b, 1, none⟩ = some (.int .i64 M) ∧ w.cell? ⟨b, 2, none⟩ = some (.slice a n cap) ∧ w.cell? ⟨b, 3, none⟩ = some (.int .i64 (h 0)) ∧ w.cell? ⟨b, 4, none⟩ = some (.int .i64 (h 1)) ∧ w.cell? ⟨b, 5, none⟩ = some (.int .i64 (h 2)) ∧ w.cell? ⟨b, 6, none⟩ = some (.int .i64 (h 3)) ∧ w.cell? ⟨b, 7, none⟩ = some (.int .i64 (h 4)) ∧ w.cell? ⟨b, 8, none⟩ = some (.int .i64 (h 5)) ∧
    w.cell? ⟨b, 9, none⟩ = some (.int .i64 (h 6)) ∧ w.cell? ⟨b, 10, none⟩ = some (.int .i64 (h 7)) ∧ w.cell? ⟨b, 11, none⟩ = some (.int .i64 (h 8)) ∧ w.cell? ⟨b, 12, none⟩ = some (.int .i64 (h 9)) ∧ w.cell? ⟨b, 13, none⟩ = some (.int .i64 (h 10)) ∧ w.cell? ⟨b, 14, none⟩ = some (.int .i64 (h 11)) ∧ b < w.heap.size :=
  ⟨hr.cell 0, hr.cell 1, hr.cell 2, hr.cell 3, hr.cell 4, hr.cell 5, hr.cell 6, hr.cell 7, hr.cell 8, hr.cell 9, hr.cell 10, hr.cell 11, hr.cell 12, hr.cell 13, hr.cell 14, (Array.getElem?_eq_some_iff.1 hr).1⟩
theorem RowIs.below {w w' : World} {b : Nat} {c : Array Value} {e : TypeId} (h : RowIs w b c e) (hb : Below w.heap.size w w') : RowIs w' b c e := (hb.block b (Array.getElem?_eq_some_iff.1 h).1).trans h
theorem RowIs.lt {w : World} {b : Nat} {c : Array Value} {e : TypeId} (h : RowIs w b c e) : b < w.heap.size := (Array.getElem?_eq_some_iff.1 h).1

/-- Twelve cells are written. -/
def put12 (w : World) (b : Nat) (h : Nat → Int) : World :=
  (((((((((((w.setCell ⟨b, 0, none⟩ (.int .i64 (h 0))).setCell ⟨b, 1, none⟩ (.int .i64 (h 1))).setCell ⟨b, 2, none⟩ (.int .i64 (h 2))).setCell ⟨b, 3, none⟩ (.int .i64 (h 3))).setCell ⟨b, 4, none⟩ (.int .i64 (h 4))).setCell ⟨b, 5, none⟩ (.int .i64 (h 5))).setCell ⟨b, 6, none⟩ (.int .i64 (h 6))).setCell ⟨b, 7, none⟩ (.int .i64 (h 7))).setCell ⟨b, 8, none⟩ (.int .i64 (h 8))).setCell ⟨b, 9, none⟩ (.int .i64 (h 9))).setCell ⟨b, 10, none⟩ (.int .i64 (h 10))).setCell ⟨b, 11, none⟩ (.int .i64 (h 11))
theorem put12_row {w : World} {b : Nat} {g : Nat → Int} {T : TypeId} (h : RowIs w b (loadRow g) T) (f : Nat → Int) : RowIs (put12 w b f) b (loadRow f) T := by
  have := (((((((((((h.set 0 (.int .i64 (f 0))).set 1 (.int .i64 (f 1))).set 2 (.int .i64 (f 2))).set 3 (.int .i64 (f 3))).set 4 (.int .i64 (f 4))).set 5 (.int .i64 (f 5))).set 6 (.int .i64 (f 6))).set 7 (.int .i64 (f 7))).set 8 (.int .i64 (f 8))).set 9 (.int .i64 (f 9))).set 10 (.int .i64 (f 10))).set 11 (.int .i64 (f 11))
  simpa [put12, loadRow] using this
theorem put12_below {w : World} {b B : Nat} (h : B ≤ b) (f : Nat → Int) : Below B w (put12 w b f) :=
  ((((((((((((Below.refl B w).setCell (p := ⟨b, 0, none⟩) h _).setCell (p := ⟨b, 1, none⟩) h _).setCell (p := ⟨b, 2, none⟩) h _).setCell (p := ⟨b, 3, none⟩) h _).setCell (p := ⟨b, 4, none⟩) h _).setCell (p := ⟨b, 5, none⟩) h _).setCell (p := ⟨b, 6, none⟩) h _).setCell (p := ⟨b, 7, none⟩) h _).setCell (p := ⟨b, 8, none⟩) h _).setCell (p := ⟨b, 9, none⟩) h _).setCell (p := ⟨b, 10, none⟩) h _).setCell (p := ⟨b, 11, none⟩) h _

/-- How many of the first wants that are meant are of the shop x, or of the mould x - 6. -/
def ldF (f : Nat → W2) (p : Nat → Bool) (x : Nat) : Nat → Int
  | 0 => 0
  | k + 1 => ldF f p x k + if p k = true ∧ ((f k).s = x ∨ 6 + (f k).m = x) then 1 else 0
theorem ldF_bd (f : Nat → W2) (p : Nat → Bool) (x : Nat) : ∀ k, 0 ≤ ldF f p x k ∧ ldF f p x k ≤ k
  | 0 => ⟨Int.le_refl _, Int.le_refl _⟩
  | k + 1 => by have := ldF_bd f p x k; unfold ldF; split <;> omega

set_option maxHeartbeats 8000000 in
theorem dloadsOf_c (S M : Int) (a : Option Addr) (n cap : Nat) (f : Nat → W2) (h : Nat → Int) (mf : Nat) (mfirst mlb : Array Value) (p : Nat → Bool) (w : World) (hf : Wants w a n f) (hG : GoodBook S M n f) (em : ∀ args w, (callFunc mf args).run Tryz.prog w = .ok (.enter mf args) w)
    (hm : ∀ W, Below w.heap.size w W → ∀ i, i < n → Calls Tryz.prog mf (mfirst ++ #[wantV (f i)] ++ mlb) W fun e w' => e = .returned (.bool (p i)) ∧ Below W.heap.size W w') :
    Calls Tryz.prog 47 #[deskV S M a n cap h, .func (.func mf) mfirst mlb] w fun e w' => e = .returned (loadV fun x => ldF f p x n) ∧ Below w.heap.size w w' := by
  obtain ⟨hS, hM, hn, hr⟩ := hG
  obtain ⟨Z, hZ⟩ : ∃ Z, ((w.alloc (.cells (deskRow S M a n cap h) 47)).alloc (.cells (loadRow fun _ => 0) 45)).alloc (.cells (loadRow fun _ => 0) 45) = Z := ⟨_, rfl⟩
  have hB : Below w.heap.size w Z := by rw [← hZ]; exact Below.alloc1 (Below.alloc1 (Below.alloc1 (Below.refl _ _) _ (Nat.le_refl _)) _ (Nat.le_refl _)) _ (Nat.le_refl _)
  have hD : RowIs Z w.heap.size (deskRow S M a n cap h) 47 := by rw [← hZ]; exact RowIs.alloc (RowIs.alloc (heap_new_at _ _ _ rfl) _) _
  have hR : RowIs Z (w.heap.size + 1) (loadRow fun _ => 0) 45 := by rw [← hZ]; exact RowIs.alloc (heap_new_at _ _ _ (by simp)) _
  have hL : RowIs Z (w.heap.size + 2) (loadRow fun _ => 0) 45 := by rw [← hZ]; exact heap_new_at _ _ _ (by simp)
  have hzZ : Z.heap.size = w.heap.size + 3 := by rw [← hZ]; simp
  have d2 : Z.cell? ⟨w.heap.size, 2, none⟩ = some (.slice a n cap) := hD.cell 2
  have dz := hD.lt
  have Hm := Lib.hid hm
  have Hr := Lib.hid hr
  have Hf := Lib.hid hf
  have HD := Lib.hid hD
  have HR := Lib.hid hR
  have HL := Lib.hid hL
  have HB := Lib.hid hB
  have HzZ := Lib.hid hzZ
  clear hf hr hm hD hR hL hB hzZ
  simp only [deskRow, loadRow] at hZ
  go_enter Tryz.func47, Tryz.ntmps47
  go_wp2_with fail
  go_loopw [12] (fun i wr => ∃ k : Nat, k ≤ n ∧ i = .int .i64 k ∧ Below w.heap.size w wr ∧ w.heap.size + 3 ≤ wr.heap.size ∧ RowIs wr (w.heap.size + 1) (loadRow fun _ => 0) 45 ∧ RowIs wr (w.heap.size + 2) (loadRow fun x => ldF f p x k) 45) (fun i _ => n - (intOf i).toNat)
  case atStart => exact ⟨0, Nat.zero_le _, rfl, HB.out, Nat.le_of_eq HzZ.out.symm, HR.out, HL.out⟩
  case round =>
    obtain ⟨k, hk, rfl, hBr, hzr, hR2, hL2⟩ := hrel
    have HR2 := Lib.hid hR2
    have HL2 := Lib.hid hL2
    by_cases hlt : k < n
    · obtain ⟨b, off, rfl, hbs, -, -⟩ := Wants.at Hf.out k hlt
      obtain ⟨b', off', he, hbs', c0, c1⟩ := Wants.at (Wants.below Hf.out hBr) k hlt
      cases he
      obtain ⟨x, hx⟩ := Int.eq_ofNat_of_zero_le (Hr.out k hlt).1.1
      obtain ⟨y, hy⟩ := Int.eq_ofNat_of_zero_le (Hr.out k hlt).2.1
      have hxs : x < 6 := by have := (Hr.out k hlt).1.2; omega
      have hym : y < 6 := by have := (Hr.out k hlt).2.2; omega
      have hfk : f k = ⟨x, y⟩ := by
        cases hf : f k with
        | mk s m =>
          rw [hf] at hx hy
          simp only at hx hy
          rw [hx, hy]
      rw [hx] at c0
      rw [hy] at c1
      obtain ⟨V, hV⟩ : ∃ V, wr.alloc (.cells #[.int .i64 (x : Int), .int .i64 (y : Int)] 77) = V := ⟨_, rfl⟩
      have hBV : Below wr.heap.size wr V := by rw [← hV]; exact Below.alloc1 (Below.refl _ _) _ (Nat.le_refl _)
      have hW2 : RowIs V wr.heap.size #[.int .i64 (x : Int), .int .i64 (y : Int)] 77 := by rw [← hV]; exact heap_new_at _ _ _ rfl
      have q0 : V.cell? ⟨wr.heap.size, 0, none⟩ = some (.int .i64 (x : Int)) := hW2.cell 0
      have q1 : V.cell? ⟨wr.heap.size, 1, none⟩ = some (.int .i64 (y : Int)) := hW2.cell 1
      have qz := hW2.lt
      have hBwV : Below w.heap.size w V := hBr.trans (hBV.mono (by omega))
      have hc := Hm.out V hBwV k hlt
      rw [hfk] at hc
      rw [show mfirst ++ #[wantV ⟨x, y⟩] = mfirst.push (wantV ⟨x, y⟩) from rfl] at hc
      have Hx := Lib.hid hx
      have Hy := Lib.hid hy
      have Hc := Lib.hid hc
      clear hfk hx hy
      have HW2 := Lib.hid hW2
      have HBV := Lib.hid hBwV
      have HBr := Lib.hid hBr
      have HRV := Lib.hid (hR2.below hBV)
      have HLV := Lib.hid (hL2.below hBV)
      have hzV : w.heap.size + 3 ≤ V.heap.size := Nat.le_trans hzr hBV.size
      clear hc hW2 hBwV hR2 hL2 hBr
      go_wp2_with fail
      refine Hc.out.mono ?_
      rintro e w1 ⟨rfl, hb1⟩
      have hB1 : Below w.heap.size w w1 := HBV.out.trans (hb1.mono (by omega))
      have hz1 : w.heap.size + 3 ≤ w1.heap.size := Nat.le_trans hzV hb1.size
      have hR1 := HRV.out.below hb1
      have hL1 := HLV.out.below hb1
      have hQ1 := HW2.out.below hb1
      clear q0 q1 c0 c1 hV
      have q0 : w1.cell? ⟨wr.heap.size, 0, none⟩ = some (.int .i64 (x : Int)) := hQ1.cell 0
      have q1 : w1.cell? ⟨wr.heap.size, 1, none⟩ = some (.int .i64 (y : Int)) := hQ1.cell 1
      have qz1 := hQ1.lt
      have HR1 := Lib.hid hR1
      have HL1 := Lib.hid hL1
      have HB1 := Lib.hid hB1
      clear hR1 hL1 hQ1 hB1 hb1 qz
      cases hp : p k with
      | false =>
        have Hp := Lib.hid hp
        clear hp
        go_wp2_with fail
        go_roundw
        case rel =>
          refine ⟨k + 1, by omega, by go_num, HB1.out, hz1, HR1.out, ?_⟩
          have e : (fun x => ldF f p x (k + 1)) = fun x => ldF f p x k := funext fun z => by simp [ldF, Hp.out]
          rw [e]; exact HL1.out
        case measure => simp [intOf]; omega
      | true =>
        have Hp := Lib.hid hp
        clear hp
        have hlx := ldF_bd f p x k
        have hly := ldF_bd f p (6 + y) k
        have hy6 : 6 + y < 12 := by omega
        have hx12 : x < 12 := by omega
        have e0 : w1.cell? ⟨w.heap.size + 2, x, none⟩ = some (.int .i64 (ldF f p x k)) := (RowIs.cell HL1.out x).trans (loadRow_at _ x hx12)
        have e1 : w1.frozen? ⟨w.heap.size + 2, x, none⟩ = false := RowIs.frozen HL1.out x
        obtain ⟨X, hX⟩ : ∃ X, w1.setCell ⟨w.heap.size + 2, x, none⟩ (.int .i64 (ldF f p x k + 1)) = X := ⟨_, rfl⟩
        have hbX : Below (w.heap.size + 2) w1 X := by rw [← hX]; exact (Below.refl _ _).setCell (p := ⟨w.heap.size + 2, x, none⟩) (Nat.le_refl _) _
        have sX : X.heap.size = w1.heap.size := by rw [← hX]; simp [World.setCell]
        have oX : ∀ b, b ≠ w.heap.size + 2 → X.heap[b]? = w1.heap[b]? := fun b hb => by rw [← hX]; exact Below.heap_setCell _ _ _ _ hb
        have hlX : RowIs X (w.heap.size + 2) (loadRow fun z => if z = x then ldF f p x k + 1 else ldF f p z k) 45 := by
          rw [← hX]
          have := RowIs.set HL1.out x (.int .i64 (ldF f p x k + 1))
          rwa [loadRow_set _ (fun z => if z = x then ldF f p x k + 1 else ldF f p z k) x _ (by simp) (fun i _ hn => by simp [hn])] at this
        have hyx : 6 + y ≠ x := by omega
        have f0 : X.cell? ⟨w.heap.size + 2, 6 + y, none⟩ = some (.int .i64 (ldF f p (6 + y) k)) := by
          have := (RowIs.cell hlX (6 + y)).trans (loadRow_at _ (6 + y) hy6)
          simpa [hyx] using this
        have f1 : X.frozen? ⟨w.heap.size + 2, 6 + y, none⟩ = false := RowIs.frozen hlX (6 + y)
        have g1 : X.cell? ⟨wr.heap.size, 1, none⟩ = some (.int .i64 y) := (World.cell?_of_block (a := ⟨wr.heap.size, 1, none⟩) (oX wr.heap.size (by omega))).trans q1
        obtain ⟨Y, hY⟩ : ∃ Y, X.setCell ⟨w.heap.size + 2, 6 + y, none⟩ (.int .i64 (ldF f p (6 + y) k + 1)) = Y := ⟨_, rfl⟩
        have sY : Y.heap.size = w1.heap.size := by rw [← hY]; simp [World.setCell, sX]
        have oY : ∀ b, b ≠ w.heap.size + 2 → Y.heap[b]? = w1.heap[b]? := fun b hb => by rw [← hY]; exact (Below.heap_setCell _ _ _ _ hb).trans (oX b hb)
        have hbY : Below (w.heap.size + 2) w1 Y := by rw [← hY]; exact hbX.setCell (p := ⟨w.heap.size + 2, 6 + y, none⟩) (Nat.le_refl _) _
        have hlY : RowIs Y (w.heap.size + 2) (loadRow fun z => ldF f p z (k + 1)) 45 := by
          rw [← hY]
          have := RowIs.set hlX (6 + y) (.int .i64 (ldF f p (6 + y) k + 1))
          rwa [loadRow_set _ (fun z => ldF f p z (k + 1)) (6 + y) _ (by have := Hy.out; simp only [ldF, Hp.out, true_and]; rw [if_pos (by omega)]) (fun i _ hn => by
            have h1 := Hx.out
            have h2 := Hy.out
            by_cases c : i = x
            · subst c; simp only [ldF, Hp.out, true_and]; rw [if_pos (by omega), if_pos trivial]
            · simp only [ldF, Hp.out, c, if_false, true_and]
              rw [if_neg (by omega)]; omega)] at this
        have hw1 : IntKind.i64.wrap (ldF f p x k + 1) = ldF f p x k + 1 := IntWalk.i64_in _ (by omega)
        have hw2 : IntKind.i64.wrap (ldF f p (6 + y) k + 1) = ldF f p (6 + y) k + 1 := IntWalk.i64_in _ (by omega)
        have hw3 : IntKind.i64.wrap (6 + (y : Int)) = ((6 + y : Nat) : Int) := by rw [IntWalk.i64_in _ (by omega)]; omega
        have HlY := Lib.hid hlY
        have HoY := Lib.hid oY
        have HbY := Lib.hid hbY
        clear hlX hlY oX oY hbX hbY
        go_wp2_with fail
        go_roundw
        case rel => exact ⟨k + 1, by omega, by go_num, HB1.out.trans (HbY.out.mono (by omega)), by omega, (HoY.out _ (by omega)).trans HR1.out, HlY.out⟩
        case measure => simp [intOf]; omega
    · obtain rfl : k = n := by omega
      obtain ⟨l0, l1, l2, l3, l4, l5, l6, l7, l8, l9, l10, l11, lz⟩ := loadcells hL2
      obtain ⟨r0, r1, r2, r3, r4, r5, r6, r7, r8, r9, r10, r11⟩ := loadfree hR2
      obtain ⟨s0, s1, s2, s3, s4, s5, s6, s7, s8, s9, s10, s11, sz⟩ := loadcells hR2
      clear HR2 HL2 hL2
      go_wp2_with fail
      change bodyPost _ _ _ _ _ (put12 wr (w.heap.size + 1) fun x => ldF f p x k)
      have hU := put12_row hR2 fun x => ldF f p x k
      have hb := hBr.trans (put12_below (w := wr) (b := w.heap.size + 1) (B := w.heap.size) (by omega) fun x => ldF f p x k)
      generalize put12 wr (w.heap.size + 1) (fun x => ldF f p x k) = U at hU hb
      obtain ⟨t0, t1, t2, t3, t4, t5, t6, t7, t8, t9, t10, t11, tz⟩ := loadcells hU
      refine bodyPost_ret (v := loadV fun x => ldF f p x k) (by simp [results, Tryz.results47, go_sem, t0, t1, t2, t3, t4, t5, t6, t7, t8, t9, t10, t11]) rfl ⟨rfl, hb⟩

end Go.Proofs.YtbjgbgchagfokaaGreat

namespace Go.Proofs.YtbjgbgchagfokaaGreat
open Go Go.RowKit Go.Shelf

/-- Some cells of a block are written. -/
def putL (w : World) (b : Nat) : Nat → List Value → World
  | _, [] => w
  | o, v :: l => putL (w.setCell ⟨b, o, none⟩ v) b (o + 1) l
/-- Some cells of a row are written. -/
def setL (c : Array Value) : Nat → List Value → Array Value
  | _, [] => c
  | o, v :: l => setL (c.setIfInBounds o v) (o + 1) l
theorem putL_row {T : TypeId} {b : Nat} {w : World} {c : Array Value} {o : Nat} {l : List Value} : RowIs w b c T → RowIs (putL w b o l) b (setL c o l) T := by
  induction l generalizing w c o with
  | nil => exact id
  | cons v l ih => exact fun h => ih (h.set o v)
theorem putL_below {b B : Nat} (h : B ≤ b) : ∀ {w : World} {o : Nat} {l : List Value}, Below B w (putL w b o l)
  | w, _, [] => Below.refl B w
  | w, o, v :: _ => ((Below.refl B w).setCell (p := ⟨b, o, none⟩) h v).trans (putL_below h)
theorem putL_other {b k : Nat} (h : k ≠ b) : ∀ {w : World} {o : Nat} {l : List Value}, (putL w b o l).heap[k]? = w.heap[k]?
  | _, _, [] => rfl
  | w, o, v :: _ => (putL_other h (w := w.setCell ⟨b, o, none⟩ v)).trans (Below.heap_setCell _ _ _ _ h)
theorem putL_size {b : Nat} : ∀ {w : World} {o : Nat} {l : List Value}, (putL w b o l).heap.size = w.heap.size
  | _, _, [] => rfl
  | w, o, v :: _ => (putL_size (w := w.setCell ⟨b, o, none⟩ v)).trans (by simp [World.setCell])

def loadL (h : Nat → Int) : List Value := [.int .i64 (h 0), .int .i64 (h 1), .int .i64 (h 2), .int .i64 (h 3), .int .i64 (h 4), .int .i64 (h 5), .int .i64 (h 6), .int .i64 (h 7), .int .i64 (h 8), .int .i64 (h 9), .int .i64 (h 10), .int .i64 (h 11)]
def deskL (S M : Int) (a : Option Addr) (n cap : Nat) (h : Nat → Int) : List Value := [.int .i64 S, .int .i64 M, .slice a n cap, .int .i64 (h 0), .int .i64 (h 1), .int .i64 (h 2), .int .i64 (h 3), .int .i64 (h 4), .int .i64 (h 5), .int .i64 (h 6), .int .i64 (h 7), .int .i64 (h 8), .int .i64 (h 9), .int .i64 (h 10), .int .i64 (h 11)]
theorem setL_load (S M : Int) (a : Option Addr) (n cap : Nat) (g h : Nat → Int) : setL (deskRow S M a n cap g) 3 (loadL h) = deskRow S M a n cap h := by simp [setL, loadL, deskRow]
theorem setL_desk (S M : Int) (a : Option Addr) (n cap : Nat) (g h : Nat → Int) (S' M' : Int) (a' : Option Addr) (n' cap' : Nat) : setL (deskRow S' M' a' n' cap' g) 0 (deskL S M a n cap h) = deskRow S M a n cap h := by simp [setL, deskL, deskRow]
theorem deskfree {w : World} {b : Nat} {S M : Int} {a : Option Addr} {n cap : Nat} {h : Nat → Int} {T : TypeId} (hr : RowIs w b (deskRow S M a n cap h) T) :
    w.frozen? ⟨b, 0, none⟩ = false ∧ w.frozen? ⟨b, 1, none⟩ = false ∧ w.frozen? ⟨b, 2, none⟩ = false ∧ w.frozen? ⟨b, 3, none⟩ = false ∧ w.frozen? ⟨b, 4, none⟩ = false ∧ w.frozen? ⟨b, 5, none⟩ = false ∧ w.frozen? ⟨b, 6, none⟩ = false ∧ w.frozen? ⟨b, 7, none⟩ = false ∧ w.frozen? ⟨b, 8, none⟩ = false ∧
    w.frozen? ⟨b, 9, none⟩ = false ∧ w.frozen? ⟨b, 10, none⟩ = false ∧ w.frozen? ⟨b, 11, none⟩ = false ∧ w.frozen? ⟨b, 12, none⟩ = false ∧ w.frozen? ⟨b, 13, none⟩ = false ∧ w.frozen? ⟨b, 14, none⟩ = false :=
  ⟨hr.frozen 0, hr.frozen 1, hr.frozen 2, hr.frozen 3, hr.frozen 4, hr.frozen 5, hr.frozen 6, hr.frozen 7, hr.frozen 8, hr.frozen 9, hr.frozen 10, hr.frozen 11, hr.frozen 12, hr.frozen 13, hr.frozen 14⟩

abbrev noDeskV : Value := deskV 0 0 none 0 0 fun _ => 0
/-- The loads of a book. -/
abbrev bookL (f : Nat → W2) (n : Nat) : Nat → Int := fun x => ldF f (fun _ => true) x n

theorem all_c (v : Value) (x : W2) (w : World) (hv : v = wantV x) : Calls Tryz.prog 57 #[v] w fun e w' => e = .returned (.bool true) ∧ Below w.heap.size w w' := by
  subst hv
  go_enter Tryz.func57, Tryz.ntmps57
  go_wp2_with fail
  go_ret
  exact ⟨rfl, Below.alloc1 (Below.refl _ _) _ (Nat.le_refl _)⟩

set_option maxHeartbeats 4000000 in
theorem newDesk_no_c (S M : Int) (a : Option Addr) (n cap : Nat) (f : Nat → W2) (w : World) (hf : Wants w a n f) (hn : n ≤ 1048576) (hE : bookE S M n f ≠ 0) :
    Calls Tryz.prog 28 #[bookV S M a n cap] w fun e w' => e = .returned (.tuple #[noDeskV, .int .i64 (bookE S M n f)]) ∧ Below w.heap.size w w' := by
  obtain ⟨W, hW⟩ : ∃ W, (w.alloc (.cells #[.int .i64 S, .int .i64 M, .slice a n cap] 24)).alloc (.cells (deskRow 0 0 none 0 0 fun _ => 0) 47) = W := ⟨_, rfl⟩
  have hB : Below w.heap.size w W := by rw [← hW]; exact Below.alloc1 (Below.alloc1 (Below.refl _ _) _ (Nat.le_refl _)) _ (Nat.le_refl _)
  have hR : RowIs W w.heap.size #[.int .i64 S, .int .i64 M, .slice a n cap] 24 := by rw [← hW]; exact RowIs.alloc (heap_new_at _ _ _ rfl) _
  have hD : RowIs W (w.heap.size + 1) (deskRow 0 0 none 0 0 fun _ => 0) 47 := by rw [← hW]; exact heap_new_at _ _ _ (by simp)
  have r0 : W.cell? ⟨w.heap.size, 0, none⟩ = some (.int .i64 S) := RowIs.cell hR 0
  have r1 : W.cell? ⟨w.heap.size, 1, none⟩ = some (.int .i64 M) := RowIs.cell hR 1
  have r2 : W.cell? ⟨w.heap.size, 2, none⟩ = some (.slice a n cap) := RowIs.cell hR 2
  have rz := hR.lt
  have HD := Lib.hid hD
  have HfW := Lib.hid (hf.below hB)
  clear hf hR hD
  obtain ⟨v, hv⟩ : ∃ v, bookE S M n f = v := ⟨_, rfl⟩
  rw [hv] at hE ⊢
  have t0 : (v != 0) = true := by simpa using hE
  simp only [deskRow] at hW
  go_enter Tryz.func28, Tryz.ntmps28
  go_wp2_with fail
  refine (checkBook_c S M a n cap f W HfW.out hn).mono ?_
  rintro e w1 ⟨rfl, hb1⟩
  rw [hv]
  have hD1 := HD.out.below hb1
  have hB1 := bup hB hb1
  obtain ⟨f0, f1, f2, f3, f4, f5, f6, f7, f8, f9, f10, f11, f12, f13, f14⟩ := deskfree hD1
  obtain ⟨c0, c1, c2, c3, c4, c5, c6, c7, c8, c9, c10, c11, c12, c13, c14, cz⟩ := deskcells hD1
  clear hW r0 r1 r2 rz HfW hb1 HD
  go_wp2_with fail
  change bodyPost _ _ _ _ _ (putL w1 (w.heap.size + 1) 0 (deskL 0 0 none 0 0 fun _ => 0))
  have hU := putL_row (o := 0) (l := deskL 0 0 none 0 0 fun _ => 0) hD1
  rw [setL_desk] at hU
  have hb := hB1.trans (putL_below (w := w1) (b := w.heap.size + 1) (B := w.heap.size) (by omega) (o := 0) (l := deskL 0 0 none 0 0 fun _ => 0))
  generalize putL w1 (w.heap.size + 1) 0 (deskL 0 0 none 0 0 fun _ => 0) = U at hU hb
  clear f0 f1 f2 f3 f4 f5 f6 f7 f8 f9 f10 f11 f12 f13 f14 c0 c1 c2 c3 c4 c5 c6 c7 c8 c9 c10 c11 c12 c13 c14 cz
  obtain ⟨c0, c1, c2, c3, c4, c5, c6, c7, c8, c9, c10, c11, c12, c13, c14, cz⟩ := deskcells hU
  refine bodyPost_ret (v := .tuple #[noDeskV, .int .i64 v]) (by simp [results, Tryz.results28, go_sem, c0, c1, c2, c3, c4, c5, c6, c7, c8, c9, c10, c11, c12, c13, c14]) rfl ⟨rfl, hb⟩

set_option maxHeartbeats 8000000 in
theorem newDesk_yes_c (S M : Int) (a : Option Addr) (n cap : Nat) (f : Nat → W2) (w : World) (hf : Wants w a n f) (hn : n ≤ 1048576) (hE : bookE S M n f = 0) :
    Calls Tryz.prog 28 #[bookV S M a n cap] w fun e w' => e = .returned (.tuple #[deskV S M a n cap (bookL f n), .int .i64 0]) ∧ Below w.heap.size w w' := by
  obtain ⟨W, hW⟩ : ∃ W, (w.alloc (.cells #[.int .i64 S, .int .i64 M, .slice a n cap] 24)).alloc (.cells (deskRow 0 0 none 0 0 fun _ => 0) 47) = W := ⟨_, rfl⟩
  have hB : Below w.heap.size w W := by rw [← hW]; exact Below.alloc1 (Below.alloc1 (Below.refl _ _) _ (Nat.le_refl _)) _ (Nat.le_refl _)
  have hR : RowIs W w.heap.size #[.int .i64 S, .int .i64 M, .slice a n cap] 24 := by rw [← hW]; exact RowIs.alloc (heap_new_at _ _ _ rfl) _
  have hD : RowIs W (w.heap.size + 1) (deskRow 0 0 none 0 0 fun _ => 0) 47 := by rw [← hW]; exact heap_new_at _ _ _ (by simp)
  have r0 : W.cell? ⟨w.heap.size, 0, none⟩ = some (.int .i64 S) := RowIs.cell hR 0
  have r1 : W.cell? ⟨w.heap.size, 1, none⟩ = some (.int .i64 M) := RowIs.cell hR 1
  have r2 : W.cell? ⟨w.heap.size, 2, none⟩ = some (.slice a n cap) := RowIs.cell hR 2
  have rz := hR.lt
  have HD := Lib.hid hD
  have HfW := Lib.hid (hf.below hB)
  have HG := Lib.hid (book_good hE)
  clear hf hR hD
  simp only [deskRow] at hW
  obtain ⟨l, hl⟩ : ∃ l, bookL f n = l := ⟨_, rfl⟩
  rw [hl]
  have HLB := Lib.hid hl
  clear hl
  go_enter Tryz.func28, Tryz.ntmps28
  go_wp2_with fail
  refine (checkBook_c S M a n cap f W HfW.out hn).mono ?_
  rintro e w1 ⟨rfl, hb1⟩
  rw [hE]
  have q0 := (hb1.cell (p := ⟨w.heap.size, 0, none⟩) rz).trans r0
  have q1 := (hb1.cell (p := ⟨w.heap.size, 1, none⟩) rz).trans r1
  have q2 := (hb1.cell (p := ⟨w.heap.size, 2, none⟩) rz).trans r2
  have rz1 := Nat.lt_of_lt_of_le rz hb1.size
  have hD1 := HD.out.below hb1
  have hDz := hD1.lt
  have hB1 := bup hB hb1
  obtain ⟨V, hV⟩ : ∃ V, w1.alloc (.cells (deskRow 0 0 none 0 0 fun _ => 0) 47) = V := ⟨_, rfl⟩
  have hBV : Below w1.heap.size w1 V := by rw [← hV]; exact Below.alloc1 (Below.refl _ _) _ (Nat.le_refl _)
  have hDV : RowIs V w1.heap.size (deskRow 0 0 none 0 0 fun _ => 0) 47 := by rw [← hV]; exact heap_new_at _ _ _ rfl
  obtain ⟨z, hz⟩ : ∃ z, w1.heap.size = z := ⟨_, rfl⟩
  have hz1 : w.heap.size + 1 < z := by omega
  rw [hz] at hDV
  have hwz : w.heap.size < z := by omega
  obtain ⟨U, hU⟩ : ∃ U, putL V z 0 (deskL S M a n cap fun _ => 0) = U := ⟨_, rfl⟩
  have hBU : Below z V U := by rw [← hU]; exact putL_below (Nat.le_refl _)
  have hDU : RowIs U z (deskRow S M a n cap fun _ => 0) 47 := by
    rw [← hU, ← setL_desk S M a n cap (fun _ => 0) (fun _ => 0) 0 0 none 0 0]; exact putL_row hDV
  have hRU := (hBU.block (w.heap.size + 1) (by omega)).trans (hD1.below hBV)
  rw [hz] at hBV
  have hBVU := hBV.trans hBU
  have HfU := Lib.hid (Wants.below (Wants.below HfW.out hb1) (by rw [hz]; exact hBVU))
  have hBwU : Below w.heap.size w U := hB1.trans (hBVU.mono (by omega))
  obtain ⟨f0, f1, f2, f3, f4, f5, f6, f7, f8, f9, f10, f11, f12, f13, f14⟩ := deskfree hDV
  obtain ⟨e0, e1, e2, e3, e4, e5, e6, e7, e8, e9, e10, e11, e12, e13, e14, ez⟩ := deskcells hDV
  obtain ⟨c0, c1, c2, c3, c4, c5, c6, c7, c8, c9, c10, c11, c12, c13, c14, cz⟩ := deskcells hDU
  have HDU := Lib.hid hDU
  have HRU := Lib.hid hRU
  have HBU := Lib.hid hBwU
  have HE := Lib.hid hE
  have hcall := dloadsOf_c S M a n cap f (fun _ => 0) 57 #[] #[] (fun _ => true) U HfU.out HG.out (enters_of Tryz.func57 (by kernel_rfl) rfl) (fun W' _ i _ => all_c _ (f i) W' rfl)
  rw [show (fun x => ldF f (fun _ => true) x n) = l from HLB.out] at hcall
  have HC := Lib.hid hcall
  clear hW r0 r1 r2 rz HfW hb1 HD hD1 hDV hRU hDU hBV hBU hBwU hBVU hE hB1 hcall HfU HG
  simp only [deskRow] at hV
  simp only [putL, deskL, Nat.reduceAdd] at hU
  go_wp2_with fail
  refine HC.out.mono ?_
  rintro e w2 ⟨rfl, hb2⟩
  have hD2 := RowIs.below HDU.out hb2
  have hR2 := RowIs.below HRU.out hb2
  have hB2 := HBU.out.trans (hb2.mono HBU.out.size)
  clear hU hV f0 f1 f2 f3 f4 f5 f6 f7 f8 f9 f10 f11 f12 f13 f14 e0 e1 e2 e3 e4 e5 e6 e7 e8 e9 e10 e11 e12 e13 e14 ez c0 c1 c2 c3 c4 c5 c6 c7 c8 c9 c10 c11 c12 c13 c14 cz hb2 q0 q1 q2 rz1 hDz
  obtain ⟨X, hX⟩ : ∃ X, putL w2 z 3 (loadL l) = X := ⟨_, rfl⟩
  have hBX : Below z w2 X := by rw [← hX]; exact putL_below (Nat.le_refl _)
  have hDX : RowIs X z (deskRow S M a n cap l) 47 := by
    rw [← hX, ← setL_load S M a n cap (fun _ => 0) l]; exact putL_row hD2
  have hRX := (hBX.block (w.heap.size + 1) (by omega)).trans hR2
  have hBwX := hB2.trans (hBX.mono (by omega))
  obtain ⟨f0, f1, f2, f3, f4, f5, f6, f7, f8, f9, f10, f11, f12, f13, f14⟩ := deskfree hD2
  obtain ⟨e0, e1, e2, e3, e4, e5, e6, e7, e8, e9, e10, e11, e12, e13, e14, ez⟩ := deskcells hD2
  obtain ⟨c0, c1, c2, c3, c4, c5, c6, c7, c8, c9, c10, c11, c12, c13, c14, cz⟩ := deskcells hDX
  obtain ⟨k0, k1, k2, k3, k4, k5, k6, k7, k8, k9, k10, k11, k12, k13, k14⟩ := deskfree hRX
  obtain ⟨m0, m1, m2, m3, m4, m5, m6, m7, m8, m9, m10, m11, m12, m13, m14, mz⟩ := deskcells hRX
  have HRX := Lib.hid hRX
  have HBX := Lib.hid hBwX
  clear hD2 hR2 hB2 hBX hDX hRX hBwX HDU HRU HBU HC
  simp only [putL, loadL, Nat.reduceAdd] at hX
  go_wp2_with fail
  change bodyPost _ _ _ _ _ (putL X (w.heap.size + 1) 0 (deskL S M a n cap l))
  have hY := putL_row (o := 0) (l := deskL S M a n cap l) HRX.out
  rw [setL_desk] at hY
  have hb := HBX.out.trans (putL_below (w := X) (b := w.heap.size + 1) (B := w.heap.size) (by omega) (o := 0) (l := deskL S M a n cap l))
  generalize putL X (w.heap.size + 1) 0 (deskL S M a n cap l) = Y at hY hb
  clear f0 f1 f2 f3 f4 f5 f6 f7 f8 f9 f10 f11 f12 f13 f14 e0 e1 e2 e3 e4 e5 e6 e7 e8 e9 e10 e11 e12 e13 e14 ez c0 c1 c2 c3 c4 c5 c6 c7 c8 c9 c10 c11 c12 c13 c14 cz k0 k1 k2 k3 k4 k5 k6 k7 k8 k9 k10 k11 k12 k13 k14 m0 m1 m2 m3 m4 m5 m6 m7 m8 m9 m10 m11 m12 m13 m14 mz hX
  obtain ⟨c0, c1, c2, c3, c4, c5, c6, c7, c8, c9, c10, c11, c12, c13, c14, cz⟩ := deskcells hY
  refine bodyPost_ret (v := .tuple #[deskV S M a n cap l, .int .i64 0]) (by simp [results, Tryz.results28, go_sem, c0, c1, c2, c3, c4, c5, c6, c7, c8, c9, c10, c11, c12, c13, c14]) rfl ⟨rfl, hb⟩

end Go.Proofs.YtbjgbgchagfokaaGreat

namespace Go.Proofs.YtbjgbgchagfokaaGreat
open Go Go.RowKit Go.Shelf

set_option maxHeartbeats 1000000 in
theorem index_c (x : Int) (a : Option Addr) (len cap : Nat) (g : Nat → Int) (w : World) (hg : Ints w a len g) (hl : len ≤ 1048576) :
    Calls Tryz.prog 90 #[.slice a len cap, .int .i64 x] w fun e w' => (∃ r : Int, e = .returned (.int .i64 r) ∧ decide (0 ≤ r) = hasB g x len ∧ -1 ≤ r) ∧ w = w' := by
  go_enter Tryz.func90, Tryz.ntmps90
  go_wp2
  go_loop [8] (fun i => ∃ k : Nat, k ≤ len ∧ i = .int .i64 k ∧ hasB g x k = false) (fun i => len - (intOf i).toNat)
  case atStart => exact ⟨0, Nat.zero_le _, rfl, rfl⟩
  case round =>
    obtain ⟨k, hk, rfl, ho⟩ := hrel
    have Ho := Lib.hid ho
    clear ho
    by_cases hlt : k < len
    · obtain ⟨b, off, rfl, hbs, hc⟩ := Cells.at hg k hlt
      have ck := hc k hlt
      clear hc
      by_cases h1 : x = g k
      · subst h1
        go_wp2
        go_ret
        exact ⟨⟨(k : Int), rfl, by rw [hasB_of g (g k) k len hlt rfl]; exact decide_eq_true (by omega), by omega⟩, rfl⟩
      · have h2 : (x == g k) = false := by simpa using h1
        go_wp2
        go_round
        case rel => exact ⟨k + 1, by omega, by go_num, by simp only [hasB, Ho.out, Bool.false_or]; exact decide_eq_false (fun e => h1 e.symm)⟩
        case measure => simp [intOf]; omega
    · obtain rfl : k = len := by omega
      go_wp2
      go_ret
      exact ⟨⟨-1, rfl, by rw [Ho.out]; rfl, by omega⟩, rfl⟩

theorem contains_c (x : Int) (a : Option Addr) (len cap : Nat) (g : Nat → Int) (w : World) (hg : Ints w a len g) (hl : len ≤ 1048576) :
    Calls Tryz.prog 77 #[.slice a len cap, .int .i64 x] w fun e w' => e = .returned (.bool (hasB g x len)) ∧ w = w' := by
  go_enter Tryz.func77, Tryz.ntmps77
  go_wp2_with fail
  refine (index_c x a len cap g w hg hl).mono ?_
  rintro e w1 ⟨⟨r, rfl, hr, hr1⟩, rfl⟩
  go_wp2_with fail
  go_ret
  exact ⟨rfl, rfl⟩

/-- The greatest of the first k + 1. -/
def maxF (g : Nat → Int) : Nat → Int
  | 0 => g 0
  | k + 1 => if maxF g k < g (k + 1) then g (k + 1) else maxF g k

set_option maxHeartbeats 1000000 in
theorem max_c (a : Option Addr) (len cap : Nat) (g : Nat → Int) (w : World) (hg : Ints w a (len + 1) g) (hl : len ≤ 1048576) :
    Calls Tryz.prog 58 #[.slice a (len + 1) cap] w fun e w' => e = .returned (.int .i64 (maxF g len)) ∧ w = w' := by
  obtain ⟨b, off, rfl, hbs, hc⟩ := Cells.at hg 0 (by omega)
  have c0 : w.cell? ⟨b, off, none⟩ = some (.int .i64 (g 0)) := hc 0 (by omega)
  have t1 : ¬ ((len : Int) + 1 < 1) := by omega
  have HC := Lib.hid hc
  clear hc hg
  go_enter Tryz.func58, Tryz.ntmps58
  go_wp2
  go_loop [3, 4] (fun m i => ∃ k : Nat, k ≤ len ∧ i = .int .i64 (k + 1) ∧ m = .int .i64 (maxF g k)) (fun _ i => len + 1 - (intOf i).toNat)
  case atStart => exact ⟨0, Nat.zero_le _, rfl, rfl⟩
  case round =>
    obtain ⟨k, hk, rfl, rfl⟩ := hrel
    obtain ⟨m, hm⟩ : ∃ m, maxF g k = m := ⟨_, rfl⟩
    have HM := Lib.hid hm
    rw [hm]
    clear hm
    by_cases hlt : k < len
    · have ck := HC.out (k + 1) (by omega)
      by_cases h1 : m < g (k + 1)
      · go_wp2
        go_round
        case rel => exact ⟨k + 1, by omega, by go_num, by simp [maxF, HM.out, h1]⟩
        case measure => simp [intOf]; omega
      · go_wp2
        go_round
        case rel => exact ⟨k + 1, by omega, by go_num, by simp [maxF, HM.out, h1]⟩
        case measure => simp [intOf]; omega
    · obtain rfl : k = len := by omega
      go_wp2
      go_ret
      exact ⟨by rw [HM.out]; rfl, rfl⟩


/-- How few days are enough: the greatest load. -/
abbrev fewN (l : Nat → Int) : Int := maxF l 11

set_option maxHeartbeats 1000000 in
theorem fewest_c (S M : Int) (a : Option Addr) (n cap : Nat) (l : Nat → Int) (w : World) :
    Calls Tryz.prog 29 #[deskV S M a n cap l] w fun e w' => e = .returned (.int .i64 (fewN l)) ∧ Below w.heap.size w w' := by
  obtain ⟨W, hW⟩ : ∃ W, w.alloc (.cells (deskRow S M a n cap l) 47) = W := ⟨_, rfl⟩
  have hB : Below w.heap.size w W := by rw [← hW]; exact Below.alloc1 (Below.refl _ _) _ (Nat.le_refl _)
  have hR : RowIs W w.heap.size (deskRow S M a n cap l) 47 := by rw [← hW]; exact heap_new_at _ _ _ rfl
  have hi : Ints W (some ⟨w.heap.size, 3, none⟩) (11 + 1) l := by
    refine .inr ⟨w.heap.size, 3, rfl, hR.lt, fun i hi => ?_⟩
    have h2 := hR.cell (3 + i)
    rw [h2]
    have : i = 0 ∨ i = 1 ∨ i = 2 ∨ i = 3 ∨ i = 4 ∨ i = 5 ∨ i = 6 ∨ i = 7 ∨ i = 8 ∨ i = 9 ∨ i = 10 ∨ i = 11 := by omega
    rcases this with rfl | rfl | rfl | rfl | rfl | rfl | rfl | rfl | rfl | rfl | rfl | rfl <;> rfl
  have Hi := Lib.hid hi
  clear hi hR
  simp only [deskRow] at hW
  go_enter Tryz.func29, Tryz.ntmps29
  go_wp2_with fail
  refine (max_c _ 11 12 l W Hi.out (by omega)).mono ?_
  rintro e w1 ⟨rfl, rfl⟩
  go_wp2_with fail
  go_ret
  exact ⟨rfl, hB⟩

end Go.Proofs.YtbjgbgchagfokaaGreat
