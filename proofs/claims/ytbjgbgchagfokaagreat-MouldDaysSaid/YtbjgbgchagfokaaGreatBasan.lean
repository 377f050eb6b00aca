/- Contracts of layer 2: by how many moulds are too few; the shops for which the most are; the other shops with wants. -/
import Derived.Test.YtbjgbgchagfokaaGreatProg
import Derived.Test.YtbjgbgchagfokaaGreatBasaa
import Derived.Test.YtbjgbgchagfokaaGreatBasam
namespace Go.Proofs.YtbjgbgchagfokaaGreat
open Go Go.RowKit Go.Shelf

/-- By how many the moulds that shops want are fewer than these. -/
def fewB (f : Nat → W2) (n : Nat) (g : Nat → Int) (len : Nat) : Int := (len : Int) - ((wbL (shopL f g len n) 6).length : Int)

set_option maxHeartbeats 4000000 in
theorem tooFew_c (S M : Int) (a : Option Addr) (n cap : Nat) (f : Nat → W2) (l : Nat → Int) (la : Option Addr) (len lcap : Nat) (g : Nat → Int) (w : World) (hf : Wants w a n f) (hG : GoodBook S M n f) (hg : Ints w la len g) (hl : len ≤ 1048576) :
    Calls Tryz.prog 53 #[deskV S M a n cap l, .slice la len lcap] w fun e w' => e = .returned (.int .i64 (fewB f n g len)) ∧ Below w.heap.size w w' := by
  obtain ⟨W, hW⟩ : ∃ W, w.alloc (.cells (deskRow S M a n cap l) 47) = W := ⟨_, rfl⟩
  have hB : Below w.heap.size w W := by rw [← hW]; exact Below.alloc1 (Below.refl _ _) _ (Nat.le_refl _)
  have hD : RowIs W w.heap.size (deskRow S M a n cap l) 47 := by rw [← hW]; exact heap_new_at _ _ _ rfl
  obtain ⟨c0, c1, c2, c3, c4, c5, c6, c7, c8, c9, c10, c11, c12, c13, c14, cz⟩ := deskcells hD
  have hcall := wantedBy_c S M a n cap f l la len lcap g W (hf.below hB) hG (Cells.below hg hB) hl
  have hlen := wbL_len (shopL f g len n) 6
  obtain ⟨x, hx⟩ : ∃ x, wbL (shopL f g len n) 6 = x := ⟨_, rfl⟩
  have hv : fewB f n g len = (len : Int) - (x.length : Int) := by rw [← hx]; rfl
  rw [hv]
  rw [hx] at hcall hlen
  have hw1 : IntKind.i64.wrap ((len : Int) - (x.length : Int)) = (len : Int) - (x.length : Int) := IntWalk.i64_in _ (by omega)
  have HC := Lib.hid hcall
  clear hcall hx hv hD hg hf hG
  simp only [deskRow] at hW
  go_enter Tryz.func53, Tryz.ntmps53
  go_wp2_with fail
  refine HC.out.mono ?_
  rintro e w1 ⟨p, c, rfl, -, hb1⟩
  clear c0 c1 c2 c3 c4 c5 c6 c7 c8 c9 c10 c11 c12 c13 c14 cz hW
  go_wp2_with fail
  go_ret
  exact ⟨rfl, bup hB hb1⟩

/-- By how many moulds are too few for a list of shops. -/
def fewL (f : Nat → W2) (n : Nat) (x : List Nat) : Int := fewB f n (fun j => ((x.getD j 0 : Nat) : Int)) x.length
def shorterB (f : Nat → W2) (n : Nat) (x y : List Nat) : Bool := decide (fewL f n y < fewL f n x)

set_option maxHeartbeats 4000000 in
theorem shorter_c (S M : Int) (a : Option Addr) (n cap : Nat) (f : Nat → W2) (l : Nat → Int) (bd : Nat) (x y : List Nat) (p q : Option Addr) (c c' : Nat) (w : World) (hf : Wants w a n f) (hG : GoodBook S M n f) (hD : RowIs w bd (deskRow S M a n cap l) 47) (hx : Lst w x p c) (hy : Lst w y q c') (hxl : x.length ≤ 1048576) (hyl : y.length ≤ 1048576) :
    Calls Tryz.prog 78 #[.slice p x.length c, .slice q y.length c', .pointer (some ⟨bd, 0, none⟩)] w fun e w' => e = .returned (.bool (shorterB f n x y)) ∧ Below w.heap.size w w' := by
  obtain ⟨c0, c1, c2, c3, c4, c5, c6, c7, c8, c9, c10, c11, c12, c13, c14, cz⟩ := deskcells hD
  have k1 := fun (u : Later w) => tooFew_c S M a n cap f l p x.length c (fun j => ((x.getD j 0 : Nat) : Int)) u.w (hf.below u.h) hG (Cells.below hx.cells u.h) hxl
  have k2 := fun (u : Later w) => tooFew_c S M a n cap f l q y.length c' (fun j => ((y.getD j 0 : Nat) : Int)) u.w (hf.below u.h) hG (Cells.below hy.cells u.h) hyl
  obtain ⟨m1, h1⟩ : ∃ m, fewB f n (fun j => ((x.getD j 0 : Nat) : Int)) x.length = m := ⟨_, rfl⟩
  obtain ⟨m2, h2⟩ : ∃ m, fewB f n (fun j => ((y.getD j 0 : Nat) : Int)) y.length = m := ⟨_, rfl⟩
  have hv : shorterB f n x y = decide (m2 < m1) := by rw [← h1, ← h2]; rfl
  rw [hv]
  rw [h1] at k1
  rw [h2] at k2
  have K1 := Lib.hid k1
  have K2 := Lib.hid k2
  clear k1 k2 h1 h2 hv hf hG hD hx hy
  go_enter Tryz.func78, Tryz.ntmps78
  go_wp2_with fail
  have hlc := fun (u : Later w) => later_cell u
  refine wp_region_later (by kernel_rfl) (by kernel_rfl) ?_
  repeat (go_big_quiet_step ((first | (with_reducible refine calls_later (K1.out _)) | (with_reducible refine calls_later (K2.out _)))))
  refine wpQuiet_nil ?_
  clear hlc
  rintro ⟨w1, hb1⟩
  go_wp2_with fail
  go_ret
  exact ⟨by simp, hb1⟩

theorem growL_all {F : List Nat → Nat → Bool} {n : Nat} {Good : List Nat → Prop} (hstep : ∀ b i, Good b → i < n → F b i = true → Good (b ++ [i])) : ∀ r b, Good b → ∀ x ∈ growL F n r b, Good x
  | 0, b, h, x, hx => by rw [growL, List.mem_singleton] at hx; rw [hx]; exact h
  | r + 1, b, h, x, hx => by
    rw [growL, List.mem_cons] at hx
    rcases hx with hx | hx
    · rw [hx]; exact h
    · obtain ⟨i, hi, hx⟩ := List.mem_flatMap.1 hx
      by_cases c : F b i = true
      · rw [if_pos c] at hx
        exact growL_all hstep r (b ++ [i]) (hstep b i h (List.mem_range.1 hi) c) x hx
      · rw [if_neg c] at hx
        exact absurd hx List.not_mem_nil
theorem listsL_rising {F : List Nat → Nat → Bool} {n : Nat} {x : List Nat} (hx : x ∈ listsL F n) : Rising n x :=
  growL_all (F := riseB F) (Good := Rising n) (fun _ _ hb hi hF => rising_add hb hi hF) n [] ⟨List.Pairwise.nil, fun _ h => absurd h List.not_mem_nil⟩ x hx

/-- The shops for which the most moulds are too few. -/
def shortOf (f : Nat → W2) (n s : Nat) (l : Nat → Int) : List Nat := (bestS (shorterB f n) (listsL (fun _ i => decide (0 < l i)) s)).getD []

theorem best_rising {lt : List Nat → List Nat → Bool} {F : List Nat → Nat → Bool} {n : Nat} : Rising n ((bestS lt (listsL F n)).getD []) := by
  cases h : bestS lt (listsL F n) with
  | none => exact ⟨List.Pairwise.nil, fun _ h => absurd h List.not_mem_nil⟩
  | some y => exact listsL_rising (bestS_in (k := (listsL F n).length) (by rwa [List.take_length]))
theorem shortOf_rising (f : Nat → W2) (n s : Nat) (l : Nat → Int) : Rising s (shortOf f n s l) := best_rising

set_option maxRecDepth 100000 in
set_option maxHeartbeats 8000000 in
theorem mostShort_c (s M : Nat) (a : Option Addr) (n cap : Nat) (f : Nat → W2) (l : Nat → Int) (w : World) (hf : Wants w a n f) (hG : GoodBook s M n f) :
    Calls Tryz.prog 49 #[deskV s M a n cap l] w fun e w' => ∃ p c, e = .returned (.slice p (shortOf f n s l).length c) ∧ Lst w' (shortOf f n s l) p c ∧ Below w.heap.size w w' := by
  obtain ⟨W, hW⟩ : ∃ W, w.alloc (.cells (deskRow s M a n cap l) 47) = W := ⟨_, rfl⟩
  have hB : Below w.heap.size w W := by rw [← hW]; exact Below.alloc1 (Below.refl _ _) _ (Nat.le_refl _)
  have hD : RowIs W w.heap.size (deskRow s M a n cap l) 47 := by rw [← hW]; exact heap_new_at _ _ _ rfl
  obtain ⟨c0, c1, c2, c3, c4, c5, c6, c7, c8, c9, c10, c11, c12, c13, c14, cz⟩ := deskcells hD
  have hs6 : s ≤ 6 := by have := hG.1; omega
  have HG := Lib.hid hG
  have Hf := Lib.hid hf
  have HD := Lib.hid hD
  clear hG hf hD
  simp only [deskRow] at hW
  go_enter Tryz.func49, Tryz.ntmps49
  go_wp2_with fail
  refine (lists_c s 52 #[deskV s M a n cap l] #[] W).mono ?_
  rintro e X ⟨rfl, hX⟩
  have hBX : Below W.heap.size W X := by rw [← hX]; exact Below.alloc1 (Below.alloc1 (Below.alloc1 (Below.refl _ _) _ (Nat.le_refl _)) _ (Nat.le_refl _)) _ (Nat.le_refl _)
  have x0 : RowIs X W.heap.size #[.func (.func 52) #[deskV s M a n cap l] #[]] 70 := by rw [← hX]; exact RowIs.alloc (RowIs.alloc (heap_new_at _ _ _ rfl) _) _
  have x1 : RowIs X (W.heap.size + 1) #[.int .i64 s] 3 := by rw [← hX]; exact RowIs.alloc (heap_new_at _ _ _ (by simp)) _
  have x2 : RowIs X (W.heap.size + 1 + 1) #[.func (.func 76) #[] #[.pointer (some ⟨W.heap.size, 0, none⟩)]] 70 := by rw [← hX]; exact heap_new_at _ _ _ (by simp)
  have hzX : X.heap.size = W.heap.size + 3 := by rw [← hX]; simp
  have hBwX := bup hB hBX
  have hfX : Wants X a n f := Wants.below Hf.out hBwX
  have hDX := HD.out.below hBX
  have hG := lists_gives 52 #[deskV s M a n cap l] #[] (fun _ i => decide (0 < l i)) s (fun k => k = W.heap.size ∨ k = W.heap.size + 1 ∨ k = W.heap.size + 1 + 1) W.heap.size X (by omega) (enters_of Tryz.func52 (by kernel_rfl) rfl) x0 x1 x2 ⟨.inl rfl, .inr (.inl rfl), .inr (.inr rfl)⟩
    (fun A x p cp i hkeep hzA hL hx hi _ => wanting_c s M a n cap l (.slice p x.length cp) i A (by omega))
  have hlen : ∀ x ∈ listsL (fun (_ : List Nat) i => decide (0 < l i)) s, x.length ≤ 1048576 := fun x hx => by have := rising_len (listsL_rising hx); omega
  have hbest := bestList_c 88 #[] #[.pointer (some ⟨W.heap.size + 1, 0, none⟩), .pointer (some ⟨W.heap.size + 1 + 1, 0, none⟩)] _ (listsL (fun _ i => decide (0 < l i)) s) 78 #[] #[.pointer (some ⟨w.heap.size, 0, none⟩)] (shorterB f n) X hG
    (fun k hk => by rcases hk with rfl | rfl | rfl <;> omega)
    (enters_of Tryz.func88 (by kernel_rfl) rfl) (enters_of Tryz.func78 (by kernel_rfl) rfl)
    (fun W' hW' x hx y hy p c q c' hLx hLy => shorter_c s M a n cap f l w.heap.size x y p q c c' W' (hfX.below hW') HG.out (hDX.below hW') hLx hLy (hlen x hx) (hlen y hy))
  have HB := Lib.hid hbest
  clear hX x0 x1 x2 hG hbest hBX hzX hfX hDX hlen c0 c1 c2 c3 c4 c5 c6 c7 c8 c9 c10 c11 c12 c13 c14 cz hW
  go_wp2_with fail
  refine HB.out.mono ?_
  rintro e Y ⟨p, c, rfl, hL, hbY⟩
  go_wp2_with fail
  refine bodyPost_ret (v := .slice p (shortOf f n s l).length c) (by simp [results, Tryz.results49, go_sem, shortOf]) rfl ⟨p, c, rfl, hL, bup hBwX hbY⟩

end Go.Proofs.YtbjgbgchagfokaaGreat
