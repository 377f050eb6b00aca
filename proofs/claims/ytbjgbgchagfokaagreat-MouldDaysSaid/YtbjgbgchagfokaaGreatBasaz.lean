/- Contracts of layer 2: a cover that is returned; shops that are short. Written by tools/yesdesk.py. -/
import Derived.Test.YtbjgbgchagfokaaGreatProg
import Derived.Test.YtbjgbgchagfokaaGreatBasaa
import Derived.Test.YtbjgbgchagfokaaGreatBasao
import Derived.Test.YtbjgbgchagfokaaGreatBasan
namespace Go.Proofs.YtbjgbgchagfokaaGreat
open Go Go.RowKit Go.Shelf

set_option maxHeartbeats 4000000 in
theorem Short_yes_c (s M : Nat) (a : Option Addr) (n cap : Nat) (f : Nat → W2) (w : World) (hf : Wants w a n f) (hn : n ≤ 1048576) (hE : bookE s M n f = 0) :
    Calls Tryz.prog 26 #[bookV s M a n cap] w fun e w' => Below w.heap.size w w' ∧ ((fewL f n (shortOf f n s (bookL f n)) = 0 ∧ e = .returned (.tuple #[.slice none 0 0, .int .i64 5])) ∨
      (fewL f n (shortOf f n s (bookL f n)) ≠ 0 ∧ ∃ p c, e = .returned (.tuple #[.slice p (shortOf f n s (bookL f n)).length c, .int .i64 0]) ∧ Lst w' (shortOf f n s (bookL f n)) p c)) := by
  obtain ⟨x, hx⟩ : ∃ x, shortOf f n s (bookL f n) = x := ⟨_, rfl⟩
  rw [hx]
  obtain ⟨v, hv⟩ : ∃ v, fewL f n x = v := ⟨_, rfl⟩
  rw [hv]
  have HX := Lib.hid hx
  have HV := Lib.hid hv
  clear hx hv
  obtain ⟨W, hW⟩ : ∃ W, w.alloc (.cells #[.int .i64 s, .int .i64 M, .slice a n cap] 24) = W := ⟨_, rfl⟩
  have hB : Below w.heap.size w W := by rw [← hW]; exact Below.alloc1 (Below.refl _ _) _ (Nat.le_refl _)
  have hR : RowIs W w.heap.size #[.int .i64 s, .int .i64 M, .slice a n cap] 24 := by rw [← hW]; exact heap_new_at _ _ _ rfl
  have r0 : W.cell? ⟨w.heap.size, 0, none⟩ = some (.int .i64 s) := RowIs.cell hR 0
  have r1 : W.cell? ⟨w.heap.size, 1, none⟩ = some (.int .i64 M) := RowIs.cell hR 1
  have r2 : W.cell? ⟨w.heap.size, 2, none⟩ = some (.slice a n cap) := RowIs.cell hR 2
  have hGB := book_good hE
  have hs6 : s ≤ 6 := by have := hGB.1; omega
  have hm6 : M ≤ 6 := by have := hGB.2.1; omega
  have hn14 : n ≤ 14 := hGB.2.2.1
  have hc := newDesk_yes_c s M a n cap f W (hf.below hB) hn hE
  obtain ⟨l, hl⟩ : ∃ l, bookL f n = l := ⟨_, rfl⟩
  rw [hl] at hc
  try rw [hl]
  have HLB := Lib.hid hl
  have HC := Lib.hid hc
  have HGB := Lib.hid hGB
  have Hf := Lib.hid hf
  have HE := Lib.hid hE
  clear hR hc hl hGB hf hE
  go_enter Tryz.func26, Tryz.ntmps26
  go_wp2_with fail
  refine HC.out.mono ?_
  rintro e w1 ⟨rfl, hb1⟩
  have hB1 := bup hB hb1
  obtain ⟨V, U, z, hN⟩ := newDesk w1 s M a n cap l
  have hV := hN.made
  have hz := hN.size
  have hU := hN.stored
  simp only [putL, deskL, Nat.reduceAdd] at hU
  obtain ⟨f0, f1, f2, f3, f4, f5, f6, f7, f8, f9, f10, f11, f12, f13, f14⟩ := deskfree hN.zero
  obtain ⟨e0, e1, e2, e3, e4, e5, e6, e7, e8, e9, e10, e11, e12, e13, e14, ez⟩ := deskcells hN.zero
  obtain ⟨c0, c1, c2, c3, c4, c5, c6, c7, c8, c9, c10, c11, c12, c13, c14, cz⟩ := deskcells hN.row
  have hB2 := bup hB1 hN.below
  have HR := Lib.hid hN.row
  clear hN hW r0 r1 r2 hB hb1 hB1 HC
  have hx : shortOf f n s l = x := by rw [← HLB.out]; exact HX.out
  have hxl : x.length ≤ 1048576 := by
    have := shortOf_rising f n s l
    rw [hx] at this
    have := rising_len this
    omega
  have hm := mostShort_c s M a n cap f l U (Hf.out.below hB2) HGB.out
  rw [hx] at hm
  have HM := Lib.hid hm
  clear hm hx
  go_wp2_with fail
  refine HM.out.mono ?_
  rintro e w2 ⟨p, c, rfl, hL, hb2⟩
  clear hU hV f0 f1 f2 f3 f4 f5 f6 f7 f8 f9 f10 f11 f12 f13 f14 e0 e1 e2 e3 e4 e5 e6 e7 e8 e9 e10 e11 e12 e13 e14 ez c0 c1 c2 c3 c4 c5 c6 c7 c8 c9 c10 c11 c12 c13 c14 cz
  have hB3 := bup hB2 hb2
  have hr2 := HR.out.below hb2
  obtain ⟨c0, c1, c2, c3, c4, c5, c6, c7, c8, c9, c10, c11, c12, c13, c14, cz⟩ := deskcells hr2
  have ht := tooFew_c s M a n cap f l p x.length c (fun j => ((x.getD j 0 : Nat) : Int)) w2 (Hf.out.below hB3) HGB.out hL.cells hxl
  have hte : fewB f n (fun j => ((x.getD j 0 : Nat) : Int)) x.length = fewL f n x := rfl
  rw [hte] at ht
  rw [HV.out] at ht
  have HT := Lib.hid ht
  have HL := Lib.hid hL
  clear ht hL hte hr2
  go_wp2_with fail
  refine HT.out.mono ?_
  rintro e w3 ⟨rfl, hb3⟩
  clear c0 c1 c2 c3 c4 c5 c6 c7 c8 c9 c10 c11 c12 c13 c14 cz
  have hB4 := bup hB3 hb3
  by_cases h0 : v = 0
  · subst h0
    go_wp2_with fail
    refine bodyPost_ret (v := .tuple #[.slice none 0 0, .int .i64 5]) (by simp [results, Tryz.results26, go_sem]) rfl ⟨hB4, by simp⟩
  · have t0 : (v == 0) = false := by simpa using h0
    go_wp2_with fail
    refine bodyPost_ret (v := .tuple #[.slice p x.length c, .int .i64 0]) (by simp [results, Tryz.results26, go_sem]) rfl ⟨hB4, .inr ⟨h0, p, c, rfl, HL.out.below hb3⟩⟩

/-- The shops, and the moulds, of the cover that is returned. -/
def covS (f : Nat → W2) (n s : Nat) (l : Nat → Int) : List Nat := othL l (fun j => (((shortOf f n s l).getD j 0 : Nat) : Int)) (shortOf f n s l).length s
def covM (f : Nat → W2) (n s : Nat) (l : Nat → Int) : List Nat := wbL (shopL f (fun j => (((shortOf f n s l).getD j 0 : Nat) : Int)) (shortOf f n s l).length n) 6

set_option maxRecDepth 100000 in
set_option maxHeartbeats 8000000 in
theorem Cover_yes_c (s M : Nat) (a : Option Addr) (n cap : Nat) (f : Nat → W2) (w : World) (hf : Wants w a n f) (hn : n ≤ 1048576) (hE : bookE s M n f = 0) :
    Calls Tryz.prog 24 #[bookV s M a n cap] w fun e w' => ∃ p c q d, e = .returned (.tuple #[.slice p (covS f n s (bookL f n)).length c, .slice q (covM f n s (bookL f n)).length d, .int .i64 0]) ∧ Lst w' (covS f n s (bookL f n)) p c ∧ Lst w' (covM f n s (bookL f n)) q d ∧ Below w.heap.size w w' := by
  obtain ⟨X, hX⟩ : ∃ X, covS f n s (bookL f n) = X := ⟨_, rfl⟩
  obtain ⟨Y, hY⟩ : ∃ Y, covM f n s (bookL f n) = Y := ⟨_, rfl⟩
  rw [hX, hY]
  have HX := Lib.hid hX
  have HY := Lib.hid hY
  clear hX hY
  obtain ⟨W, hW⟩ : ∃ W, w.alloc (.cells #[.int .i64 s, .int .i64 M, .slice a n cap] 24) = W := ⟨_, rfl⟩
  have hB : Below w.heap.size w W := by rw [← hW]; exact Below.alloc1 (Below.refl _ _) _ (Nat.le_refl _)
  have hR : RowIs W w.heap.size #[.int .i64 s, .int .i64 M, .slice a n cap] 24 := by rw [← hW]; exact heap_new_at _ _ _ rfl
  have r0 : W.cell? ⟨w.heap.size, 0, none⟩ = some (.int .i64 s) := RowIs.cell hR 0
  have r1 : W.cell? ⟨w.heap.size, 1, none⟩ = some (.int .i64 M) := RowIs.cell hR 1
  have r2 : W.cell? ⟨w.heap.size, 2, none⟩ = some (.slice a n cap) := RowIs.cell hR 2
  have hGB := book_good hE
  have hs6 : s ≤ 6 := by have := hGB.1; omega
  have hm6 : M ≤ 6 := by have := hGB.2.1; omega
  have hn14 : n ≤ 14 := hGB.2.2.1
  have hc := newDesk_yes_c s M a n cap f W (hf.below hB) hn hE
  obtain ⟨l, hl⟩ : ∃ l, bookL f n = l := ⟨_, rfl⟩
  rw [hl] at hc
  try rw [hl]
  have HLB := Lib.hid hl
  have HC := Lib.hid hc
  have HGB := Lib.hid hGB
  have Hf := Lib.hid hf
  have HE := Lib.hid hE
  clear hR hc hl hGB hf hE
  go_enter Tryz.func24, Tryz.ntmps24
  go_wp2_with fail
  refine HC.out.mono ?_
  rintro e w1 ⟨rfl, hb1⟩
  have hB1 := bup hB hb1
  obtain ⟨V, U, z, hN⟩ := newDesk w1 s M a n cap l
  have hV := hN.made
  have hz := hN.size
  have hU := hN.stored
  simp only [putL, deskL, Nat.reduceAdd] at hU
  obtain ⟨f0, f1, f2, f3, f4, f5, f6, f7, f8, f9, f10, f11, f12, f13, f14⟩ := deskfree hN.zero
  obtain ⟨e0, e1, e2, e3, e4, e5, e6, e7, e8, e9, e10, e11, e12, e13, e14, ez⟩ := deskcells hN.zero
  obtain ⟨c0, c1, c2, c3, c4, c5, c6, c7, c8, c9, c10, c11, c12, c13, c14, cz⟩ := deskcells hN.row
  have hB2 := bup hB1 hN.below
  have HR := Lib.hid hN.row
  clear hN hW r0 r1 r2 hB hb1 hB1 HC
  obtain ⟨x, hx⟩ : ∃ x, shortOf f n s l = x := ⟨_, rfl⟩
  have hxl : x.length ≤ 1048576 := by
    have := shortOf_rising f n s l
    rw [hx] at this
    have := rising_len this
    omega
  have hm := mostShort_c s M a n cap f l U (Hf.out.below hB2) HGB.out
  have hX : covS f n s l = X := by rw [← HLB.out]; exact HX.out
  have hY : covM f n s l = Y := by rw [← HLB.out]; exact HY.out
  have hX2 : othL l (fun j => ((x.getD j 0 : Nat) : Int)) x.length s = X := by rw [← hX, ← hx]; rfl
  have hY2 : wbL (shopL f (fun j => ((x.getD j 0 : Nat) : Int)) x.length n) 6 = Y := by rw [← hY, ← hx]; rfl
  rw [hx] at hm
  have HM := Lib.hid hm
  clear hm hx hX hY
  go_wp2_with fail
  refine HM.out.mono ?_
  rintro e w2 ⟨p, c, rfl, hL, hb2⟩
  clear hU hV f0 f1 f2 f3 f4 f5 f6 f7 f8 f9 f10 f11 f12 f13 f14 e0 e1 e2 e3 e4 e5 e6 e7 e8 e9 e10 e11 e12 e13 e14 ez c0 c1 c2 c3 c4 c5 c6 c7 c8 c9 c10 c11 c12 c13 c14 cz
  have hB3 := bup hB2 hb2
  have hr2 := HR.out.below hb2
  obtain ⟨c0, c1, c2, c3, c4, c5, c6, c7, c8, c9, c10, c11, c12, c13, c14, cz⟩ := deskcells hr2
  have hot := fun (A : World) (hA : Below w2.heap.size w2 A) => others_c s M a n cap l p x.length c (fun j => ((x.getD j 0 : Nat) : Int)) A hs6 (Cells.below hL.cells hA) hxl
  have hwb := fun (A : World) (hA : Below w2.heap.size w2 A) => wantedBy_c s M a n cap f l p x.length c (fun j => ((x.getD j 0 : Nat) : Int)) A (Hf.out.below (bup hB3 hA)) HGB.out (Cells.below hL.cells hA) hxl
  rw [hX2] at hot
  rw [hY2] at hwb
  have HO := Lib.hid hot
  have HW := Lib.hid hwb
  have HR2 := Lib.hid hr2
  clear hot hwb hr2 hX2 hY2 hL
  go_wp2_with fail
  go_region_held3 (fun w' => w'.cell? ⟨z, 0, none⟩ = some (.int .i64 s) ∧ w'.cell? ⟨z, 1, none⟩ = some (.int .i64 M) ∧ w'.cell? ⟨z, 2, none⟩ = some (.slice a n cap) ∧ w'.cell? ⟨z, 3, none⟩ = some (.int .i64 (l 0)) ∧ w'.cell? ⟨z, 4, none⟩ = some (.int .i64 (l 1)) ∧ w'.cell? ⟨z, 5, none⟩ = some (.int .i64 (l 2)) ∧ w'.cell? ⟨z, 6, none⟩ = some (.int .i64 (l 3)) ∧ w'.cell? ⟨z, 7, none⟩ = some (.int .i64 (l 4)) ∧ w'.cell? ⟨z, 8, none⟩ = some (.int .i64 (l 5)) ∧ w'.cell? ⟨z, 9, none⟩ = some (.int .i64 (l 6)) ∧ w'.cell? ⟨z, 10, none⟩ = some (.int .i64 (l 7)) ∧ w'.cell? ⟨z, 11, none⟩ = some (.int .i64 (l 8)) ∧ w'.cell? ⟨z, 12, none⟩ = some (.int .i64 (l 9)) ∧ w'.cell? ⟨z, 13, none⟩ = some (.int .i64 (l 10)) ∧ w'.cell? ⟨z, 14, none⟩ = some (.int .i64 (l 11)))
    (first | go_keep | (refine ⟨?_, ?_, ?_, ?_, ?_, ?_, ?_, ?_, ?_, ?_, ?_, ?_, ?_, ?_, ?_⟩ <;> assumption))
    ((first
      | (go_at_call 50; refine (HO.out _ (Below.refl _ _).drew).mono ?_; rintro e w3 ⟨p3, d3, rfl, hL3, hb3⟩; clear c0 c1 c2 c3 c4 c5 c6 c7 c8 c9 c10 c11 c12 c13 c14 cz; obtain ⟨c0, c1, c2, c3, c4, c5, c6, c7, c8, c9, c10, c11, c12, c13, c14, cz⟩ := deskcells (RowIs.below HR2.out ((Below.refl _ w2).drew.trans hb3)); have hb23 : Below w2.heap.size w2 w3 := (Below.refl _ w2).drew.trans hb3)
      | (go_at_call 51; refine (HW.out _ (by assumption)).mono ?_; rintro e w4 ⟨p4, d4, rfl, hL4, hb4⟩; clear c0 c1 c2 c3 c4 c5 c6 c7 c8 c9 c10 c11 c12 c13 c14 cz; obtain ⟨c0, c1, c2, c3, c4, c5, c6, c7, c8, c9, c10, c11, c12, c13, c14, cz⟩ := deskcells (RowIs.below HR2.out (hb23.trans (hb4.mono hb23.size))))
      | fail))
  all_goals
    clear c0 c1 c2 c3 c4 c5 c6 c7 c8 c9 c10 c11 c12 c13 c14 cz
    go_wp2_with fail
    refine bodyPost_ret (v := .tuple #[.slice p3 X.length d3, .slice p4 Y.length d4, .int .i64 0]) (by simp [results, Tryz.results24, go_sem]) rfl ⟨p3, d3, p4, d4, rfl, hL3.below hb4, hL4, bup hB3 (hb23.trans (hb4.mono hb23.size))⟩

end Go.Proofs.YtbjgbgchagfokaaGreat
