/- Contracts of layer 2: a plan that is none. Written by tools/planpre.py. -/
import Derived.Test.YtbjgbgchagfokaaGreatProg
import Derived.Test.YtbjgbgchagfokaaGreatBasaa
import Derived.Test.YtbjgbgchagfokaaGreatBasae
import Derived.Test.YtbjgbgchagfokaaGreatBasak
namespace Go.Proofs.YtbjgbgchagfokaaGreat
open Go Go.RowKit Go.Shelf

def planL (S M : Int) (a : Option Addr) (n cap : Nat) (h : Nat → Int) (da : Option Addr) (k dcap : Nat) : List Value := [.int .i64 S, .int .i64 M, .slice a n cap, .int .i64 (h 0), .int .i64 (h 1), .int .i64 (h 2), .int .i64 (h 3), .int .i64 (h 4), .int .i64 (h 5), .int .i64 (h 6), .int .i64 (h 7), .int .i64 (h 8), .int .i64 (h 9), .int .i64 (h 10), .int .i64 (h 11), .slice da k dcap]
theorem setL_plan (S M : Int) (a : Option Addr) (n cap : Nat) (g h : Nat → Int) (da : Option Addr) (k dcap : Nat) (S' M' : Int) (a' : Option Addr) (n' cap' : Nat) (da' : Option Addr) (k' dcap' : Nat) : setL (planRow S' M' a' n' cap' g da' k' dcap') 0 (planL S M a n cap h da k dcap) = planRow S M a n cap h da k dcap := by simp [setL, planL, planRow]
abbrev noPlanV : Value := planV 0 0 none 0 0 (fun _ => 0) none 0 0

/-- The results' variables: no plan, and an error. -/
theorem endNo {A U : World} {H : Nat} {v : Int} (hP : RowIs A (H + 2) (planRow 0 0 none 0 0 (fun _ => 0) none 0 0) 56) (hE : RowIs A (H + 3) #[.int .i64 0] 29) (hU : (putL A (H + 2) 0 (planL 0 0 none 0 0 (fun _ => 0) none 0 0)).setCell ⟨H + 3, 0, none⟩ (.int .i64 v) = U) :
    RowIs U (H + 2) (planRow 0 0 none 0 0 (fun _ => 0) none 0 0) 56 ∧ RowIs U (H + 3) #[.int .i64 v] 29 ∧ Below H A U := by
  subst hU
  have h1 := putL_row (o := 0) (l := planL 0 0 none 0 0 (fun _ => 0) none 0 0) hP
  rw [setL_plan] at h1
  have h2 : RowIs (putL A (H + 2) 0 (planL 0 0 none 0 0 (fun _ => 0) none 0 0)) (H + 3) #[.int .i64 0] 29 := (putL_other (by omega)).trans hE
  exact ⟨(Below.heap_setCell _ _ _ _ (by simp)).trans h1, RowIs.set h2 0 (.int .i64 v), (putL_below (by omega)).setCell (p := ⟨H + 3, 0, none⟩) (by show H ≤ H + 3; omega) _⟩

set_option maxHeartbeats 8000000 in
theorem newPlan_book_c (S M : Int) (a : Option Addr) (n cap : Nat) (f : Nat → W2) (da : Option Addr) (k dcap : Nat) (w : World) (hf : Wants w a n f) (hn : n ≤ 1048576) (hE : bookE S M n f ≠ 0) :
    Calls Tryz.prog 34 #[bookV S M a n cap, .slice da k dcap] w fun e w' => e = .returned (.tuple #[noPlanV, .int .i64 (bookE S M n f)]) ∧ Below w.heap.size w w' := by
  obtain ⟨W, hW⟩ : ∃ W, (((w.alloc (.cells #[.int .i64 S, .int .i64 M, .slice a n cap] 24)).alloc (.cells #[.slice da k dcap] 25)).alloc (.cells (planRow 0 0 none 0 0 (fun _ => 0) none 0 0) 56)).alloc (.cells #[.int .i64 0] 29) = W := ⟨_, rfl⟩
  have hB : Below w.heap.size w W := by rw [← hW]; exact Below.alloc1 (Below.alloc1 (Below.alloc1 (Below.alloc1 (Below.refl _ _) _ (Nat.le_refl _)) _ (Nat.le_refl _)) _ (Nat.le_refl _)) _ (Nat.le_refl _)
  have hR : RowIs W w.heap.size #[.int .i64 S, .int .i64 M, .slice a n cap] 24 := by rw [← hW]; exact RowIs.alloc (RowIs.alloc (RowIs.alloc (heap_new_at _ _ _ rfl) _) _) _
  have hD : RowIs W (w.heap.size + 1) #[.slice da k dcap] 25 := by rw [← hW]; exact RowIs.alloc (RowIs.alloc (heap_new_at _ _ _ (by simp)) _) _
  have hP : RowIs W (w.heap.size + 2) (planRow 0 0 none 0 0 (fun _ => 0) none 0 0) 56 := by rw [← hW]; exact RowIs.alloc (heap_new_at _ _ _ (by simp)) _
  have hEr : RowIs W (w.heap.size + 3) #[.int .i64 0] 29 := by rw [← hW]; exact heap_new_at _ _ _ (by simp)
  have r0 : W.cell? ⟨w.heap.size, 0, none⟩ = some (.int .i64 S) := RowIs.cell hR 0
  have r1 : W.cell? ⟨w.heap.size, 1, none⟩ = some (.int .i64 M) := RowIs.cell hR 1
  have r2 : W.cell? ⟨w.heap.size, 2, none⟩ = some (.slice a n cap) := RowIs.cell hR 2
  have rz := hR.lt
  have HD := Lib.hid hD
  have HP := Lib.hid hP
  have HEr := Lib.hid hEr
  have HfW := Lib.hid (hf.below hB)
  have HB := Lib.hid hB
  clear hR hD hP hEr hf hB
  simp only [planRow] at hW
  have hc := newDesk_no_c S M a n cap f W HfW.out hn hE
  obtain ⟨v, hv⟩ : ∃ v, bookE S M n f = v := ⟨_, rfl⟩
  rw [hv] at hE hc ⊢
  have HC := Lib.hid hc
  have t0 : (v != 0) = true := by simpa using hE
  clear hc hv
  go_enter Tryz.func34, Tryz.ntmps34
  go_wp2_with fail
  refine HC.out.mono ?_
  rintro e w1 ⟨rfl, hb1⟩
  obtain ⟨V, U, z, hN⟩ := newDesk w1 0 0 none 0 0 fun _ => 0
  have hV := hN.made
  have hz := hN.size
  have hU := hN.stored
  simp only [putL, deskL, Nat.reduceAdd] at hU
  obtain ⟨f0, f1, f2, f3, f4, f5, f6, f7, f8, f9, f10, f11, f12, f13, f14⟩ := deskfree hN.zero
  obtain ⟨e0, e1, e2, e3, e4, e5, e6, e7, e8, e9, e10, e11, e12, e13, e14, ez⟩ := deskcells hN.zero
  obtain ⟨c0, c1, c2, c3, c4, c5, c6, c7, c8, c9, c10, c11, c12, c13, c14, cz⟩ := deskcells hN.row
  have hBU := bup HB.out (hb1.trans (hN.below.mono hb1.size))
  have HDU := Lib.hid ((HD.out.below hb1).below hN.below)
  have HPU := Lib.hid ((HP.out.below hb1).below hN.below)
  have HEU := Lib.hid ((HEr.out.below hb1).below hN.below)
  have dk : U.cell? ⟨w.heap.size + 1, 0, none⟩ = some (.slice da k dcap) := HDU.out.cell 0
  have dz := HDU.out.lt
  have HRow := Lib.hid hN.row
  have HfU := Lib.hid ((HfW.out.below hb1).below hN.below)
  have HBU := Lib.hid hBU
  have hwz : w.heap.size + 3 < z := by have := (HEr.out.below hb1).lt; omega
  clear hN hW r0 r1 r2 rz hb1 HD HP HEr HfW HB hBU
  obtain ⟨p0, p1, p2, p3, p4, p5, p6, p7, p8, p9, p10, p11, p12, p13, p14, p15, pz⟩ := plancells HPU.out
  obtain ⟨g0, g1, g2, g3, g4, g5, g6, g7, g8, g9, g10, g11, g12, g13, g14, g15⟩ := planfree HPU.out
  have er : U.cell? ⟨w.heap.size + 3, 0, none⟩ = some (.int .i64 0) := HEU.out.cell 0
  have ef := HEU.out.frozen 0
  go_wp2_with fail
  obtain ⟨X, hX⟩ : ∃ X, (putL U (w.heap.size + 2) 0 (planL 0 0 none 0 0 (fun _ => 0) none 0 0)).setCell ⟨w.heap.size + 3, 0, none⟩ (.int .i64 v) = X := ⟨_, rfl⟩
  change bodyPost _ _ _ _ _ ((putL U (w.heap.size + 2) 0 (planL 0 0 none 0 0 (fun _ => 0) none 0 0)).setCell ⟨w.heap.size + 3, 0, none⟩ (.int .i64 v))
  obtain ⟨x1, x2, x3⟩ := endNo HPU.out HEU.out hX
  rw [hX]
  clear p0 p1 p2 p3 p4 p5 p6 p7 p8 p9 p10 p11 p12 p13 p14 p15 pz g0 g1 g2 g3 g4 g5 g6 g7 g8 g9 g10 g11 g12 g13 g14 g15 er ef
  obtain ⟨q0, q1, q2, q3, q4, q5, q6, q7, q8, q9, q10, q11, q12, q13, q14, q15, qz⟩ := plancells x1
  have er : X.cell? ⟨w.heap.size + 3, 0, none⟩ = some (.int .i64 v) := x2.cell 0
  refine bodyPost_ret (v := .tuple #[noPlanV, .int .i64 v]) (by simp [results, Tryz.results34, go_sem, q0, q1, q2, q3, q4, q5, q6, q7, q8, q9, q10, q11, q12, q13, q14, q15, er]) rfl ⟨rfl, HBU.out.trans x3⟩

set_option maxHeartbeats 8000000 in
theorem newPlan_len_c (S M : Int) (a : Option Addr) (n cap : Nat) (f : Nat → W2) (da : Option Addr) (k dcap : Nat) (w : World) (hf : Wants w a n f) (hn : n ≤ 1048576) (hE : bookE S M n f = 0) (hk : k ≠ n) :
    Calls Tryz.prog 34 #[bookV S M a n cap, .slice da k dcap] w fun e w' => e = .returned (.tuple #[noPlanV, .int .i64 15]) ∧ Below w.heap.size w w' := by
  obtain ⟨W, hW⟩ : ∃ W, (((w.alloc (.cells #[.int .i64 S, .int .i64 M, .slice a n cap] 24)).alloc (.cells #[.slice da k dcap] 25)).alloc (.cells (planRow 0 0 none 0 0 (fun _ => 0) none 0 0) 56)).alloc (.cells #[.int .i64 0] 29) = W := ⟨_, rfl⟩
  have hB : Below w.heap.size w W := by rw [← hW]; exact Below.alloc1 (Below.alloc1 (Below.alloc1 (Below.alloc1 (Below.refl _ _) _ (Nat.le_refl _)) _ (Nat.le_refl _)) _ (Nat.le_refl _)) _ (Nat.le_refl _)
  have hR : RowIs W w.heap.size #[.int .i64 S, .int .i64 M, .slice a n cap] 24 := by rw [← hW]; exact RowIs.alloc (RowIs.alloc (RowIs.alloc (heap_new_at _ _ _ rfl) _) _) _
  have hD : RowIs W (w.heap.size + 1) #[.slice da k dcap] 25 := by rw [← hW]; exact RowIs.alloc (RowIs.alloc (heap_new_at _ _ _ (by simp)) _) _
  have hP : RowIs W (w.heap.size + 2) (planRow 0 0 none 0 0 (fun _ => 0) none 0 0) 56 := by rw [← hW]; exact RowIs.alloc (heap_new_at _ _ _ (by simp)) _
  have hEr : RowIs W (w.heap.size + 3) #[.int .i64 0] 29 := by rw [← hW]; exact heap_new_at _ _ _ (by simp)
  have r0 : W.cell? ⟨w.heap.size, 0, none⟩ = some (.int .i64 S) := RowIs.cell hR 0
  have r1 : W.cell? ⟨w.heap.size, 1, none⟩ = some (.int .i64 M) := RowIs.cell hR 1
  have r2 : W.cell? ⟨w.heap.size, 2, none⟩ = some (.slice a n cap) := RowIs.cell hR 2
  have rz := hR.lt
  have HD := Lib.hid hD
  have HP := Lib.hid hP
  have HEr := Lib.hid hEr
  have HfW := Lib.hid (hf.below hB)
  have HB := Lib.hid hB
  clear hR hD hP hEr hf hB
  simp only [planRow] at hW
  have hc := newDesk_yes_c S M a n cap f W HfW.out hn hE
  obtain ⟨l, hl⟩ : ∃ l, bookL f n = l := ⟨_, rfl⟩
  rw [hl] at hc
  have HC := Lib.hid hc
  have t0 : ((k : Int) != (n : Int)) = true := by simp; omega
  clear hc hl
  go_enter Tryz.func34, Tryz.ntmps34
  go_wp2_with fail
  refine HC.out.mono ?_
  rintro e w1 ⟨rfl, hb1⟩
  obtain ⟨V, U, z, hN⟩ := newDesk w1 S M a n cap l
  have hV := hN.made
  have hz := hN.size
  have hU := hN.stored
  simp only [putL, deskL, Nat.reduceAdd] at hU
  obtain ⟨f0, f1, f2, f3, f4, f5, f6, f7, f8, f9, f10, f11, f12, f13, f14⟩ := deskfree hN.zero
  obtain ⟨e0, e1, e2, e3, e4, e5, e6, e7, e8, e9, e10, e11, e12, e13, e14, ez⟩ := deskcells hN.zero
  obtain ⟨c0, c1, c2, c3, c4, c5, c6, c7, c8, c9, c10, c11, c12, c13, c14, cz⟩ := deskcells hN.row
  have hBU := bup HB.out (hb1.trans (hN.below.mono hb1.size))
  have HDU := Lib.hid ((HD.out.below hb1).below hN.below)
  have HPU := Lib.hid ((HP.out.below hb1).below hN.below)
  have HEU := Lib.hid ((HEr.out.below hb1).below hN.below)
  have dk : U.cell? ⟨w.heap.size + 1, 0, none⟩ = some (.slice da k dcap) := HDU.out.cell 0
  have dz := HDU.out.lt
  have HRow := Lib.hid hN.row
  have HfU := Lib.hid ((HfW.out.below hb1).below hN.below)
  have HBU := Lib.hid hBU
  have hwz : w.heap.size + 3 < z := by have := (HEr.out.below hb1).lt; omega
  clear hN hW r0 r1 r2 rz hb1 HD HP HEr HfW HB hBU
  obtain ⟨p0, p1, p2, p3, p4, p5, p6, p7, p8, p9, p10, p11, p12, p13, p14, p15, pz⟩ := plancells HPU.out
  obtain ⟨g0, g1, g2, g3, g4, g5, g6, g7, g8, g9, g10, g11, g12, g13, g14, g15⟩ := planfree HPU.out
  have er : U.cell? ⟨w.heap.size + 3, 0, none⟩ = some (.int .i64 0) := HEU.out.cell 0
  have ef := HEU.out.frozen 0
  go_wp2_with fail
  obtain ⟨X, hX⟩ : ∃ X, (putL U (w.heap.size + 2) 0 (planL 0 0 none 0 0 (fun _ => 0) none 0 0)).setCell ⟨w.heap.size + 3, 0, none⟩ (.int .i64 15) = X := ⟨_, rfl⟩
  change bodyPost _ _ _ _ _ ((putL U (w.heap.size + 2) 0 (planL 0 0 none 0 0 (fun _ => 0) none 0 0)).setCell ⟨w.heap.size + 3, 0, none⟩ (.int .i64 15))
  obtain ⟨x1, x2, x3⟩ := endNo HPU.out HEU.out hX
  rw [hX]
  clear p0 p1 p2 p3 p4 p5 p6 p7 p8 p9 p10 p11 p12 p13 p14 p15 pz g0 g1 g2 g3 g4 g5 g6 g7 g8 g9 g10 g11 g12 g13 g14 g15 er ef
  obtain ⟨q0, q1, q2, q3, q4, q5, q6, q7, q8, q9, q10, q11, q12, q13, q14, q15, qz⟩ := plancells x1
  have er : X.cell? ⟨w.heap.size + 3, 0, none⟩ = some (.int .i64 15) := x2.cell 0
  refine bodyPost_ret (v := .tuple #[noPlanV, .int .i64 15]) (by simp [results, Tryz.results34, go_sem, q0, q1, q2, q3, q4, q5, q6, q7, q8, q9, q10, q11, q12, q13, q14, q15, er]) rfl ⟨rfl, HBU.out.trans x3⟩

set_option maxHeartbeats 8000000 in
theorem newPlan_range_c (S M : Int) (a : Option Addr) (n cap : Nat) (f : Nat → W2) (da : Option Addr) (dcap : Nat) (g : Nat → Int) (w : World) (hf : Wants w a n f) (hn : n ≤ 1048576) (hE : bookE S M n f = 0) (hd : Ints w da n g) (hw : withinB 0 13 g n = false) :
    Calls Tryz.prog 34 #[bookV S M a n cap, .slice da n dcap] w fun e w' => e = .returned (.tuple #[noPlanV, .int .i64 3]) ∧ Below w.heap.size w w' := by
  obtain ⟨W, hW⟩ : ∃ W, (((w.alloc (.cells #[.int .i64 S, .int .i64 M, .slice a n cap] 24)).alloc (.cells #[.slice da n dcap] 25)).alloc (.cells (planRow 0 0 none 0 0 (fun _ => 0) none 0 0) 56)).alloc (.cells #[.int .i64 0] 29) = W := ⟨_, rfl⟩
  have hB : Below w.heap.size w W := by rw [← hW]; exact Below.alloc1 (Below.alloc1 (Below.alloc1 (Below.alloc1 (Below.refl _ _) _ (Nat.le_refl _)) _ (Nat.le_refl _)) _ (Nat.le_refl _)) _ (Nat.le_refl _)
  have hR : RowIs W w.heap.size #[.int .i64 S, .int .i64 M, .slice a n cap] 24 := by rw [← hW]; exact RowIs.alloc (RowIs.alloc (RowIs.alloc (heap_new_at _ _ _ rfl) _) _) _
  have hD : RowIs W (w.heap.size + 1) #[.slice da n dcap] 25 := by rw [← hW]; exact RowIs.alloc (RowIs.alloc (heap_new_at _ _ _ (by simp)) _) _
  have hP : RowIs W (w.heap.size + 2) (planRow 0 0 none 0 0 (fun _ => 0) none 0 0) 56 := by rw [← hW]; exact RowIs.alloc (heap_new_at _ _ _ (by simp)) _
  have hEr : RowIs W (w.heap.size + 3) #[.int .i64 0] 29 := by rw [← hW]; exact heap_new_at _ _ _ (by simp)
  have r0 : W.cell? ⟨w.heap.size, 0, none⟩ = some (.int .i64 S) := RowIs.cell hR 0
  have r1 : W.cell? ⟨w.heap.size, 1, none⟩ = some (.int .i64 M) := RowIs.cell hR 1
  have r2 : W.cell? ⟨w.heap.size, 2, none⟩ = some (.slice a n cap) := RowIs.cell hR 2
  have rz := hR.lt
  have HD := Lib.hid hD
  have HP := Lib.hid hP
  have HEr := Lib.hid hEr
  have HfW := Lib.hid (hf.below hB)
  have HB := Lib.hid hB
  clear hR hD hP hEr hf hB
  simp only [planRow] at hW
  have hc := newDesk_yes_c S M a n cap f W HfW.out hn hE
  obtain ⟨l, hl⟩ : ∃ l, bookL f n = l := ⟨_, rfl⟩
  rw [hl] at hc
  have HC := Lib.hid hc
  have t0 : ((n : Int) != (n : Int)) = false := by simp
  have HdW := Lib.hid hd
  clear hc hl hd
  go_enter Tryz.func34, Tryz.ntmps34
  go_wp2_with fail
  refine HC.out.mono ?_
  rintro e w1 ⟨rfl, hb1⟩
  obtain ⟨V, U, z, hN⟩ := newDesk w1 S M a n cap l
  have hV := hN.made
  have hz := hN.size
  have hU := hN.stored
  simp only [putL, deskL, Nat.reduceAdd] at hU
  obtain ⟨f0, f1, f2, f3, f4, f5, f6, f7, f8, f9, f10, f11, f12, f13, f14⟩ := deskfree hN.zero
  obtain ⟨e0, e1, e2, e3, e4, e5, e6, e7, e8, e9, e10, e11, e12, e13, e14, ez⟩ := deskcells hN.zero
  obtain ⟨c0, c1, c2, c3, c4, c5, c6, c7, c8, c9, c10, c11, c12, c13, c14, cz⟩ := deskcells hN.row
  have hBU := bup HB.out (hb1.trans (hN.below.mono hb1.size))
  have HDU := Lib.hid ((HD.out.below hb1).below hN.below)
  have HPU := Lib.hid ((HP.out.below hb1).below hN.below)
  have HEU := Lib.hid ((HEr.out.below hb1).below hN.below)
  have dk : U.cell? ⟨w.heap.size + 1, 0, none⟩ = some (.slice da n dcap) := HDU.out.cell 0
  have dz := HDU.out.lt
  have HRow := Lib.hid hN.row
  have HfU := Lib.hid ((HfW.out.below hb1).below hN.below)
  have HBU := Lib.hid hBU
  have hwz : w.heap.size + 3 < z := by have := (HEr.out.below hb1).lt; omega
  clear hN hW r0 r1 r2 rz hb1 HD HP HEr HfW HB hBU
  obtain ⟨p0, p1, p2, p3, p4, p5, p6, p7, p8, p9, p10, p11, p12, p13, p14, p15, pz⟩ := plancells HPU.out
  obtain ⟨g0, g1, g2, g3, g4, g5, g6, g7, g8, g9, g10, g11, g12, g13, g14, g15⟩ := planfree HPU.out
  have er : U.cell? ⟨w.heap.size + 3, 0, none⟩ = some (.int .i64 0) := HEU.out.cell 0
  have ef := HEU.out.frozen 0
  have k1 := within_c 0 13 da n dcap g U (Cells.below HdW.out HBU.out) hn
  rw [hw] at k1
  have K1 := Lib.hid k1
  clear k1
  go_wp2_with fail
  refine K1.out.mono ?_
  rintro e w2 ⟨rfl, rfl⟩
  go_wp2_with fail
  obtain ⟨X, hX⟩ : ∃ X, (putL U (w.heap.size + 2) 0 (planL 0 0 none 0 0 (fun _ => 0) none 0 0)).setCell ⟨w.heap.size + 3, 0, none⟩ (.int .i64 3) = X := ⟨_, rfl⟩
  change bodyPost _ _ _ _ _ ((putL U (w.heap.size + 2) 0 (planL 0 0 none 0 0 (fun _ => 0) none 0 0)).setCell ⟨w.heap.size + 3, 0, none⟩ (.int .i64 3))
  obtain ⟨x1, x2, x3⟩ := endNo HPU.out HEU.out hX
  rw [hX]
  clear p0 p1 p2 p3 p4 p5 p6 p7 p8 p9 p10 p11 p12 p13 p14 p15 pz g0 g1 g2 g3 g4 g5 g6 g7 g8 g9 g10 g11 g12 g13 g14 g15 er ef
  obtain ⟨q0, q1, q2, q3, q4, q5, q6, q7, q8, q9, q10, q11, q12, q13, q14, q15, qz⟩ := plancells x1
  have er : X.cell? ⟨w.heap.size + 3, 0, none⟩ = some (.int .i64 3) := x2.cell 0
  refine bodyPost_ret (v := .tuple #[noPlanV, .int .i64 3]) (by simp [results, Tryz.results34, go_sem, q0, q1, q2, q3, q4, q5, q6, q7, q8, q9, q10, q11, q12, q13, q14, q15, er]) rfl ⟨rfl, HBU.out.trans x3⟩

end Go.Proofs.YtbjgbgchagfokaaGreat
