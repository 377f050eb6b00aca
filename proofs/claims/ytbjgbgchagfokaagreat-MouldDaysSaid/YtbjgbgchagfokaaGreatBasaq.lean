/- Contracts of layer 2: the plan of a book and days. Written by tools/planpre.py. -/
import Derived.RangeFuncBound
import Derived.Shelf.Abstract
import Derived.Shelf.RegionOpen
import Derived.OwnWalkIn
import Derived.TacticsInMore
import Derived.LoopNIn
import Derived.LoopIn
import Derived.Scope
import Derived.Test.YtbjgbgchagfokaaGreatProg
import Derived.Test.YtbjgbgchagfokaaGreatBasaa
import Derived.Test.YtbjgbgchagfokaaGreatBasab
import Derived.Test.YtbjgbgchagfokaaGreatBasam
import Derived.Test.YtbjgbgchagfokaaGreatBasad
import Derived.Test.YtbjgbgchagfokaaGreatBasao
import Derived.Test.YtbjgbgchagfokaaGreatBasap
import Derived.Test.YtbjgbgchagfokaaGreatBasal
import Derived.Test.YtbjgbgchagfokaaGreatBasaj
namespace Go.Proofs.YtbjgbgchagfokaaGreat
open Go Go.RowKit Go.Shelf
attribute [local go_sem] Oper.semAt_some

theorem fin_cut {p : Prop} {w0 : World} {F : Nat → Nat → World → Prop} {Q2 : Nat → Nat → World → Prop} (main : (∀ bd bp y, w0.heap.size ≤ bd → w0.heap.size ≤ bp → bp ≠ bd → F bd bp y → Q2 bd bp y) → p)
    (fin : ∀ bd bp y, w0.heap.size ≤ bd → w0.heap.size ≤ bp → bp ≠ bd → F bd bp y → Q2 bd bp y) : p := main fin
/-- A plan is stored into the result, and no error. -/
theorem endYes {A U : World} {H : Nat} {v : Int} {S M : Int} {a : Option Addr} {n cap : Nat} {h : Nat → Int} {da : Option Addr} {k dcap : Nat} (hP : RowIs A (H + 2) (planRow 0 0 none 0 0 (fun _ => 0) none 0 0) 56) (hE : RowIs A (H + 3) #[.int .i64 0] 29) (hU : (putL A (H + 2) 0 (planL S M a n cap h da k dcap)).setCell ⟨H + 3, 0, none⟩ (.int .i64 v) = U) :
    RowIs U (H + 2) (planRow S M a n cap h da k dcap) 56 ∧ RowIs U (H + 3) #[.int .i64 v] 29 ∧ Below H A U ∧ U.heap.size = A.heap.size ∧ ∀ k, k ≠ H + 2 → k ≠ H + 3 → U.heap[k]? = A.heap[k]? := by
  subst hU
  have h1 := putL_row (o := 0) (l := planL S M a n cap h da k dcap) hP
  rw [setL_plan] at h1
  have h2 : RowIs (putL A (H + 2) 0 (planL S M a n cap h da k dcap)) (H + 3) #[.int .i64 0] 29 := (putL_other (by omega)).trans hE
  exact ⟨(Below.heap_setCell _ _ _ _ (by simp)).trans h1, RowIs.set h2 0 (.int .i64 v), (putL_below (by omega)).setCell (p := ⟨H + 3, 0, none⟩) (by show H ≤ H + 3; omega) _, by simp [World.setCell, putL_size], fun k hk1 hk2 => (Below.heap_setCell _ _ _ _ hk2).trans (putL_other hk1)⟩

def ctl : Code → Code
  | .seq _ b => b
  | c => c
def chd : Code → Code
  | .seq b _ => b
  | c => c
/-- What comes behind newPlan's loop. -/
noncomputable def planTail : Code := ctl (ctl (ctl (ctl (ctl (ctl ((Tryz.f34).body.getD .skip))))))

set_option maxRecDepth 100000 in
set_option maxHeartbeats 16000000 in
theorem newPlan_16 (S M : Int) (a : Option Addr) (i cap : Nat) (l : Nat → Int) (da : Option Addr) (dcap : Nat) (w wr : World) (z : Nat) (ds : List Nat) (u8 u9 u37 u38 u39 u40 u41 u42 u51 : Value) (hn14 : i ≤ 14) (hDr : RowIs wr (w.heap.size + 1) #[.slice da i dcap] 25) (hRr : RowIs wr z (deskRow S M a i cap l) 47) (Q : Exit → Act → World → Prop) (K : Act → World → Prop)
    (hK : ∀ bd bp y, wr.heap.size ≤ bd → wr.heap.size ≤ bp → bp ≠ bd → (Below wr.heap.size wr y ∧ y.heap[bd]? = some (.cells (rowA i fun _ => 0) 3 (0, 0))) ∧ RowIs y bp (planRow S M a i cap l (some ⟨bd, 0, none⟩) i i) 56 → K { tmps := #[bookV S M a i cap, .slice da i dcap, .pointer (some ⟨w.heap.size, 0, none⟩), .pointer (some ⟨w.heap.size + 1, 0, none⟩), .pointer (some ⟨w.heap.size + 1 + 1, 0, none⟩), .pointer (some ⟨w.heap.size + 1 + 1 + 1, 0, none⟩), .pointer (some ⟨z, 0, none⟩), .int .i64 0, u8, u9, undef, .pointer (some ⟨bp, 0, none⟩), .tuple #[deskV S M a i cap l, .int .i64 0], .agg #[.int .i64 S, .int .i64 M, .slice a i cap], .tuple #[deskV S M a i cap l, .int .i64 0], deskV S M a i cap l, .int .i64 0, .int .i64 0, .bool false, undef, undef, .slice da i dcap, .int .i64 i, .pointer (some ⟨z, 0, none⟩), .pointer (some ⟨z, 2, none⟩), .slice a i cap, .int .i64 i, .bool false, undef, .slice da i dcap, .bool true, .bool false, undef, .slice da i dcap, .int .i64 i, .int .i64 i, .bool false, u37, u38, u39, u40, u41, u42, undef, undef, undef, undef, undef, undef, undef, undef, u51, deskV S M a i cap l, .slice da i dcap, .int .i64 i, .slice (some ⟨bd, 0, none⟩) i i, planV S M a i cap l (some ⟨bd, 0, none⟩) i i, undef, undef, undef, undef, undef], defers := coll ds } y) :
    Code.wp Tryz.prog (chd planTail) (Exit.then K Q) { tmps := #[bookV S M a i cap, .slice da i dcap, .pointer (some ⟨w.heap.size, 0, none⟩), .pointer (some ⟨w.heap.size + 1, 0, none⟩), .pointer (some ⟨w.heap.size + 1 + 1, 0, none⟩), .pointer (some ⟨w.heap.size + 1 + 1 + 1, 0, none⟩), .pointer (some ⟨z, 0, none⟩), .int .i64 0, u8, u9, undef, undef, .tuple #[deskV S M a i cap l, .int .i64 0], .agg #[.int .i64 S, .int .i64 M, .slice a i cap], .tuple #[deskV S M a i cap l, .int .i64 0], deskV S M a i cap l, .int .i64 0, .int .i64 0, .bool false, undef, undef, .slice da i dcap, .int .i64 i, .pointer (some ⟨z, 0, none⟩), .pointer (some ⟨z, 2, none⟩), .slice a i cap, .int .i64 i, .bool false, undef, .slice da i dcap, .bool true, .bool false, undef, .slice da i dcap, .int .i64 i, .int .i64 i, .bool false, u37, u38, u39, u40, u41, u42, undef, undef, undef, undef, undef, undef, undef, undef, u51, undef, undef, undef, undef, undef, undef, undef, undef, undef, undef], defers := coll ds } wr := by
  dsimp only [planTail, ctl, chd, Tryz.f34, Option.getD]
  have HK := Lib.hid hK
  obtain ⟨c0, c1, c2, c3, c4, c5, c6, c7, c8, c9, c10, c11, c12, c13, c14, cz⟩ := deskcells hRr
  have dkr : wr.cell? ⟨w.heap.size + 1, 0, none⟩ = some (.slice da i dcap) := hDr.cell 0
  have zz1 := hDr.lt
  have zz3 := hRr.lt
  have HMk := Lib.hid (make_rown i hn14)
  clear hDr hRr hK
  refine wp_region_run 3 62 (by kernel_rfl) (by kernel_rfl) (by kernel_rfl) (by decide) (by kernel_rfl) rfl ?_
  simp only [List.take_succ_cons, List.take_zero]
  apply Exists.intro
  refine ⟨fun wl hbl K1 hK1 => ?_, ?_⟩
  · have hlc := fun (x : Later wl) => later_cell2 hbl x
    repeat (go_big_quiet_step (fail))
    exact wpQuiet_nil hK1
  clear dkr c0 c1 c2 c3 c4 c5 c6 c7 c8 c9 c10 c11 c12 c13 c14 cz
  change Run _ _ _ _ _ 4 _ _ _
  refine run_both (i := 3) (j := 5) (by kernel_rfl) ?_ ?_
  · refine at_make (w0 := wr) (t := 55) (z := .cells (rowA i fun _ => 0) 3 (0, 0)) (fun b => .slice (some ⟨b, 0, none⟩) i i) (fun _ => False) slice_inj rfl rfl rfl (fun y _ => by have mk := HMk.out y; go_simp) (fun y h => h.size) (fun _ _ _ h => h.elim) ?_
    intro bd hbd _
    simp only [Act.put, List.setIfInBounds_toArray, List.set_cons_zero, List.set_cons_succ]
    refine run_take (i := 4) (planV S M a i cap l (some ⟨bd, 0, none⟩) i i) rfl (by kernel_rfl) (by kernel_rfl) (by kernel_rfl) rfl (fun y h => h.1) (fun y _ => by go_simp) ?_
    simp only [Act.put, List.getElem_toArray, List.getElem_cons_zero, List.getElem_cons_succ, List.setIfInBounds_toArray, List.set_cons_zero, List.set_cons_succ]
    refine run_only (i := 5) (by kernel_rfl) (at_make (w0 := wr) (t := 11) (z := .cells (planRow 0 0 none 0 0 (fun _ => 0) none 0 0) 56 (0, 0)) ptrTo (fun k => k = bd) ptrTo_inj rfl rfl rfl (fun y _ => by go_simp; rfl) (fun y h => h.1.size) (fun y h k e => by subst e; exact heap_size_lt h.2) ?_)
    intro bp hbp hne
    simp only [Act.put, List.setIfInBounds_toArray, List.set_cons_zero, List.set_cons_succ]
    refine run_store (i := 6) (fun y => (Below wr.heap.size wr y ∧ y.heap[bd]? = some (.cells (rowA i fun _ => 0) 3 (0, 0))) ∧ RowIs y bp (planRow S M a i cap l (some ⟨bd, 0, none⟩) i i) 56) (by kernel_rfl) rfl rfl (fun y y1 h hb => ⟨⟨h.1.1.trans (hb.mono h.1.1.size), (hb.block _ (heap_size_lt h.1.2)).trans h.1.2⟩, h.2.below hb⟩) (fun y h => h.1.1) ?_ ?_
    · intro y hy
      obtain ⟨g0, g1, g2⟩ := (⟨hy.1.1, hy.1.2, hy.2⟩ : Below wr.heap.size wr y ∧ y.heap[bd]? = some (.cells (rowA i fun _ => 0) 3 (0, 0)) ∧ RowIs y bp (planRow 0 0 none 0 0 (fun _ => 0) none 0 0) 56)
      obtain ⟨q0, q1, q2, q3, q4, q5, q6, q7, q8, q9, q10, q11, q12, q13, q14, q15, qz⟩ := plancells g2
      obtain ⟨k0, k1, k2, k3, k4, k5, k6, k7, k8, k9, k10, k11, k12, k13, k14, k15⟩ := planfree g2
      refine ⟨putL y bp 0 (planL S M a i cap l (some ⟨bd, 0, none⟩) i i), ?_, ⟨⟨g0.trans (putL_below (by omega)), (putL_other (by omega)).trans g1⟩, ?_⟩⟩
      · simp only [putL, planL, Nat.reduceAdd]
        go_simp
      · rw [← setL_plan S M a i cap (fun _ => 0) l (some ⟨bd, 0, none⟩) i i 0 0 none 0 0 none 0 0]
        exact putL_row g2
    simp only [Act.put, List.getElem_toArray, List.getElem_cons_zero, List.getElem_cons_succ]
    exact ⟨by kernel_rfl, fun y hy => HK.out bd bp y hbd hbp hne hy⟩
  · refine at_make (w0 := wr) (t := 11) (z := .cells (planRow 0 0 none 0 0 (fun _ => 0) none 0 0) 56 (0, 0)) ptrTo (fun _ => False) ptrTo_inj rfl rfl rfl (fun y _ => by go_simp; rfl) (fun y h => h.size) (fun _ _ _ h => h.elim) ?_
    intro bp hbp _
    simp only [Act.put, List.setIfInBounds_toArray, List.set_cons_zero, List.set_cons_succ]
    refine run_only (i := 3) (by kernel_rfl) (at_make (w0 := wr) (t := 55) (z := .cells (rowA i fun _ => 0) 3 (0, 0)) (fun b => .slice (some ⟨b, 0, none⟩) i i) (fun k => k = bp) slice_inj rfl rfl rfl (fun y _ => by have mk := HMk.out y; go_simp) (fun y h => h.1.size) (fun y h k e => by subst e; exact heap_size_lt h.2) ?_)
    intro bd hbd hne
    simp only [Act.put, List.setIfInBounds_toArray, List.set_cons_zero, List.set_cons_succ]
    refine run_take (i := 4) (planV S M a i cap l (some ⟨bd, 0, none⟩) i i) rfl (by kernel_rfl) (by kernel_rfl) (by kernel_rfl) rfl (fun y h => h.1.1) (fun y _ => by go_simp) ?_
    simp only [Act.put, List.getElem_toArray, List.getElem_cons_zero, List.getElem_cons_succ, List.setIfInBounds_toArray, List.set_cons_zero, List.set_cons_succ]
    refine run_store (i := 6) (fun y => (Below wr.heap.size wr y ∧ y.heap[bd]? = some (.cells (rowA i fun _ => 0) 3 (0, 0))) ∧ RowIs y bp (planRow S M a i cap l (some ⟨bd, 0, none⟩) i i) 56) (by kernel_rfl) rfl rfl (fun y y1 h hb => ⟨⟨h.1.1.trans (hb.mono h.1.1.size), (hb.block _ (heap_size_lt h.1.2)).trans h.1.2⟩, h.2.below hb⟩) (fun y h => h.1.1) ?_ ?_
    · intro y hy
      obtain ⟨g0, g1, g2⟩ := (⟨hy.1.1, hy.2, hy.1.2⟩ : Below wr.heap.size wr y ∧ y.heap[bd]? = some (.cells (rowA i fun _ => 0) 3 (0, 0)) ∧ RowIs y bp (planRow 0 0 none 0 0 (fun _ => 0) none 0 0) 56)
      obtain ⟨q0, q1, q2, q3, q4, q5, q6, q7, q8, q9, q10, q11, q12, q13, q14, q15, qz⟩ := plancells g2
      obtain ⟨k0, k1, k2, k3, k4, k5, k6, k7, k8, k9, k10, k11, k12, k13, k14, k15⟩ := planfree g2
      refine ⟨putL y bp 0 (planL S M a i cap l (some ⟨bd, 0, none⟩) i i), ?_, ⟨⟨g0.trans (putL_below (by omega)), (putL_other (by omega)).trans g1⟩, ?_⟩⟩
      · simp only [putL, planL, Nat.reduceAdd]
        go_simp
      · rw [← setL_plan S M a i cap (fun _ => 0) l (some ⟨bd, 0, none⟩) i i 0 0 none 0 0 none 0 0]
        exact putL_row g2
    simp only [Act.put, List.getElem_toArray, List.getElem_cons_zero, List.getElem_cons_succ]
    exact ⟨by kernel_rfl, fun y hy => HK.out bd bp y hbd hbp (fun e => hne e.symm) hy⟩

set_option maxRecDepth 100000 in
set_option maxHeartbeats 16000000 in
theorem newPlan_17 (S M : Int) (a : Option Addr) (i cap : Nat) (f : Nat → W2) (l : Nat → Int) (da : Option Addr) (dcap : Nat) (d : Nat → Nat) (w U wr : World) (z : Nat) (ds : List Nat) (u8 u9 u37 u38 u39 u40 u41 u42 u51 : Value) (_ : i ≤ 14) (bd bp : Nat) (y : World) (hBU : Below w.heap.size w U) (hBr : Below w.heap.size w wr) (hbr : Below U.heap.size U wr)
    (hPU : RowIs U (w.heap.size + 2) (planRow 0 0 none 0 0 (fun _ => 0) none 0 0) 56) (hEU : RowIs U (w.heap.size + 3) #[.int .i64 0] 29) (hDU : RowIs U (w.heap.size + 1) #[.slice da i dcap] 25) (hrc : Recs U.heap.size ds wr) (hd : Ints w da i fun j => (d j : Int)) (hfr : allFree f i d i = true)
    (hbd : wr.heap.size ≤ bd) (_ : wr.heap.size ≤ bp) (hne2 : bp ≠ bd) (hy : (Below wr.heap.size wr y ∧ y.heap[bd]? = some (.cells (rowA i fun _ => 0) 3 (0, 0))) ∧ RowIs y bp (planRow S M a i cap l (some ⟨bd, 0, none⟩) i i) 56) :
    Code.wp Tryz.prog (ctl planTail) (bodyPostM Fence.wide 1 Tryz.prog (Tryz.f34) fun e w' => Below w.heap.size w w' ∧ ((allFree f i d i = true ∧ ∃ b, e = .returned (.tuple #[planV S M a i cap l (some ⟨b, 0, none⟩) i i, .int .i64 0]) ∧ RowIs w' b (rowA i fun j => (d j : Int)) 3 ∧ w.heap.size ≤ b) ∨ (allFree f i d i = false ∧ e = .returned (.tuple #[noPlanV, .int .i64 18])))) { tmps := #[bookV S M a i cap, .slice da i dcap, .pointer (some ⟨w.heap.size, 0, none⟩), .pointer (some ⟨w.heap.size + 1, 0, none⟩), .pointer (some ⟨w.heap.size + 1 + 1, 0, none⟩), .pointer (some ⟨w.heap.size + 1 + 1 + 1, 0, none⟩), .pointer (some ⟨z, 0, none⟩), .int .i64 0, u8, u9, undef, .pointer (some ⟨bp, 0, none⟩), .tuple #[deskV S M a i cap l, .int .i64 0], .agg #[.int .i64 S, .int .i64 M, .slice a i cap], .tuple #[deskV S M a i cap l, .int .i64 0], deskV S M a i cap l, .int .i64 0, .int .i64 0, .bool false, undef, undef, .slice da i dcap, .int .i64 i, .pointer (some ⟨z, 0, none⟩), .pointer (some ⟨z, 2, none⟩), .slice a i cap, .int .i64 i, .bool false, undef, .slice da i dcap, .bool true, .bool false, undef, .slice da i dcap, .int .i64 i, .int .i64 i, .bool false, u37, u38, u39, u40, u41, u42, undef, undef, undef, undef, undef, undef, undef, undef, u51, deskV S M a i cap l, .slice da i dcap, .int .i64 i, .slice (some ⟨bd, 0, none⟩) i i, planV S M a i cap l (some ⟨bd, 0, none⟩) i i, undef, undef, undef, undef, undef], defers := coll ds } y := by
  dsimp only [planTail, ctl, Tryz.f34, Option.getD]
  have HBU := Lib.hid hBU
  have HPU := Lib.hid hPU
  have HEU := Lib.hid hEU
  have HDU := Lib.hid hDU
  have Hrc := Lib.hid hrc
  have HdW := Lib.hid hd
  have Hfr := Lib.hid hfr
  have Hbr := Lib.hid hbr
  have zz1 : w.heap.size + 1 < wr.heap.size := Nat.lt_of_lt_of_le hDU.lt hbr.size
  have hPr : RowIs wr (w.heap.size + 2) (planRow 0 0 none 0 0 (fun _ => 0) none 0 0) 56 := (hbr.block _ hPU.lt).trans hPU
  have hEr : RowIs wr (w.heap.size + 3) #[.int .i64 0] 29 := (hbr.block _ hEU.lt).trans hEU
  have HPr := Lib.hid hPr
  have HEr := Lib.hid hEr
  clear hBU hPU hEU hDU hrc hd hfr hbr hPr hEr
  obtain ⟨⟨g0, g1⟩, g2⟩ := hy
  have zE := HEr.out.lt
  have hBy : Below w.heap.size w y := hBr.trans (g0.mono hBr.size)
  have dy : y.cell? ⟨w.heap.size + 1, 0, none⟩ = some (.slice da i dcap) := RowIs.cell ((g0.block _ zz1).trans ((Hbr.out.block _ HDU.out.lt).trans HDU.out) : RowIs y (w.heap.size + 1) #[.slice da i dcap] 25) 0
  obtain ⟨p0, p1, p2, p3, p4, p5, p6, p7, p8, p9, p10, p11, p12, p13, p14, p15, pz⟩ := plancells g2
  obtain ⟨X, hrX, hX, hbX, hoX⟩ := copy_rowA y bd i da i dcap (fun j => (d j : Int)) g1 (Nat.le_refl _) (Cells.below HdW.out hBy)
  have hPX : RowIs X (w.heap.size + 2) (planRow 0 0 none 0 0 (fun _ => 0) none 0 0) 56 := (hoX _ (by omega)).trans ((g0.block _ HPr.out.lt).trans HPr.out)
  have hEX : RowIs X (w.heap.size + 3) #[.int .i64 0] 29 := (hoX _ (by omega)).trans ((g0.block _ HEr.out.lt).trans HEr.out)
  have hqX : RowIs X bp (planRow S M a i cap l (some ⟨bd, 0, none⟩) i i) 56 := (hoX _ hne2).trans g2
  have dX : X.cell? ⟨w.heap.size + 1, 0, none⟩ = some (.slice da i dcap) := RowIs.cell ((hoX _ (by omega)).trans ((g0.block _ zz1).trans ((Hbr.out.block _ HDU.out.lt).trans HDU.out)) : RowIs X (w.heap.size + 1) #[.slice da i dcap] 25) 0
  have hBX : Below w.heap.size w X := hBy.trans (hbX.mono (by have := hBr.size; omega))
  have hRX := Hrc.out.kept (w' := X) (Nat.le_trans g0.size hbX.size) (fun b hb => (hoX b (by have := (Hrc.out.here b hb).2.2; omega)).trans (g0.block b (Hrc.out.here b hb).2.2))
  obtain ⟨x0, x1, x2, x3, x4, x5, x6, x7, x8, x9, x10, x11, x12, x13, x14, x15, xz⟩ := plancells hqX
  obtain ⟨v0, v1, v2, v3, v4, v5, v6, v7, v8, v9, v10, v11, v12, v13, v14, v15, vz⟩ := plancells hPX
  obtain ⟨y0, y1, y2, y3, y4, y5, y6, y7, y8, y9, y10, y11, y12, y13, y14, y15⟩ := planfree hPX
  have er : X.cell? ⟨w.heap.size + 3, 0, none⟩ = some (.int .i64 0) := hEX.cell 0
  have ef := hEX.frozen 0
  have HX := Lib.hid hX
  have HPX := Lib.hid hPX
  have HEX := Lib.hid hEX
  have HBX := Lib.hid hBX
  have HRX := Lib.hid hRX
  clear g0 g1 g2 hX hPX hEX hqX hBX hBy hRX hoX hbX
  obtain ⟨T, hT⟩ : ∃ T, (putL X (w.heap.size + 2) 0 (planL S M a i cap l (some ⟨bd, 0, none⟩) i i)).setCell ⟨w.heap.size + 3, 0, none⟩ (.int .i64 0) = T := ⟨_, rfl⟩
  obtain ⟨t1, t2, t3, t4, t5⟩ := endYes HPX.out HEX.out hT
  have hBT := HBX.out.trans t3
  have hdT : RowIs T bd (rowA i fun j => (d j : Int)) 3 := (t5 _ (by omega) (by omega)).trans HX.out
  have hRT := HRX.out.kept (w' := T) (by omega) fun b hb => t5 b (by have := (HRX.out.here b hb).2.1; have := HEU.out.lt; omega) (by have := (HRX.out.here b hb).2.1; have := HEU.out.lt; omega)
  simp only [putL, planL, Nat.reduceAdd] at hT
  have Ht1 := Lib.hid t1
  have Ht2 := Lib.hid t2
  have HBT := Lib.hid hBT
  have HdT := Lib.hid hdT
  have HRT := Lib.hid hRT
  clear t1 t2 t3 t4 t5 hBT hdT hRT
  go_wp2_with fail
  refine Recs.leaves HRT.out fun w' hb' hk' => ?_
  have x1 : RowIs w' (w.heap.size + 2) (planRow S M a i cap l (some ⟨bd, 0, none⟩) i i) 56 := hk' _ _ (fun _ h => by cases h) Ht1.out
  have x2 : RowIs w' (w.heap.size + 3) #[.int .i64 0] 29 := hk' _ _ (fun _ h => by cases h) Ht2.out
  have x3 : RowIs w' bd (rowA i fun j => (d j : Int)) 3 := hk' _ _ (fun _ h => by cases h) HdT.out
  obtain ⟨q0, q1, q2, q3, q4, q5, q6, q7, q8, q9, q10, q11, q12, q13, q14, q15, qz⟩ := plancells x1
  have er2 : w'.cell? ⟨w.heap.size + 3, 0, none⟩ = some (.int .i64 0) := x2.cell 0
  exact ⟨.tuple #[planV S M a i cap l (some ⟨bd, 0, none⟩) i i, .int .i64 0], by simp [results, go_sem, q0, q1, q2, q3, q4, q5, q6, q7, q8, q9, q10, q11, q12, q13, q14, q15, er2], HBT.out.trans (hb'.mono HBU.out.size), .inl ⟨Hfr.out, bd, rfl, x3, by have := hBr.size; omega⟩⟩

theorem newPlan_fin (S M : Int) (a : Option Addr) (i cap : Nat) (f : Nat → W2) (l : Nat → Int) (da : Option Addr) (dcap : Nat) (d : Nat → Nat) (w U wr : World) (z : Nat) (ds : List Nat) (u8 u9 u37 u38 u39 u40 u41 u42 u51 : Value) (hn14 : i ≤ 14) (hBU : Below w.heap.size w U) (hBr : Below w.heap.size w wr) (hbr : Below U.heap.size U wr)
    (hPU : RowIs U (w.heap.size + 2) (planRow 0 0 none 0 0 (fun _ => 0) none 0 0) 56) (hEU : RowIs U (w.heap.size + 3) #[.int .i64 0] 29) (hDU : RowIs U (w.heap.size + 1) #[.slice da i dcap] 25) (hRr : RowIs wr z (deskRow S M a i cap l) 47) (hrc : Recs U.heap.size ds wr) (hd : Ints w da i fun j => (d j : Int)) (hfr : allFree f i d i = true)
    (K : Act → World → Prop) (hK : ∀ a' w', Code.wp Tryz.prog (ctl planTail) (bodyPostM Fence.wide 1 Tryz.prog (Tryz.f34) fun e w' => Below w.heap.size w w' ∧ ((allFree f i d i = true ∧ ∃ b, e = .returned (.tuple #[planV S M a i cap l (some ⟨b, 0, none⟩) i i, .int .i64 0]) ∧ RowIs w' b (rowA i fun j => (d j : Int)) 3 ∧ w.heap.size ≤ b) ∨ (allFree f i d i = false ∧ e = .returned (.tuple #[noPlanV, .int .i64 18])))) a' w' → K a' w') :
    Code.wp Tryz.prog (chd planTail) (Exit.then K (bodyPostM Fence.wide 1 Tryz.prog (Tryz.f34) fun e w' => Below w.heap.size w w' ∧ ((allFree f i d i = true ∧ ∃ b, e = .returned (.tuple #[planV S M a i cap l (some ⟨b, 0, none⟩) i i, .int .i64 0]) ∧ RowIs w' b (rowA i fun j => (d j : Int)) 3 ∧ w.heap.size ≤ b) ∨ (allFree f i d i = false ∧ e = .returned (.tuple #[noPlanV, .int .i64 18]))))) { tmps := #[bookV S M a i cap, .slice da i dcap, .pointer (some ⟨w.heap.size, 0, none⟩), .pointer (some ⟨w.heap.size + 1, 0, none⟩), .pointer (some ⟨w.heap.size + 1 + 1, 0, none⟩), .pointer (some ⟨w.heap.size + 1 + 1 + 1, 0, none⟩), .pointer (some ⟨z, 0, none⟩), .int .i64 0, u8, u9, undef, undef, .tuple #[deskV S M a i cap l, .int .i64 0], .agg #[.int .i64 S, .int .i64 M, .slice a i cap], .tuple #[deskV S M a i cap l, .int .i64 0], deskV S M a i cap l, .int .i64 0, .int .i64 0, .bool false, undef, undef, .slice da i dcap, .int .i64 i, .pointer (some ⟨z, 0, none⟩), .pointer (some ⟨z, 2, none⟩), .slice a i cap, .int .i64 i, .bool false, undef, .slice da i dcap, .bool true, .bool false, undef, .slice da i dcap, .int .i64 i, .int .i64 i, .bool false, u37, u38, u39, u40, u41, u42, undef, undef, undef, undef, undef, undef, undef, undef, u51, undef, undef, undef, undef, undef, undef, undef, undef, undef, undef], defers := coll ds } wr :=
  newPlan_16 S M a i cap l da dcap w wr z ds u8 u9 u37 u38 u39 u40 u41 u42 u51 hn14 ((hbr.block _ hDU.lt).trans hDU) hRr _ K fun bd bp y h1 h2 h3 h4 => hK _ _ (newPlan_17 S M a i cap f l da dcap d w U wr z ds u8 u9 u37 u38 u39 u40 u41 u42 u51 hn14 bd bp y hBU hBr hbr hPU hEU hDU hrc hd hfr h1 h2 h3 h4)

set_option maxRecDepth 100000 in
set_option maxHeartbeats 16000000 in
theorem newPlan_c (S M : Int) (a : Option Addr) (n cap : Nat) (f : Nat → W2) (da : Option Addr) (dcap : Nat) (d : Nat → Nat) (w : World) (hf : Wants w a n f) (hn : n ≤ 1048576) (hE : bookE S M n f = 0) (hd : Ints w da n fun i => (d i : Int)) (hw : withinB 0 13 (fun i => (d i : Int)) n = true) :
    Calls Tryz.prog 34 #[bookV S M a n cap, .slice da n dcap] w fun e w' => Below w.heap.size w w' ∧ ((allFree f n d n = true ∧ ∃ b, e = .returned (.tuple #[planV S M a n cap (bookL f n) (some ⟨b, 0, none⟩) n n, .int .i64 0]) ∧ RowIs w' b (rowA n fun i => (d i : Int)) 3 ∧ w.heap.size ≤ b) ∨ (allFree f n d n = false ∧ e = .returned (.tuple #[noPlanV, .int .i64 18]))) := by
  have Hfw := Lib.hid hf
  obtain ⟨W, hW⟩ : ∃ W, (((w.alloc (.cells #[.int .i64 S, .int .i64 M, .slice a n cap] 24)).alloc (.cells #[.slice da n dcap] 25)).alloc (.cells (planRow 0 0 none 0 0 (fun _ => 0) none 0 0) 56)).alloc (.cells #[.int .i64 0] 29) = W := ⟨_, rfl⟩
  have hB : Below w.heap.size w W := by rw [← hW]; exact Below.alloc1 (Below.alloc1 (Below.alloc1 (Below.alloc1 (Below.refl _ _) _ (Nat.le_refl _)) _ (Nat.le_refl _)) _ (Nat.le_refl _)) _ (Nat.le_refl _)
  have hR : RowIs W w.heap.size #[.int .i64 S, .int .i64 M, .slice a n cap] 24 := by rw [← hW]; exact RowIs.alloc (RowIs.alloc (RowIs.alloc (heap_new_at _ _ _ rfl) _) _) _
  have hD : RowIs W (w.heap.size + 1) #[.slice da n dcap] 25 := by rw [← hW]; exact RowIs.alloc (RowIs.alloc (heap_new_at _ _ _ (by simp)) _) _
  have hP : RowIs W (w.heap.size + 2) (planRow 0 0 none 0 0 (fun _ => 0) none 0 0) 56 := by rw [← hW]; exact RowIs.alloc (heap_new_at _ _ _ (by simp)) _
  have hEr : RowIs W (w.heap.size + 3) #[.int .i64 0] 29 := by rw [← hW]; exact heap_new_at _ _ _ (by simp)
  have r0 : W.cell? ⟨w.heap.size, 0, none⟩ = some (.int .i64 S) := RowIs.cell hR 0
  have r1 : W.cell? ⟨w.heap.size, 1, none⟩ = some (.int .i64 M) := RowIs.cell hR 1
  have r2 : W.cell? ⟨w.heap.size, 2, none⟩ = some (.slice a n cap) := RowIs.cell hR 2
  have rz := hR.lt
  have HD := Lib.hid hD
  have HP := Lib.hid hP
  have HEr := Lib.hid hEr
  have HfW := Lib.hid (hf.below hB)
  have HB := Lib.hid hB
  clear hR hD hP hEr hf hB
  simp only [planRow] at hW
  have hn14 := (book_good hE).2.2.1
  have hc := newDesk_yes_c S M a n cap f W HfW.out hn hE
  obtain ⟨l, hl⟩ : ∃ l, bookL f n = l := ⟨_, rfl⟩
  rw [hl] at hc ⊢
  have HC := Lib.hid hc
  have t0 : ((n : Int) != (n : Int)) = false := by simp
  have HdW := Lib.hid hd
  have Hf0 := Lib.hid HfW.out
  clear hc hl hd
  refine (callsIn_wide (n := 1)).1 ?_
  refine callsIn_of_wp_marks Tryz.func34 rfl trivial ?_ rfl
  simp only [Tryz.ntmps34, List.size_toArray, List.length_cons, List.length_nil, Nat.reduceAdd, Nat.reduceSub, Array.replicate_succ, Array.replicate_zero, List.push_toArray, List.append_toArray, List.nil_append, List.cons_append]
  refine wpIn_wide.2 ?_
  go_wp2_with fail
  refine HC.out.mono ?_
  rintro e w1 ⟨rfl, hb1⟩
  obtain ⟨V, U, z, hN⟩ := newDesk w1 S M a n cap l
  have hV := hN.made
  have hz := hN.size
  have hU := hN.stored
  simp only [putL, deskL, Nat.reduceAdd] at hU
  obtain ⟨f0, f1, f2, f3, f4, f5, f6, f7, f8, f9, f10, f11, f12, f13, f14⟩ := deskfree hN.zero
  obtain ⟨e0, e1, e2, e3, e4, e5, e6, e7, e8, e9, e10, e11, e12, e13, e14, ez⟩ := deskcells hN.zero
  obtain ⟨c0, c1, c2, c3, c4, c5, c6, c7, c8, c9, c10, c11, c12, c13, c14, cz⟩ := deskcells hN.row
  have hBU := bup HB.out (hb1.trans (hN.below.mono hb1.size))
  have HDU := Lib.hid ((HD.out.below hb1).below hN.below)
  have HPU := Lib.hid ((HP.out.below hb1).below hN.below)
  have HEU := Lib.hid ((HEr.out.below hb1).below hN.below)
  have dk : U.cell? ⟨w.heap.size + 1, 0, none⟩ = some (.slice da n dcap) := HDU.out.cell 0
  have dz := HDU.out.lt
  have HRow := Lib.hid hN.row
  have HfU := Lib.hid ((HfW.out.below hb1).below hN.below)
  have HBU := Lib.hid hBU
  have hwz : w.heap.size + 3 < z := by have := (HEr.out.below hb1).lt; omega
  clear hN hW r0 r1 r2 rz hb1 HD HP HEr HfW HB hBU
  have k1 := within_c 0 13 da n dcap (fun i => (d i : Int)) U (Cells.below HdW.out HBU.out) hn
  rw [hw] at k1
  have K1 := Lib.hid k1
  clear k1
  go_wp2_with fail
  refine K1.out.mono ?_
  rintro e w2 ⟨rfl, rfl⟩
  clear hU hV f0 f1 f2 f3 f4 f5 f6 f7 f8 f9 f10 f11 f12 f13 f14 e0 e1 e2 e3 e4 e5 e6 e7 e8 e9 e10 e11 e12 e13 e14 ez c0 c1 c2 c3 c4 c5 c6 c7 c8 c9 c10 c11 c12 c13 c14 cz
  go_wp2_with fail
  refine (wpIn_wide (n := 1)).1 ?_
  refine wpIn_loop (fun a' wr => ∃ (i : Nat) (ds : List Nat) (u8 u9 u36 u37 u38 u39 u40 u41 u42 u51 : Value), i ≤ n ∧ a' = { tmps := #[bookV S M a n cap, .slice da n dcap, .pointer (some ⟨w.heap.size, 0, none⟩), .pointer (some ⟨w.heap.size + 1, 0, none⟩), .pointer (some ⟨w.heap.size + 1 + 1, 0, none⟩), .pointer (some ⟨w.heap.size + 1 + 1 + 1, 0, none⟩), .pointer (some ⟨z, 0, none⟩), .int .i64 0, u8, u9, undef, undef, .tuple #[deskV S M a n cap l, .int .i64 0], .agg #[.int .i64 S, .int .i64 M, .slice a n cap], .tuple #[deskV S M a n cap l, .int .i64 0], deskV S M a n cap l, .int .i64 0, .int .i64 0, .bool false, undef, undef, .slice da n dcap, .int .i64 n, .pointer (some ⟨z, 0, none⟩), .pointer (some ⟨z, 2, none⟩), .slice a n cap, .int .i64 n, .bool false, undef, .slice da n dcap, .bool true, .bool false, undef, .slice da n dcap, .int .i64 n, .int .i64 i, u36, u37, u38, u39, u40, u41, u42, undef, undef, undef, undef, undef, undef, undef, undef, u51, undef, undef, undef, undef, undef, undef, undef, undef, undef, undef], defers := coll ds } ∧ Below U.heap.size U wr ∧ Recs U.heap.size ds wr ∧ allFree f n d i = true) (fun a' _ => n - (intOf (a'.tmps.getD 35 undef)).toNat) ?start ?round
  case start => exact ⟨0, [], undef, undef, undef, undef, undef, undef, undef, undef, undef, undef, Nat.zero_le _, rfl, Below.refl _ _, recs_nil _ _, rfl⟩
  case round =>
    rintro a' wr ⟨i, ds, u8, u9, u36, u37, u38, u39, u40, u41, u42, u51, hi, rfl, hbr, hrc, hfr⟩
    have hBr := HBU.out.trans (hbr.mono HBU.out.size)
    have hRr := HRow.out.below hbr
    have Hrc := Lib.hid hrc
    have Hfr := Lib.hid hfr
    clear hrc hfr
    by_cases hlt : i < n
    · obtain ⟨b, off, rfl, hbs, hc⟩ := Cells.at (Cells.below HdW.out hBr) i hlt
      have ci : wr.cell? ⟨b, off + i, none⟩ = some (.int .i64 (d i : Int)) := hc i hlt
      obtain ⟨di, hdi⟩ : ∃ di, d i = di := ⟨_, rfl⟩
      rw [hdi] at ci
      obtain ⟨T, hT⟩ : ∃ T, wr.alloc (.cells #[.int .i64 0] 3) = T := ⟨_, rfl⟩
      obtain ⟨s, hs⟩ : ∃ s, wr.heap.size = s := ⟨_, rfl⟩
      have hTr : RowIs T s #[.int .i64 0] 3 := by rw [← hT, ← hs]; exact heap_new_at _ _ _ rfl
      have hTb : Below s wr T := by rw [← hT, ← hs]; exact Below.alloc1 (Below.refl _ _) _ (Nat.le_refl _)
      have tc : T.cell? ⟨s, 0, none⟩ = some (.int .i64 0) := hTr.cell 0
      have tf := hTr.frozen 0
      obtain ⟨X, hX⟩ : ∃ X, T.setCell ⟨s, 0, none⟩ (.int .i64 di) = X := ⟨_, rfl⟩
      have hXr : RowIs X s #[.int .i64 di] 3 := by rw [← hX]; exact RowIs.set hTr 0 (.int .i64 di)
      have hXb : Below s wr X := by rw [← hX]; exact hTb.setCell (p := ⟨s, 0, none⟩) (Nat.le_refl _) _
      have hXz : X.heap.size = s + 1 := by rw [← hX, ← hT]; simp [World.setCell, hs]
      obtain ⟨c0, c1, c2, c3, c4, c5, c6, c7, c8, c9, c10, c11, c12, c13, c14, cz⟩ := deskcells ((hXb.block z (by have := hRr.lt; omega)).trans hRr : RowIs X z _ _)
      have hBX : Below U.heap.size U X := hbr.trans (hXb.mono (by rw [← hs]; exact hbr.size))
      have hcl := clashes_c S M a n cap f l i X (HfU.out.below hBX) hlt hn
      have HCL := Lib.hid hcl
      have HXr := Lib.hid hXr
      have HXb := Lib.hid hXb
      have HBX := Lib.hid hBX
      have Hbr := Lib.hid hbr
      have HRr := Lib.hid hRr
      clear hc hTr hTb hXr hXb hBX hcl hbr hRr hBr
      gi_wp2_with fail
      refine ⟨trivial, (callsIn_wide.2 HCL.out).mono ?_⟩
      rintro e Y ⟨rfl, hY⟩
      have hYb : Below (s + 1) X Y := by rw [← hY, ← hXz]; exact Below.alloc1 (Below.alloc1 (Below.alloc1 (Below.refl _ _) _ (Nat.le_refl _)) _ (Nat.le_refl _)) _ (Nat.le_refl _)
      have hD2 : RowIs Y (s + 1) (deskRow S M a n cap l) 47 := by rw [← hY, ← hXz]; exact RowIs.alloc (RowIs.alloc (heap_new_at _ _ _ rfl) _) _
      have hI2 : RowIs Y (s + 1 + 1) #[.int .i64 i] 3 := by rw [← hY, ← hXz]; exact RowIs.alloc (heap_new_at _ _ _ (by simp)) _
      have hO2 : RowIs Y (s + 1 + 2) #[.int .i64 (f i).s, .int .i64 (f i).m] 77 := by rw [← hY, ← hXz]; exact heap_new_at _ _ _ (by simp)
      have hzY : Y.heap.size = s + 4 := by rw [← hY]; simp [hXz]
      rw [hXz]
      have hUs : U.heap.size ≤ s := by rw [← hs]; exact Hbr.out.size
      have hBY : Below U.heap.size U Y := HBX.out.trans (hYb.mono (by omega))
      have hG := clashes_gives S M a n cap f l i (s + 1) Y (HfU.out.below hBY) hlt hn hD2 hI2 hO2
      have hKk : ∀ k, clashK a (s + 1) k → k < Y.heap.size := fun k hk => by
        rcases hk with rfl | rfl | rfl | ⟨o, ho⟩
        · omega
        · omega
        · omega
        · obtain ⟨b', o', he, hbs', -⟩ := Wants.at HfU.out i hlt
          rw [ho] at he
          cases he
          omega
      have hYs : RowIs Y s #[.int .i64 di] 3 := (hYb.block s (by omega)).trans HXr.out
      have hrY : Recs U.heap.size ds Y := Hrc.out.below (by rw [hs]; exact HXb.out.trans (hYb.mono (by omega)))
      have HG := Lib.hid hG
      have HzY := Lib.hid hzY
      have HBY := Lib.hid hBY
      have HYs := Lib.hid hYs
      have HrY := Lib.hid hrY
      have HXz := Lib.hid hXz
      have Hs := Lib.hid hs
      clear hY hYb hD2 hI2 hO2 hG hzY hBY hYs hrY hT hX tc tf c0 c1 c2 c3 c4 c5 c6 c7 c8 c9 c10 c11 c12 c13 c14 cz ci HCL hXz HXr HXb HBX hs
      gi_wp2_with fail
      have hLk : ∀ j (hj : j < ((clashL f i n).map fun q : Nat => #[Value.int .i64 (q : Int)]).length), ((clashL f i n).map fun q : Nat => #[Value.int .i64 (q : Int)])[j] = #[Value.int .i64 ((clashL f i n).getD j 0 : Nat)] := fun j hj => by
        have hj' : j < (clashL f i n).length := by simpa using hj
        simp [List.getD, hj']
      refine wpIn_rangeL (gf := 82) (first := #[]) (lb := #[.pointer (some ⟨s + 1, 0, none⟩), .pointer (some ⟨s + 1 + 1, 0, none⟩), .pointer (some ⟨s + 1 + 2, 0, none⟩)]) rfl (enters_of Tryz.func82 (by kernel_rfl) rfl) HG.out hKk (fun k hk => by rw [hLk k hk]; rfl)
        (fun j A => Below U.heap.size U A ∧ s + 4 ≤ A.heap.size ∧ RowIs A s #[.int .i64 di] 3 ∧ Recs U.heap.size ds A ∧ ((clashL f i n).take j).all (fun o => !decide (d o = di)) = true)
        (fun cd _ A => cd = .ret ∧ Below w.heap.size w A ∧ RowIs A (w.heap.size + 2) (planRow 0 0 none 0 0 (fun _ => 0) none 0 0) 56 ∧ RowIs A (w.heap.size + 3) #[.int .i64 18] 29 ∧ Recs U.heap.size ds A ∧ freeB f n d i = false)
        (fun j A B hA hAB => by
          have h1 := HzY.out
          refine ⟨hA.1.trans (hAB.mono (by omega)), Nat.le_trans hA.2.1 hAB.size, (hAB.block _ (by omega)).trans hA.2.2.1, hA.2.2.2.1.kept hAB.size (fun q hq => hAB.block q (by have := (HrY.out.here q hq).2.2; omega)), hA.2.2.2.2⟩)
        (fun cd k A B hA hAB => by
          have h1 := HzY.out
          have h2 := HEU.out.lt
          refine ⟨hA.1, hA.2.1.trans (hAB.mono (by have := HBU.out.size; omega)), (hAB.block _ (by omega)).trans hA.2.2.1, (hAB.block _ (by omega)).trans hA.2.2.2.1, hA.2.2.2.2.1.kept hAB.size (fun q hq => hAB.block q (by have := (HrY.out.here q hq).2.2; omega)), hA.2.2.2.2.2⟩)
        ⟨HBY.out, Nat.le_of_eq HzY.out.symm, HYs.out, HrY.out, by simp⟩
        (fun j a' A => a' = { tmps := #[bookV S M a n cap, .slice (some ⟨b, off, none⟩) n dcap, .pointer (some ⟨w.heap.size, 0, none⟩), .pointer (some ⟨w.heap.size + 1, 0, none⟩), .pointer (some ⟨w.heap.size + 1 + 1, 0, none⟩), .pointer (some ⟨w.heap.size + 1 + 1 + 1, 0, none⟩), .pointer (some ⟨z, 0, none⟩), .int .i64 0, .int .i64 i, .pointer (some ⟨s, 0, none⟩), .int .i64 ((clashL f i n).getD j 0 : Nat), undef, .tuple #[deskV S M a n cap l, .int .i64 0], .agg #[.int .i64 S, .int .i64 M, .slice a n cap], .tuple #[deskV S M a n cap l, .int .i64 0], deskV S M a n cap l, .int .i64 0, .int .i64 0, .bool false, undef, undef, .slice (some ⟨b, off, none⟩) n dcap, .int .i64 n, .pointer (some ⟨z, 0, none⟩), .pointer (some ⟨z, 2, none⟩), .slice a n cap, .int .i64 n, .bool false, undef, .slice (some ⟨b, off, none⟩) n dcap, .bool true, .bool false, undef, .slice (some ⟨b, off, none⟩) n dcap, .int .i64 n, .int .i64 i, .bool true, .int .i64 i, .pointer (some ⟨b, off + i, none⟩), .int .i64 di, deskV S M a n cap l, .int .i64 i, .func (.func 82) #[] #[.pointer (some ⟨s + 1, 0, none⟩), .pointer (some ⟨s + 1 + 1, 0, none⟩), .pointer (some ⟨s + 1 + 2, 0, none⟩)], .int .i64 ((clashL f i n).getD j 0 : Nat), undef, undef, undef, undef, undef, undef, undef, u51, undef, undef, undef, undef, undef, undef, undef, undef, undef, undef], defers := [] })
        (fun k a' A o hA => hA)
        ?assign ?body ?done ?stop
      case assign =>
        intro lx j hj A Tx hA hI hTx
        rw [hLk j hj]
        obtain ⟨x, hx⟩ : ∃ x, (clashL f i n).getD j 0 = x := ⟨_, rfl⟩
        rw [hx] at hTx ⊢
        clear hLk
        gi_wp2
        exact hTx _ _ (Below.refl _ _) rfl
      case body =>
        rintro lx j hj a' A hA ⟨i1, i2, i3, i4, i5⟩ rfl
        have hj' : j < (clashL f i n).length := by simpa using hj
        have hxe : (clashL f i n).getD j 0 = (clashL f i n)[j] := by simp [List.getD, hj']
        have htk : (clashL f i n).take (j + 1) = (clashL f i n).take j ++ [(clashL f i n)[j]] := List.take_succ_eq_append_getElem hj'
        have hmem : (clashL f i n)[j] ∈ clashL f i n := List.getElem_mem hj'
        obtain ⟨x, hxx⟩ : ∃ x, (clashL f i n)[j] = x := ⟨_, rfl⟩
        rw [hxx] at hxe htk hmem
        rw [hxe]
        have hxn : x < n := (clashL_mem.1 hmem).1
        have hBA := HBU.out.trans (i1.mono HBU.out.size)
        have l1 : A.cell? ⟨w.heap.size + 1, 0, none⟩ = some (.slice (some ⟨b, off, none⟩) n dcap) := RowIs.cell ((i1.block _ HDU.out.lt).trans HDU.out : RowIs A (w.heap.size + 1) #[.slice (some ⟨b, off, none⟩) n dcap] 25) 0
        obtain ⟨b', off', he, hbA, hc⟩ := Cells.at (Cells.below HdW.out hBA) x hxn
        cases he
        have cx : A.cell? ⟨b, off + x, none⟩ = some (.int .i64 (d x : Int)) := hc x hxn
        have cs : A.cell? ⟨s, 0, none⟩ = some (.int .i64 di) := i3.cell 0
        have q1 : w.heap.size + 1 < A.heap.size := Nat.lt_of_lt_of_le HDU.out.lt i1.size
        have q2 := i3.lt
        obtain ⟨dx, hdx⟩ : ∃ dx, d x = dx := ⟨_, rfl⟩
        rw [hdx] at cx
        have Hdx := Lib.hid hdx
        have I1 := Lib.hid i1
        have I3 := Lib.hid i3
        have I4 := Lib.hid i4
        have I5 := Lib.hid i5
        have HT := Lib.hid htk
        have HM := Lib.hid hmem
        have HBA := Lib.hid hBA
        have hlc := fun (x : Later A) => later_cell x
        clear i1 i3 i4 i5 htk hxe hxx hLk hmem hc hBA hdx
        gi_wp2_with fail
        refine wpIn_region_later_tailR 5 (by kernel_rfl) (by kernel_rfl) (by kernel_rfl) (by rintro ⟨_, _, h⟩; exact h) ?_
        simp only [List.take_succ_cons, List.take_zero, List.drop_succ_cons, List.drop_zero]
        repeat (go_big_quiet_step (fail))
        refine wpQuiet_nil ?_
        clear hlc cx cs l1
        rintro ⟨A7, hb7⟩
        have Hb7 := Lib.hid hb7
        dsimp only
        clear hb7
        cases hb : decide (dx = di) with
        | false =>
          have hbi : ((dx : Int) == (di : Int)) = false := by have := of_decide_eq_false hb; simp; omega
          go_wp2_with (fail)
          gi_wp2_with fail
          refine ⟨Spares.of_below Hb7.out, I1.out.trans (Hb7.out.mono I1.out.size), Nat.le_trans i2 Hb7.out.size, I3.out.below Hb7.out, I4.out.below Hb7.out, ?_⟩
          rw [HT.out, List.all_append, I5.out]
          simp [Hdx.out, of_decide_eq_false hb]
        | true =>
          have hbi : ((dx : Int) == (di : Int)) = true := by have := of_decide_eq_true hb; simp; omega
          have hPA : RowIs A7 (w.heap.size + 2) (planRow 0 0 none 0 0 (fun _ => 0) none 0 0) 56 := RowIs.below ((I1.out.block _ HPU.out.lt).trans HPU.out : RowIs A (w.heap.size + 2) _ _) Hb7.out
          have hEA : RowIs A7 (w.heap.size + 3) #[.int .i64 0] 29 := RowIs.below ((I1.out.block _ HEU.out.lt).trans HEU.out : RowIs A (w.heap.size + 3) _ _) Hb7.out
          obtain ⟨p0, p1, p2, p3, p4, p5, p6, p7, p8, p9, p10, p11, p12, p13, p14, p15, pz⟩ := plancells hPA
          obtain ⟨g0, g1, g2, g3, g4, g5, g6, g7, g8, g9, g10, g11, g12, g13, g14, g15⟩ := planfree hPA
          have er : A7.cell? ⟨w.heap.size + 3, 0, none⟩ = some (.int .i64 0) := hEA.cell 0
          have ef := hEA.frozen 0
          have HPA := Lib.hid hPA
          have HEA := Lib.hid hEA
          clear hPA hEA
          go_wp2_with (fail)
          gi_wp2_with fail
          have hUlt := HEU.out.lt
          have hYz := HzY.out
          obtain ⟨X2, hX2⟩ : ∃ X2, (putL A7 (w.heap.size + 2) 0 (planL 0 0 none 0 0 (fun _ => 0) none 0 0)).setCell ⟨w.heap.size + 3, 0, none⟩ (.int .i64 18) = X2 := ⟨_, rfl⟩
          obtain ⟨x1, x2, x3⟩ := endNo HPA.out HEA.out hX2
          have hsz : X2.heap.size = A7.heap.size := by rw [← hX2]; simp [World.setCell, putL_size]
          have hot : ∀ k, k ≠ w.heap.size + 2 → k ≠ w.heap.size + 3 → X2.heap[k]? = A7.heap[k]? := fun k h1 h2 => by rw [← hX2]; exact (Below.heap_setCell _ _ _ _ h2).trans (putL_other h1)
          have key : Spares (clashK a (s + 1)) Y.heap.size A X2 ∧ (Code.ret = Code.ret ∧ Below w.heap.size w X2 ∧ RowIs X2 (w.heap.size + 2) (planRow 0 0 none 0 0 (fun _ => 0) none 0 0) 56 ∧ RowIs X2 (w.heap.size + 3) #[.int .i64 18] 29 ∧ Recs U.heap.size ds X2 ∧ freeB f n d i = false) := by
            refine ⟨⟨by have := Hb7.out.size; omega, fun k hk hK => ?_⟩, rfl, (HBA.out.trans (Hb7.out.mono HBA.out.size)).trans x3, x1, x2, ?_, ?_⟩
            · have hne : k ≠ w.heap.size + 2 ∧ k ≠ w.heap.size + 3 := by
                rcases hK with hK | hK
                · rcases hK with rfl | rfl | rfl | ⟨o, ho⟩
                  · omega
                  · omega
                  · omega
                  · obtain ⟨b', o', he, hbs', -⟩ := Wants.at Hfw.out i hlt
                    rw [ho] at he
                    cases he
                    omega
                · omega
              exact (hot k hne.1 hne.2).trans (Hb7.out.block k hk)
            · exact (I4.out.below Hb7.out).kept (by omega) fun q hq => hot q (by have := (I4.out.here q hq).2.1; omega) (by have := (I4.out.here q hq).2.1; omega)
            · have hdd := of_decide_eq_true hb
              have hdx := Hdx.out
              have hm := HM.out
              cases h2 : freeB f n d i with
              | false => rfl
              | true =>
                have := (List.all_eq_true.1 h2) x hm
                simp [hdx, hdd, hdi] at this
          rw [← hX2] at key
          exact key
      case done =>
        rintro B hBz ⟨i1, i2, i3, i4, i5⟩ hK
        have eL : (clashL f i n).take ((clashL f i n).map fun q : Nat => #[Value.int .i64 (q : Int)]).length = clashL f i n := by simp
        rw [eL] at i5
        have I1 := Lib.hid i1
        have I4 := Lib.hid i4
        have I5 := Lib.hid i5
        have HK := Lib.hid hK
        clear i1 i3 i4 i5 hK eL hLk
        have hw1 : IntKind.i64.wrap ((i : Int) + 1) = (i : Int) + 1 := IntWalk.i64_in _ (by omega)
        dsimp only
        gi_wp2_with fail
        have hrm : Recs U.heap.size (Y.heap.size :: ds) B := I4.out.more (w := Y) rfl (fun q hq => (HrY.out.here q hq).2.2) HK.out (by have := HzY.out; omega)
        have hfr2 : freeB f n d i = true := by unfold freeB; rw [hdi]; exact I5.out
        refine ⟨⟨i + 1, Y.heap.size :: ds, _, _, _, _, _, _, _, _, _, _, by omega, rfl, I1.out, hrm, by rw [allFree, Hfr.out, hfr2]; rfl⟩, ?_⟩
        simp [intOf]
        omega
      case stop =>
        rintro cd k B hBz ⟨rfl, i1, i2, i3, i4, i5⟩ hK
        have I1 := Lib.hid i1
        have I2 := Lib.hid i2
        have I3 := Lib.hid i3
        have I4 := Lib.hid i4
        have HK := Lib.hid hK
        clear i1 i2 i3 i4 hK hLk
        dsimp only
        gi_wp2_with fail
        have hrm : Recs U.heap.size (Y.heap.size :: ds) B := I4.out.more (w := Y) rfl (fun q hq => (HrY.out.here q hq).2.2) HK.out (by have := HzY.out; omega)
        have hno := allFree_no (n := n) i n hlt i5
        refine Recs.leaves hrm fun w' hb' hk' => ?_
        have x1 : RowIs w' (w.heap.size + 2) (planRow 0 0 none 0 0 (fun _ => 0) none 0 0) 56 := hk' _ _ (fun _ h => by cases h) I2.out
        have x2 : RowIs w' (w.heap.size + 3) #[.int .i64 18] 29 := hk' _ _ (fun _ h => by cases h) I3.out
        obtain ⟨q0, q1, q2, q3, q4, q5, q6, q7, q8, q9, q10, q11, q12, q13, q14, q15, qz⟩ := plancells x1
        have er : w'.cell? ⟨w.heap.size + 3, 0, none⟩ = some (.int .i64 18) := x2.cell 0
        exact ⟨.tuple #[noPlanV, .int .i64 18], by simp [results, Tryz.results34, go_sem, q0, q1, q2, q3, q4, q5, q6, q7, q8, q9, q10, q11, q12, q13, q14, q15, er], I1.out.trans (hb'.mono HBU.out.size), .inr ⟨hno, rfl⟩⟩
    · obtain rfl : i = n := by omega
      have Hbr := Lib.hid hbr
      have HRr := Lib.hid hRr
      obtain ⟨c0, c1, c2, c3, c4, c5, c6, c7, c8, c9, c10, c11, c12, c13, c14, cz⟩ := deskcells hRr
      have dkr : wr.cell? ⟨w.heap.size + 1, 0, none⟩ = some (.slice da i dcap) := RowIs.cell ((hbr.block _ HDU.out.lt).trans HDU.out : RowIs wr (w.heap.size + 1) #[.slice da i dcap] 25) 0
      clear hbr hRr
      refine wpIn_wide.2 ?_
      go_wp2_with fail
      exact newPlan_fin S M a i cap f l da dcap d w U wr z ds u8 u9 u37 u38 u39 u40 u41 u42 u51 hn14 HBU.out hBr Hbr.out HPU.out HEU.out HDU.out HRr.out Hrc.out HdW.out Hfr.out _ (by assumption)

end Go.Proofs.YtbjgbgchagfokaaGreat
