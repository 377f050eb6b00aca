/- For whatever arguments, the law MouldTurned returns true, and each argument reads behind the call as it read before. No condition. -/
import Derived.Shelf.Abstract
import Derived.Shelf.RegionOpen
import Derived.Deep.RegionHeld3
import Derived.Deep.CutRange
import Derived.Deep.DeepCutAuto
import Derived.Test.YtbjgbgchagfokaaProg
import Derived.Test.YtbjgbgchagfokaaBasaa
import Derived.Test.YtbjgbgchagfokaaBasaj
import Derived.Test.YtbjgbgchagfokaaQtuaa
import Derived.Test.YtbjgbgchagfokaaBasay
import Derived.Test.YtbjgbgchagfokaaBasaz
import Derived.Test.YtbjgbgchagfokaaBasao
import Derived.Test.YtbjgbgchagfokaaBasbb
import Derived.Test.YtbjgbgchagfokaaBasbc
import Derived.Test.YtbjgbgchagfokaaRows
import Derived.Test.YtbjgbgchagfokaaBasbd
import Derived.ProofKit
namespace Go.Proofs.Ytbjgbgchagfokaa
open Go Go.RowKit Go.Shelf


set_option maxRecDepth 100000 in
set_option maxHeartbeats 64000000 in
theorem law_turned_c (S M : Int) (a : Option Addr) (n cap : Nat) (f : Nat → W2) (xl xs xm : Int) (w : World) (hf : Wants w a n f) :
    Calls Try.prog 12 #[bookV S M a n cap, .int .u16 xl, .int .u16 xs, .int .u16 xm] w fun e w' => e = .returned (.bool true) ∧ Below w.heap.size w w' := by
  obtain ⟨W, hW⟩ : ∃ W, w.alloc (.cells #[.int .i64 S, .int .i64 M, .slice a n cap] 24) = W := ⟨_, rfl⟩
  have hB : Below w.heap.size w W := by rw [← hW]; exact Below.alloc1 (Below.refl _ _) _ (Nat.le_refl _)
  have hR : RowIs W w.heap.size #[.int .i64 S, .int .i64 M, .slice a n cap] 24 := by rw [← hW]; exact heap_new_at _ _ _ rfl
  have r0 : W.cell? ⟨w.heap.size, 0, none⟩ = some (.int .i64 S) := RowIs.cell hR 0
  have r1 : W.cell? ⟨w.heap.size, 1, none⟩ = some (.int .i64 M) := RowIs.cell hR 1
  have r2 : W.cell? ⟨w.heap.size, 2, none⟩ = some (.slice a n cap) := RowIs.cell hR 2
  have rz : w.heap.size < W.heap.size := hR.lt
  have HF := Lib.hid (hf.below hB)
  have HR := Lib.hid hR
  clear hR hf
  cases hE : decide (bookE S M n f = 0) with
  | false =>
    have HC := Lib.hid (fun (x : World) (h : Wants x a n f) => fine_c S M a n cap f x h)
    rw [hE] at HC
    clear hE
    go_enter Try.func12, Try.ntmps12
    go_wp2_with fail
    refine (HC.out _ HF.out).mono ?_
    rintro e w1 ⟨rfl, hb1⟩
    replace HR := Lib.hid (RowIs.below HR.out hb1)
    replace HF := Lib.hid (HF.out.below hb1)
    replace hB := bup hB hb1
    clear r0 r1 r2 rz hb1
    have r0 : w1.cell? ⟨w.heap.size, 0, none⟩ = some (.int .i64 S) := RowIs.cell HR.out 0
    have r1 : w1.cell? ⟨w.heap.size, 1, none⟩ = some (.int .i64 M) := RowIs.cell HR.out 1
    have r2 : w1.cell? ⟨w.heap.size, 2, none⟩ = some (.slice a n cap) := RowIs.cell HR.out 2
    have rz : w.heap.size < w1.heap.size := HR.out.lt
    go_wp2_with fail
    refine (works_c _).mono ?_
    rintro e wz ⟨rfl, hbz⟩
    go_wp2_with fail
    go_ret
    exact ⟨rfl, bup hB hbz⟩
  | true =>
    have HC := Lib.hid (fun (x : World) (h : Wants x a n f) => fine_c S M a n cap f x h)
    rw [hE] at HC
    have hE0 := of_decide_eq_true hE
    clear hE
    have hGB := book_good hE0
    obtain ⟨s, rfl⟩ : ∃ s : Nat, S = s := ⟨S.toNat, by have := hGB.1; omega⟩
    obtain ⟨m, rfl⟩ : ∃ m : Nat, M = m := ⟨M.toNat, by have := hGB.2.1; omega⟩
    have hs1 : 1 ≤ s ∧ s ≤ 6 := by have := hGB.1; omega
    have hm1 : 1 ≤ m ∧ m ≤ 6 := by have := hGB.2.1; omega
    have hn14 := hGB.2.2.1
    have hE2 := good_bookE (turn_good hGB)
    have HE := Lib.hid hE0
    have HE2 := Lib.hid hE2
    have HGB := Lib.hid hGB
    clear hE0 hE2 hGB
    go_enter Try.func12, Try.ntmps12
    go_wp2_with fail
    refine (HC.out _ HF.out).mono ?_
    rintro e w1 ⟨rfl, hb1⟩
    replace HR := Lib.hid (RowIs.below HR.out hb1)
    replace HF := Lib.hid (HF.out.below hb1)
    replace hB := bup hB hb1
    clear r0 r1 r2 rz hb1
    have r0 : w1.cell? ⟨w.heap.size, 0, none⟩ = some (.int .i64 s) := RowIs.cell HR.out 0
    have r1 : w1.cell? ⟨w.heap.size, 1, none⟩ = some (.int .i64 m) := RowIs.cell HR.out 1
    have r2 : w1.cell? ⟨w.heap.size, 2, none⟩ = some (.slice a n cap) := RowIs.cell HR.out 2
    have rz : w.heap.size < w1.heap.size := HR.out.lt
    clear HC
    obtain ⟨V, hV⟩ : ∃ V, w1.alloc (.cells #[.int .i64 0, .int .i64 0, .slice none 0 0] 24) = V := ⟨_, rfl⟩
    have hVb : Below w1.heap.size w1 V := by rw [← hV]; exact Below.alloc1 (Below.refl _ _) _ (Nat.le_refl _)
    have hVr : RowIs V w1.heap.size #[.int .i64 0, .int .i64 0, .slice none 0 0] 24 := by rw [← hV]; exact heap_new_at _ _ _ rfl
    have hVz : V.heap.size = w1.heap.size + 1 := by rw [← hV]; simp
    obtain ⟨U, hU⟩ : ∃ U, ((V.setCell ⟨w1.heap.size, 0, none⟩ (.int .i64 m)).setCell ⟨w1.heap.size, 1, none⟩ (.int .i64 s)).setCell ⟨w1.heap.size, 2, none⟩ (.slice none 0 0) = U := ⟨_, rfl⟩
    have hUr : RowIs U w1.heap.size #[.int .i64 m, .int .i64 s, .slice none 0 0] 24 := by
      rw [← hU]
      exact RowIs.set (RowIs.set (RowIs.set hVr 0 (.int .i64 m)) 1 (.int .i64 s)) 2 (.slice none 0 0)
    have hUb : Below w1.heap.size w1 U := by rw [← hU]; exact ((hVb.setCell (p := ⟨w1.heap.size, 0, none⟩) (Nat.le_refl _) _).setCell (p := ⟨w1.heap.size, 1, none⟩) (Nat.le_refl _) _).setCell (p := ⟨w1.heap.size, 2, none⟩) (Nat.le_refl _) _
    have hUz : U.heap.size = w1.heap.size + 1 := by rw [← hU]; simp [hVz]
    have z0 : V.cell? ⟨w1.heap.size, 0, none⟩ = some (.int .i64 0) := hVr.cell 0
    have z1 : V.cell? ⟨w1.heap.size, 1, none⟩ = some (.int .i64 0) := hVr.cell 1
    have z2 : V.cell? ⟨w1.heap.size, 2, none⟩ = some (.slice none 0 0) := hVr.cell 2
    have y0 := hVr.frozen 0
    have y1 := hVr.frozen 1
    have y2 := hVr.frozen 2
    have HUr := Lib.hid hUr
    have HUb := Lib.hid hUb
    have HUz := Lib.hid hUz
    clear hVb hVr hVz hUr hUb hUz
    go_wp2_with fail
    obtain ⟨b, hb⟩ : ∃ b, w1.heap.size = b := ⟨_, rfl⟩
    rw [hb] at HUr HUz HUb rz ⊢
    have Hb := Lib.hid hb
    clear hb hU hV z0 z1 z2 y0 y1 y2
    go_loopw [10] (fun v wr => ∃ (k : Nat) (u : Value), k ≤ n ∧ v = .int .i64 (k : Int) ∧ RowIs wr b #[.int .i64 m, .int .i64 s, u] 24 ∧ OwnW wr (b + 1) (turnW f) k u ∧ Below b w1 wr ∧ b + 1 ≤ wr.heap.size) (fun v _ => n - (intOf v).toNat)
    case atStart => exact ⟨0, _, Nat.zero_le _, rfl, HUr.out, World.ownsRow_nil _ _ _ _, HUb.out, Nat.le_of_eq HUz.out.symm⟩
    case round =>
      obtain ⟨k, u, hk, rfl, hr, ho, hBw, hz⟩ := hrel
      clear HUr HUb HUz
      have hw1 : IntKind.i64.wrap ((k : Int) + 1) = (k : Int) + 1 := IntWalk.i64_in _ (by omega)
      have hBw1 : Below w1.heap.size w1 wr := by rw [Hb.out]; exact hBw
      have v2 : wr.cell? ⟨w.heap.size, 2, none⟩ = some (.slice a n cap) := (hBw.cell (p := ⟨w.heap.size, 2, none⟩) rz).trans r2
      have Hr := Lib.hid hr
      have Ho := Lib.hid ho
      have HBw := Lib.hid hBw
      have HBw1 := Lib.hid hBw1
      have zb := hr.lt
      clear hr ho hBw hBw1
      by_cases hlt : k < n
      · skip
        obtain ⟨xb, xo, rfl, hxb, x00, x10⟩ := Wants.at HF.out k hlt
        obtain ⟨up, uc, rfl, -⟩ := Ho.out.wants
        rw [Hb.out] at hxb
        go_wp2_with fail
        have hFC : ∀ y, Below wr.heap.size wr y → Below b w1 y := fun y hy => HBw.out.trans (hy.mono (by omega))
        have Hvl := Lib.hid ((⟨rfl, rfl⟩ : (turnW f k).s = (f k).m ∧ (turnW f k).m = (f k).s))
        have fin : ∀ (bb : Nat) (y : World), Below wr.heap.size wr y → y.heap[bb]? = some (.cells #[.int .i64 ((f k).m), .int .i64 ((f k).s)] 58 (0, 0)) → ∃ v y', (Builtin.append_ #[22, 22] 22 #[.slice up k uc, .slice (some ⟨bb, 0, none⟩) 1 1]).run Try.prog y = .ok v y' ∧ RowIs y' b #[.int .i64 m, .int .i64 s, .slice up k uc] 24 ∧ OwnW y' (b + 1) (turnW f) (k + 1) v ∧ Below b w1 y' ∧ (b + 1) ≤ y'.heap.size := fun bb y hy1 hy2 => by
          have hOy := Ho.out.below hy1
          obtain ⟨v, y', hrun, ho', hgr⟩ := hOy.append (d := bb) (by rw [Hvl.out.1, Hvl.out.2]; exact hy2) (Nat.le_trans hz hy1.size) (by omega)
          have hlo : ∀ q, q < (b + 1) → (Value.slice up k uc).ownBlock ≠ some q := fun q hq e => by have := Ho.out.lt e; omega
          have hst : ∀ q, q < y.heap.size → (Value.slice up k uc).ownBlock ≠ some q → y'.heap[q]? = y.heap[q]? := fun q hq hn => hgr.block q hq (Ne.symm hn)
          have hBy := hFC y hy1
          have hzy := hy1.size
          exact ⟨v, y', hrun, (hst _ (by omega) (hlo _ (by omega))).trans (Hr.out.below hy1), ho', ⟨hgr.os.trans hBy.os, hgr.tape.trans hBy.tape, hgr.output.trans hBy.output, Nat.le_trans hBy.size hgr.size, fun q hq => (hst q (by have := hBy.size; omega) (hlo q (by omega))).trans (hBy.block q hq)⟩, Nat.le_trans (Nat.le_trans hz hy1.size) hgr.size⟩
        refine wp_region_runF (C := fun y => Below b w1 y) (fun y => Below wr.heap.size wr y) (by kernel_rfl) (stable_below wr) (Below.refl _ _) ?_
        change Run _ _ _ _ _ 19 _ _ _
        refine run_take (i := 0) (.pointer (some ⟨b, 2, none⟩)) rfl (by kernel_rfl) (by kernel_rfl) (by kernel_rfl) rfl hFC (fun y hy => by go_simp) ?_
        simp only [Act.put, List.getElem_toArray, List.getElem_cons_zero, List.setIfInBounds_toArray, List.set_cons_zero, List.set_cons_succ]
        refine run_take (i := 2) (.pointer (some ⟨w.heap.size, 2, none⟩)) rfl (by kernel_rfl) (by kernel_rfl) (by kernel_rfl) rfl hFC (fun y hy => by go_simp) ?_
        simp only [Act.put, List.getElem_toArray, List.getElem_cons_zero, List.getElem_cons_succ, List.setIfInBounds_toArray, List.set_cons_zero, List.set_cons_succ]
        refine run_take (i := 3) (.slice (some ⟨xb, xo, none⟩) n cap) rfl (by kernel_rfl) (by kernel_rfl) (by kernel_rfl) rfl hFC (fun y hy => by have c0 := (hy.cell (p := ⟨w.heap.size, 2, none⟩) rz).trans r2; go_simp) ?_
        simp only [Act.put, List.getElem_toArray, List.getElem_cons_zero, List.getElem_cons_succ, List.setIfInBounds_toArray, List.set_cons_zero, List.set_cons_succ]
        refine run_take (i := 4) (.int .i64 (k : Int)) rfl (by kernel_rfl) (by kernel_rfl) (by kernel_rfl) rfl hFC (fun y hy => by go_simp) ?_
        simp only [Act.put, List.getElem_toArray, List.getElem_cons_zero, List.getElem_cons_succ, List.setIfInBounds_toArray, List.set_cons_zero, List.set_cons_succ]
        refine run_take (i := 5) (.pointer (some ⟨xb, xo + k * 2, none⟩)) rfl (by kernel_rfl) (by kernel_rfl) (by kernel_rfl) rfl hFC (fun y hy => by go_simp) ?_
        simp only [Act.put, List.getElem_toArray, List.getElem_cons_zero, List.getElem_cons_succ, List.setIfInBounds_toArray, List.set_cons_zero, List.set_cons_succ]
        refine run_take (i := 6) (.pointer (some ⟨xb, xo + k * 2 + 1, none⟩)) rfl (by kernel_rfl) (by kernel_rfl) (by kernel_rfl) rfl hFC (fun y hy => by go_simp) ?_
        simp only [Act.put, List.getElem_toArray, List.getElem_cons_zero, List.getElem_cons_succ, List.setIfInBounds_toArray, List.set_cons_zero, List.set_cons_succ]
        refine run_take (i := 7) (.int .i64 (f k).m) rfl (by kernel_rfl) (by kernel_rfl) (by kernel_rfl) rfl hFC (fun y hy => by have c0 := (hy.cell (p := ⟨xb, xo + k * 2 + 1, none⟩) hxb).trans x10; go_simp) ?_
        simp only [Act.put, List.getElem_toArray, List.getElem_cons_zero, List.getElem_cons_succ, List.setIfInBounds_toArray, List.set_cons_zero, List.set_cons_succ]
        refine run_take (i := 8) (.pointer (some ⟨w.heap.size, 2, none⟩)) rfl (by kernel_rfl) (by kernel_rfl) (by kernel_rfl) rfl hFC (fun y hy => by go_simp) ?_
        simp only [Act.put, List.getElem_toArray, List.getElem_cons_zero, List.getElem_cons_succ, List.setIfInBounds_toArray, List.set_cons_zero, List.set_cons_succ]
        refine run_take (i := 9) (.slice (some ⟨xb, xo, none⟩) n cap) rfl (by kernel_rfl) (by kernel_rfl) (by kernel_rfl) rfl hFC (fun y hy => by have c0 := (hy.cell (p := ⟨w.heap.size, 2, none⟩) rz).trans r2; go_simp) ?_
        simp only [Act.put, List.getElem_toArray, List.getElem_cons_zero, List.getElem_cons_succ, List.setIfInBounds_toArray, List.set_cons_zero, List.set_cons_succ]
        refine run_take (i := 10) (.int .i64 (k : Int)) rfl (by kernel_rfl) (by kernel_rfl) (by kernel_rfl) rfl hFC (fun y hy => by go_simp) ?_
        simp only [Act.put, List.getElem_toArray, List.getElem_cons_zero, List.getElem_cons_succ, List.setIfInBounds_toArray, List.set_cons_zero, List.set_cons_succ]
        refine run_take (i := 11) (.pointer (some ⟨xb, xo + k * 2, none⟩)) rfl (by kernel_rfl) (by kernel_rfl) (by kernel_rfl) rfl hFC (fun y hy => by go_simp) ?_
        simp only [Act.put, List.getElem_toArray, List.getElem_cons_zero, List.getElem_cons_succ, List.setIfInBounds_toArray, List.set_cons_zero, List.set_cons_succ]
        refine run_take (i := 12) (.pointer (some ⟨xb, xo + k * 2, none⟩)) rfl (by kernel_rfl) (by kernel_rfl) (by kernel_rfl) rfl hFC (fun y hy => by go_simp) ?_
        simp only [Act.put, List.getElem_toArray, List.getElem_cons_zero, List.getElem_cons_succ, List.setIfInBounds_toArray, List.set_cons_zero, List.set_cons_succ]
        refine run_take (i := 13) (.int .i64 (f k).s) rfl (by kernel_rfl) (by kernel_rfl) (by kernel_rfl) rfl hFC (fun y hy => by have c0 := (hy.cell (p := ⟨xb, xo + k * 2, none⟩) hxb).trans x00; go_simp) ?_
        simp only [Act.put, List.getElem_toArray, List.getElem_cons_zero, List.getElem_cons_succ, List.setIfInBounds_toArray, List.set_cons_zero, List.set_cons_succ]
        refine run_take (i := 14) (.agg #[.int .i64 (f k).m, .int .i64 (f k).s]) rfl (by kernel_rfl) (by kernel_rfl) (by kernel_rfl) rfl hFC (fun y hy => by go_simp) ?_
        simp only [Act.put, List.getElem_toArray, List.getElem_cons_zero, List.getElem_cons_succ, List.setIfInBounds_toArray, List.set_cons_zero, List.set_cons_succ]
        refine run_both (i := 1) (j := 15) (by kernel_rfl) ?_ ?_
        · skip
          refine at_quiet (.slice up k uc) rfl (quiet_read rfl (fun y hy => ?_)) ?_
          · have c2 : y.cell? ⟨b, 2, none⟩ = some (.slice up k uc) := (Hr.out.below hy).cell 2
            go_simp
          simp only [Act.put, List.getElem_toArray, List.getElem_cons_zero, List.getElem_cons_succ, List.setIfInBounds_toArray, List.set_cons_zero, List.set_cons_succ]
          refine run_only (i := 15) (by kernel_rfl) (at_make (w0 := wr) (t := 65) (z := .cells #[.int .i64 ((f k).m), .int .i64 ((f k).s)] 58 (0, 0)) (fun q => .slice (some ⟨q, 0, none⟩) 1 1) (fun _ => False) slice_inj rfl rfl rfl (fun y _ => by go_simp) (fun y h => h.size) (fun _ _ _ h => h.elim) ?_)
          intro bb hbb _
          simp only [Act.put, List.setIfInBounds_toArray, List.set_cons_zero, List.set_cons_succ]
          refine run_only (i := 16) (by kernel_rfl) (at_upd (fun v y => RowIs y b #[.int .i64 m, .int .i64 s, .slice up k uc] 24 ∧ OwnW y (b + 1) (turnW f) (k + 1) v ∧ Below b w1 y ∧ (b + 1) ≤ y.heap.size) rfl rfl (fun v y y1 h hb => ⟨h.1.below hb, h.2.1.below hb, h.2.2.1.trans (hb.mono (Nat.le_trans (by omega) h.2.2.2)), Nat.le_trans h.2.2.2 hb.size⟩) (fun v y h => h.2.2.1) (fun y hy => ?_) ?_)
          · obtain ⟨v, y', hrun, h3⟩ := fin bb y hy.1 hy.2
            exact ⟨v, y', exec_app _ _ _ rfl _ _ rfl rfl hrun, h3⟩
          intro v hv
          simp only [Act.put, List.getElem_toArray, List.getElem_cons_zero, List.getElem_cons_succ, List.setIfInBounds_toArray, List.set_cons_zero, List.set_cons_succ]
          refine run_quiet (i := 17) (.pointer (some ⟨b, 2, none⟩)) (by kernel_rfl) rfl rfl (fun y _ => by go_simp) ?_
          simp only [Act.put, List.getElem_toArray, List.getElem_cons_zero, List.getElem_cons_succ, List.setIfInBounds_toArray, List.set_cons_zero, List.set_cons_succ]
          refine run_store (i := 18) (fun y => RowIs y b #[.int .i64 m, .int .i64 s, v] 24 ∧ OwnW y (b + 1) (turnW f) (k + 1) v ∧ Below b w1 y ∧ (b + 1) ≤ y.heap.size) (by kernel_rfl) rfl rfl (fun y y1 h hb => ⟨h.1.below hb, h.2.1.below hb, h.2.2.1.trans (hb.mono (Nat.le_trans (by omega) h.2.2.2)), Nat.le_trans h.2.2.2 hb.size⟩) (fun y h => h.2.2.1) (fun y hy => ?_) ?_
          · obtain ⟨h1, h2, h3, h4⟩ := hy
            obtain ⟨vp, vc, rfl, -⟩ := h2.wants
            have c2 : y.cell? ⟨b, 2, none⟩ = some (.slice up k uc) := h1.cell 2
            have f2 := h1.frozen 2
            refine ⟨y.setCell ⟨b, 2, none⟩ (.slice vp (k + 1) vc), by go_simp, RowIs.set h1 2 _, h2.keep fun q hq => Below.heap_setCell _ _ _ _ (by have := h2.lt hq; show q ≠ b; omega), h3.setCell (p := ⟨b, 2, none⟩) (Nat.le_refl _) _, by simpa using h4⟩
          simp only [Act.put, List.getElem_toArray, List.getElem_cons_zero, List.getElem_cons_succ]
          refine ⟨by kernel_rfl, fun y hy => ?_⟩
          obtain ⟨h1, h2, h3, h4⟩ := hy
          have G1 := Lib.hid h1
          have G2 := Lib.hid h2
          have G3 := Lib.hid h3
          clear h1 h2 h3
          go_wp2_with fail
          go_roundw
          case rel => exact ⟨k + 1, v, by omega, by go_num, G1.out, G2.out, G3.out, h4⟩
          case measure => simp [intOf]; omega
        · skip
          refine at_make (w0 := wr) (t := 65) (z := .cells #[.int .i64 ((f k).m), .int .i64 ((f k).s)] 58 (0, 0)) (fun q => .slice (some ⟨q, 0, none⟩) 1 1) (fun _ => False) slice_inj rfl rfl rfl (fun y _ => by go_simp) (fun y h => h.size) (fun _ _ _ h => h.elim) ?_
          intro bb hbb _
          simp only [Act.put, List.setIfInBounds_toArray, List.set_cons_zero, List.set_cons_succ]
          refine run_quiet (i := 1) (.slice up k uc) (by kernel_rfl) rfl rfl (fun y hy => by
              have c2 : y.cell? ⟨b, 2, none⟩ = some (.slice up k uc) := (Hr.out.below hy.1).cell 2
              go_simp) ?_
          simp only [Act.put, List.getElem_toArray, List.getElem_cons_zero, List.getElem_cons_succ, List.setIfInBounds_toArray, List.set_cons_zero, List.set_cons_succ]
          refine run_only (i := 16) (by kernel_rfl) (at_upd (fun v y => RowIs y b #[.int .i64 m, .int .i64 s, .slice up k uc] 24 ∧ OwnW y (b + 1) (turnW f) (k + 1) v ∧ Below b w1 y ∧ (b + 1) ≤ y.heap.size) rfl rfl (fun v y y1 h hb => ⟨h.1.below hb, h.2.1.below hb, h.2.2.1.trans (hb.mono (Nat.le_trans (by omega) h.2.2.2)), Nat.le_trans h.2.2.2 hb.size⟩) (fun v y h => h.2.2.1) (fun y hy => ?_) ?_)
          · obtain ⟨v, y', hrun, h3⟩ := fin bb y hy.1 hy.2
            exact ⟨v, y', exec_app _ _ _ rfl _ _ rfl rfl hrun, h3⟩
          intro v hv
          simp only [Act.put, List.getElem_toArray, List.getElem_cons_zero, List.getElem_cons_succ, List.setIfInBounds_toArray, List.set_cons_zero, List.set_cons_succ]
          refine run_quiet (i := 17) (.pointer (some ⟨b, 2, none⟩)) (by kernel_rfl) rfl rfl (fun y _ => by go_simp) ?_
          simp only [Act.put, List.getElem_toArray, List.getElem_cons_zero, List.getElem_cons_succ, List.setIfInBounds_toArray, List.set_cons_zero, List.set_cons_succ]
          refine run_store (i := 18) (fun y => RowIs y b #[.int .i64 m, .int .i64 s, v] 24 ∧ OwnW y (b + 1) (turnW f) (k + 1) v ∧ Below b w1 y ∧ (b + 1) ≤ y.heap.size) (by kernel_rfl) rfl rfl (fun y y1 h hb => ⟨h.1.below hb, h.2.1.below hb, h.2.2.1.trans (hb.mono (Nat.le_trans (by omega) h.2.2.2)), Nat.le_trans h.2.2.2 hb.size⟩) (fun y h => h.2.2.1) (fun y hy => ?_) ?_
          · obtain ⟨h1, h2, h3, h4⟩ := hy
            obtain ⟨vp, vc, rfl, -⟩ := h2.wants
            have c2 : y.cell? ⟨b, 2, none⟩ = some (.slice up k uc) := h1.cell 2
            have f2 := h1.frozen 2
            refine ⟨y.setCell ⟨b, 2, none⟩ (.slice vp (k + 1) vc), by go_simp, RowIs.set h1 2 _, h2.keep fun q hq => Below.heap_setCell _ _ _ _ (by have := h2.lt hq; show q ≠ b; omega), h3.setCell (p := ⟨b, 2, none⟩) (Nat.le_refl _) _, by simpa using h4⟩
          simp only [Act.put, List.getElem_toArray, List.getElem_cons_zero, List.getElem_cons_succ]
          refine ⟨by kernel_rfl, fun y hy => ?_⟩
          obtain ⟨h1, h2, h3, h4⟩ := hy
          have G1 := Lib.hid h1
          have G2 := Lib.hid h2
          have G3 := Lib.hid h3
          clear h1 h2 h3
          go_wp2_with fail
          go_roundw
          case rel => exact ⟨k + 1, v, by omega, by go_num, G1.out, G2.out, G3.out, h4⟩
          case measure => simp [intOf]; omega
      · obtain rfl : k = n := by omega
        obtain ⟨up, uc, rfl, hwx⟩ := Ho.out.wants
        have HX := Lib.hid hwx
        have HRX := Hr
        clear hwx r0 r1 r2 rz v2 Ho Hr hz zb hw1 hlt hk
        replace HF := Lib.hid (HF.out.below HBw1.out)
        replace HR := Lib.hid (RowIs.below HR.out HBw1.out)
        replace hB := bup hB HBw1.out
        clear HBw HBw1 Hb
        have r0 : wr.cell? ⟨w.heap.size, 0, none⟩ = some (.int .i64 s) := RowIs.cell HR.out 0
        have r1 : wr.cell? ⟨w.heap.size, 1, none⟩ = some (.int .i64 m) := RowIs.cell HR.out 1
        have r2 : wr.cell? ⟨w.heap.size, 2, none⟩ = some (.slice a k cap) := RowIs.cell HR.out 2
        have rz : w.heap.size < wr.heap.size := HR.out.lt
        have q0 : wr.cell? ⟨b, 0, none⟩ = some (.int .i64 m) := RowIs.cell HRX.out 0
        have q1 : wr.cell? ⟨b, 1, none⟩ = some (.int .i64 s) := RowIs.cell HRX.out 1
        have q2 : wr.cell? ⟨b, 2, none⟩ = some (.slice up k uc) := RowIs.cell HRX.out 2
        have qz : b < wr.heap.size := HRX.out.lt
        go_wp2_with fail
        refine (few_c s m a k cap f _ HF.out HE.out).mono ?_
        rintro e w5 ⟨db1, d1, D, rfl, hrow1, -, hb5, -, hG1, hF1⟩
        have HD1 := Lib.hid (ints_rowA hrow1)
        have HG1 := Lib.hid hG1
        have HF1 := Lib.hid hF1
        clear hG1 hF1 hrow1
        replace HR := Lib.hid (RowIs.below HR.out hb5)
        replace HRX := Lib.hid (RowIs.below HRX.out hb5)
        replace HF := Lib.hid (HF.out.below hb5)
        replace HX := Lib.hid (HX.out.below hb5)
        replace hB := bup hB hb5
        clear r0 r1 r2 rz q0 q1 q2 qz hb5
        have r0 : w5.cell? ⟨w.heap.size, 0, none⟩ = some (.int .i64 s) := RowIs.cell HR.out 0
        have r1 : w5.cell? ⟨w.heap.size, 1, none⟩ = some (.int .i64 m) := RowIs.cell HR.out 1
        have r2 : w5.cell? ⟨w.heap.size, 2, none⟩ = some (.slice a k cap) := RowIs.cell HR.out 2
        have rz : w.heap.size < w5.heap.size := HR.out.lt
        have q0 : w5.cell? ⟨b, 0, none⟩ = some (.int .i64 m) := RowIs.cell HRX.out 0
        have q1 : w5.cell? ⟨b, 1, none⟩ = some (.int .i64 s) := RowIs.cell HRX.out 1
        have q2 : w5.cell? ⟨b, 2, none⟩ = some (.slice up k uc) := RowIs.cell HRX.out 2
        have qz : b < w5.heap.size := HRX.out.lt
        go_wp2_with fail
        refine (few_c m s up k uc (turnW f) _ HX.out HE2.out).mono ?_
        rintro e w6 ⟨db2, d2, D2, rfl, hrow2, -, hb6, -, hG2, hF2⟩
        have heD := turn_greatest HG1.out hG2
        subst heD
        have HD2 := Lib.hid (ints_congr (h := fun i => (d1 i : Int)) (ints_rowA hrow2) fun i hi => by rw [turn_first HF1.out hF2 i hi])
        clear hG2 HG1 HF1 hF2 hrow2
        replace HR := Lib.hid (RowIs.below HR.out hb6)
        replace HRX := Lib.hid (RowIs.below HRX.out hb6)
        replace HF := Lib.hid (HF.out.below hb6)
        replace HX := Lib.hid (HX.out.below hb6)
        replace HD1 := Lib.hid (Cells.below HD1.out hb6)
        replace hB := bup hB hb6
        clear r0 r1 r2 rz q0 q1 q2 qz hb6
        have r0 : w6.cell? ⟨w.heap.size, 0, none⟩ = some (.int .i64 s) := RowIs.cell HR.out 0
        have r1 : w6.cell? ⟨w.heap.size, 1, none⟩ = some (.int .i64 m) := RowIs.cell HR.out 1
        have r2 : w6.cell? ⟨w.heap.size, 2, none⟩ = some (.slice a k cap) := RowIs.cell HR.out 2
        have rz : w.heap.size < w6.heap.size := HR.out.lt
        have q0 : w6.cell? ⟨b, 0, none⟩ = some (.int .i64 m) := RowIs.cell HRX.out 0
        have q1 : w6.cell? ⟨b, 1, none⟩ = some (.int .i64 s) := RowIs.cell HRX.out 1
        have q2 : w6.cell? ⟨b, 2, none⟩ = some (.slice up k uc) := RowIs.cell HRX.out 2
        have qz : b < w6.heap.size := HRX.out.lt
        obtain ⟨L1, hL1⟩ : ∃ L1, bestOf f k = L1 := ⟨_, rfl⟩
        have HB1 := Lib.hid (fun (x : World) (h : Wants x a k f) => best_c s m a k cap f x h HE.out)
        have HB2 := Lib.hid (fun (x : World) (h : Wants x up k (turnW f)) => best_c m s up k uc (turnW f) x h HE2.out)
        have hl14 : (bestOf f k).length ≤ 14 := by have := (best_most f k).2.1; have h2 := cnt_atmost (fun i => i ∈ bestOf f k) k; omega
        rw [turn_best] at HB2
        rw [hL1] at HB1 HB2 hl14
        clear hL1
        go_wp2_with fail
        refine (HB1.out _ HF.out).mono ?_
        rintro e w7 ⟨p1, c1, rfl, hL1, hb7⟩
        have HL1 := Lib.hid hL1.cells
        clear hL1
        replace HR := Lib.hid (RowIs.below HR.out hb7)
        replace HRX := Lib.hid (RowIs.below HRX.out hb7)
        replace HF := Lib.hid (HF.out.below hb7)
        replace HX := Lib.hid (HX.out.below hb7)
        replace HD1 := Lib.hid (Cells.below HD1.out hb7)
        replace HD2 := Lib.hid (Cells.below HD2.out hb7)
        replace hB := bup hB hb7
        clear r0 r1 r2 rz q0 q1 q2 qz hb7
        have r0 : w7.cell? ⟨w.heap.size, 0, none⟩ = some (.int .i64 s) := RowIs.cell HR.out 0
        have r1 : w7.cell? ⟨w.heap.size, 1, none⟩ = some (.int .i64 m) := RowIs.cell HR.out 1
        have r2 : w7.cell? ⟨w.heap.size, 2, none⟩ = some (.slice a k cap) := RowIs.cell HR.out 2
        have rz : w.heap.size < w7.heap.size := HR.out.lt
        have q0 : w7.cell? ⟨b, 0, none⟩ = some (.int .i64 m) := RowIs.cell HRX.out 0
        have q1 : w7.cell? ⟨b, 1, none⟩ = some (.int .i64 s) := RowIs.cell HRX.out 1
        have q2 : w7.cell? ⟨b, 2, none⟩ = some (.slice up k uc) := RowIs.cell HRX.out 2
        have qz : b < w7.heap.size := HRX.out.lt
        go_wp2_with fail
        refine (HB2.out _ HX.out).mono ?_
        rintro e w8 ⟨p2, c2, rfl, hL2, hb8⟩
        have HL2 := Lib.hid hL2.cells
        clear hL2 HB1 HB2
        replace HR := Lib.hid (RowIs.below HR.out hb8)
        replace HRX := Lib.hid (RowIs.below HRX.out hb8)
        replace HF := Lib.hid (HF.out.below hb8)
        replace HX := Lib.hid (HX.out.below hb8)
        replace HD1 := Lib.hid (Cells.below HD1.out hb8)
        replace HD2 := Lib.hid (Cells.below HD2.out hb8)
        replace HL1 := Lib.hid (Cells.below HL1.out hb8)
        replace hB := bup hB hb8
        clear r0 r1 r2 rz q0 q1 q2 qz hb8
        have r0 : w8.cell? ⟨w.heap.size, 0, none⟩ = some (.int .i64 s) := RowIs.cell HR.out 0
        have r1 : w8.cell? ⟨w.heap.size, 1, none⟩ = some (.int .i64 m) := RowIs.cell HR.out 1
        have r2 : w8.cell? ⟨w.heap.size, 2, none⟩ = some (.slice a k cap) := RowIs.cell HR.out 2
        have rz : w.heap.size < w8.heap.size := HR.out.lt
        have q0 : w8.cell? ⟨b, 0, none⟩ = some (.int .i64 m) := RowIs.cell HRX.out 0
        have q1 : w8.cell? ⟨b, 1, none⟩ = some (.int .i64 s) := RowIs.cell HRX.out 1
        have q2 : w8.cell? ⟨b, 2, none⟩ = some (.slice up k uc) := RowIs.cell HRX.out 2
        have qz : b < w8.heap.size := HRX.out.lt
        go_wp2_with fail
        refine (mLoads_yes_c s m a k cap f _ HF.out (by omega) HE.out).mono ?_
        rintro e w9 ⟨a1, a2, rfl, hr1, hr2, -, -, -, hb9⟩
        have HA1 := Lib.hid (ints_rowA hr1)
        have HA2 := Lib.hid (ints_rowA hr2)
        clear hr1 hr2
        replace HR := Lib.hid (RowIs.below HR.out hb9)
        replace HRX := Lib.hid (RowIs.below HRX.out hb9)
        replace HF := Lib.hid (HF.out.below hb9)
        replace HX := Lib.hid (HX.out.below hb9)
        replace HD1 := Lib.hid (Cells.below HD1.out hb9)
        replace HD2 := Lib.hid (Cells.below HD2.out hb9)
        replace HL1 := Lib.hid (Cells.below HL1.out hb9)
        replace HL2 := Lib.hid (Cells.below HL2.out hb9)
        replace hB := bup hB hb9
        clear r0 r1 r2 rz q0 q1 q2 qz hb9
        have r0 : w9.cell? ⟨w.heap.size, 0, none⟩ = some (.int .i64 s) := RowIs.cell HR.out 0
        have r1 : w9.cell? ⟨w.heap.size, 1, none⟩ = some (.int .i64 m) := RowIs.cell HR.out 1
        have r2 : w9.cell? ⟨w.heap.size, 2, none⟩ = some (.slice a k cap) := RowIs.cell HR.out 2
        have rz : w.heap.size < w9.heap.size := HR.out.lt
        have q0 : w9.cell? ⟨b, 0, none⟩ = some (.int .i64 m) := RowIs.cell HRX.out 0
        have q1 : w9.cell? ⟨b, 1, none⟩ = some (.int .i64 s) := RowIs.cell HRX.out 1
        have q2 : w9.cell? ⟨b, 2, none⟩ = some (.slice up k uc) := RowIs.cell HRX.out 2
        have qz : b < w9.heap.size := HRX.out.lt
        go_wp2_with fail
        refine (mLoads_yes_c m s up k uc (turnW f) _ HX.out (by omega) HE2.out).mono ?_
        rintro e w10 ⟨a3, a4, rfl, hr3, hr4, -, -, -, hb10⟩
        have HA3 := Lib.hid (ints_congr (h := fun y => bookL f k (6 + y)) (ints_rowA hr3) fun i hi => (turn_loads HGB.out (show i < 6 by omega)).1)
        have HA4 := Lib.hid (ints_congr (h := bookL f k) (ints_rowA hr4) fun i hi => (turn_loads HGB.out (show i < 6 by omega)).2)
        clear hr3 hr4
        replace HR := Lib.hid (RowIs.below HR.out hb10)
        replace HRX := Lib.hid (RowIs.below HRX.out hb10)
        replace HF := Lib.hid (HF.out.below hb10)
        replace HX := Lib.hid (HX.out.below hb10)
        replace HD1 := Lib.hid (Cells.below HD1.out hb10)
        replace HD2 := Lib.hid (Cells.below HD2.out hb10)
        replace HL1 := Lib.hid (Cells.below HL1.out hb10)
        replace HL2 := Lib.hid (Cells.below HL2.out hb10)
        replace HA1 := Lib.hid (Cells.below HA1.out hb10)
        replace HA2 := Lib.hid (Cells.below HA2.out hb10)
        replace hB := bup hB hb10
        clear r0 r1 r2 rz q0 q1 q2 qz hb10
        have r0 : w10.cell? ⟨w.heap.size, 0, none⟩ = some (.int .i64 s) := RowIs.cell HR.out 0
        have r1 : w10.cell? ⟨w.heap.size, 1, none⟩ = some (.int .i64 m) := RowIs.cell HR.out 1
        have r2 : w10.cell? ⟨w.heap.size, 2, none⟩ = some (.slice a k cap) := RowIs.cell HR.out 2
        have rz : w.heap.size < w10.heap.size := HR.out.lt
        have q0 : w10.cell? ⟨b, 0, none⟩ = some (.int .i64 m) := RowIs.cell HRX.out 0
        have q1 : w10.cell? ⟨b, 1, none⟩ = some (.int .i64 s) := RowIs.cell HRX.out 1
        have q2 : w10.cell? ⟨b, 2, none⟩ = some (.slice up k uc) := RowIs.cell HRX.out 2
        have qz : b < w10.heap.size := HRX.out.lt
        go_wp2_with fail
        refine (bits_c k xl _ hn14).mono ?_
        rintro e w11 ⟨p6, c6, rfl, hL6, hb11⟩
        have L6 := Lib.hid hL6
        clear hL6
        replace HR := Lib.hid (RowIs.below HR.out hb11)
        replace HRX := Lib.hid (RowIs.below HRX.out hb11)
        replace HF := Lib.hid (HF.out.below hb11)
        replace HX := Lib.hid (HX.out.below hb11)
        replace HD1 := Lib.hid (Cells.below HD1.out hb11)
        replace HD2 := Lib.hid (Cells.below HD2.out hb11)
        replace HL1 := Lib.hid (Cells.below HL1.out hb11)
        replace HL2 := Lib.hid (Cells.below HL2.out hb11)
        replace HA1 := Lib.hid (Cells.below HA1.out hb11)
        replace HA2 := Lib.hid (Cells.below HA2.out hb11)
        replace HA3 := Lib.hid (Cells.below HA3.out hb11)
        replace HA4 := Lib.hid (Cells.below HA4.out hb11)
        replace hB := bup hB hb11
        clear r0 r1 r2 rz q0 q1 q2 qz hb11
        have r0 : w11.cell? ⟨w.heap.size, 0, none⟩ = some (.int .i64 s) := RowIs.cell HR.out 0
        have r1 : w11.cell? ⟨w.heap.size, 1, none⟩ = some (.int .i64 m) := RowIs.cell HR.out 1
        have r2 : w11.cell? ⟨w.heap.size, 2, none⟩ = some (.slice a k cap) := RowIs.cell HR.out 2
        have rz : w.heap.size < w11.heap.size := HR.out.lt
        have q0 : w11.cell? ⟨b, 0, none⟩ = some (.int .i64 m) := RowIs.cell HRX.out 0
        have q1 : w11.cell? ⟨b, 1, none⟩ = some (.int .i64 s) := RowIs.cell HRX.out 1
        have q2 : w11.cell? ⟨b, 2, none⟩ = some (.slice up k uc) := RowIs.cell HRX.out 2
        have qz : b < w11.heap.size := HRX.out.lt
        have hbl := bits_len xl k
        have hbs := bits_len xs s
        have hbm := bits_len xm m
        have hk20 : k ≤ 1048576 := Nat.le_trans hn14 (by decide)
        have hs20 : (bitsL s xs).length ≤ 1048576 := Nat.le_trans hbs (Nat.le_trans hs1.2 (by decide))
        have hm20 : (bitsL m xm).length ≤ 1048576 := Nat.le_trans hbm (Nat.le_trans hm1.2 (by decide))
        have hl20 : (bitsL k xl).length ≤ 1048576 := Nat.le_trans hbl hk20
        have HB1 := Lib.hid (fun (x : World) => bits_c s xs x (by omega))
        have HB2 := Lib.hid (fun (x : World) => bits_c m xm x (by omega))
        go_wp2_with fail
        go_cut [28, 29] from 107 to 114 (fun e1 e2 wx => ∃ pg cg ph ch, e1 = .slice pg (bitsL s xs).length cg ∧ e2 = .slice ph (bitsL m xm).length ch ∧ Lst wx (bitsL s xs) pg cg ∧ Lst wx (bitsL m xm) ph ch ∧ Below w11.heap.size w11 wx)
        case first =>
          go_region_held3 (fun w' => w'.cell? ⟨w.heap.size, 0, none⟩ = some (.int .i64 s) ∧ w'.cell? ⟨w.heap.size, 1, none⟩ = some (.int .i64 m) ∧ w'.cell? ⟨w.heap.size, 2, none⟩ = some (.slice a k cap))
            (first | (go_split_ands; refine ⟨?_, ?_, ?_⟩ <;> first | assumption | (go_keep; done)) | go_keep)
            ((first
              | (go_at_call 42; with_reducible refine Calls.mono (HB1.out _) ?_; rintro e wg ⟨pg, cg, rfl, hLg, hbg⟩; have t0 : wg.cell? ⟨w.heap.size, 0, none⟩ = some (.int .i64 s) := (by (try go_split_ands); rw [hbg.cell (by first | assumption | (simp; omega))]; assumption); have t1 : wg.cell? ⟨w.heap.size, 1, none⟩ = some (.int .i64 m) := (by (try go_split_ands); rw [hbg.cell (by first | assumption | (simp; omega))]; assumption); have t2 : wg.cell? ⟨w.heap.size, 2, none⟩ = some (.slice a k cap) := (by (try go_split_ands); rw [hbg.cell (by first | assumption | (simp; omega))]; assumption); have tg : w.heap.size < wg.heap.size := Nat.lt_of_lt_of_le (by first | assumption | (simp; omega)) hbg.size)
              | (go_at_call 42; with_reducible refine Calls.mono (HB2.out _) ?_; rintro e wh ⟨ph, ch, rfl, hLh, hbh⟩; have t0 : wh.cell? ⟨w.heap.size, 0, none⟩ = some (.int .i64 s) := (by (try go_split_ands); rw [hbh.cell (by first | assumption | (simp; omega))]; assumption); have t1 : wh.cell? ⟨w.heap.size, 1, none⟩ = some (.int .i64 m) := (by (try go_split_ands); rw [hbh.cell (by first | assumption | (simp; omega))]; assumption); have t2 : wh.cell? ⟨w.heap.size, 2, none⟩ = some (.slice a k cap) := (by (try go_split_ands); rw [hbh.cell (by first | assumption | (simp; omega))]; assumption); have th : w.heap.size < wh.heap.size := Nat.lt_of_lt_of_le (by first | assumption | (simp; omega)) hbh.size)
              | fail))
          all_goals (go_wp2_with fail; go_meet; refine ⟨pg, cg, ph, ch, rfl, rfl, hLg.below ?_, hLh.below ?_, ?_⟩ <;> (with_reducible repeat (first | exact Below.refl _ _ | assumption | refine bup ?_ (by assumption) | refine Below.drew ?_)))
        case rest =>
        obtain ⟨pg, cg, ph, ch, rfl, rfl, hLg, hLh, hcb⟩ := hcut
        obtain ⟨w12, hww⟩ : ∃ x, x = wc := ⟨_, rfl⟩
        subst hww
        have LG := Lib.hid hLg
        have LH := Lib.hid hLh
        clear hLg hLh HB1 HB2
        replace HR := Lib.hid (RowIs.below HR.out hcb)
        replace HRX := Lib.hid (RowIs.below HRX.out hcb)
        replace HF := Lib.hid (HF.out.below hcb)
        replace HX := Lib.hid (HX.out.below hcb)
        replace HD1 := Lib.hid (Cells.below HD1.out hcb)
        replace HD2 := Lib.hid (Cells.below HD2.out hcb)
        replace HL1 := Lib.hid (Cells.below HL1.out hcb)
        replace HL2 := Lib.hid (Cells.below HL2.out hcb)
        replace HA1 := Lib.hid (Cells.below HA1.out hcb)
        replace HA2 := Lib.hid (Cells.below HA2.out hcb)
        replace HA3 := Lib.hid (Cells.below HA3.out hcb)
        replace HA4 := Lib.hid (Cells.below HA4.out hcb)
        replace L6 := Lib.hid (L6.out.below hcb)
        replace hB := bup hB hcb
        clear r0 r1 r2 rz q0 q1 q2 qz hcb
        have r0 : w12.cell? ⟨w.heap.size, 0, none⟩ = some (.int .i64 s) := RowIs.cell HR.out 0
        have r1 : w12.cell? ⟨w.heap.size, 1, none⟩ = some (.int .i64 m) := RowIs.cell HR.out 1
        have r2 : w12.cell? ⟨w.heap.size, 2, none⟩ = some (.slice a k cap) := RowIs.cell HR.out 2
        have rz : w.heap.size < w12.heap.size := HR.out.lt
        have q0 : w12.cell? ⟨b, 0, none⟩ = some (.int .i64 m) := RowIs.cell HRX.out 0
        have q1 : w12.cell? ⟨b, 1, none⟩ = some (.int .i64 s) := RowIs.cell HRX.out 1
        have q2 : w12.cell? ⟨b, 2, none⟩ = some (.slice up k uc) := RowIs.cell HRX.out 2
        have qz : b < w12.heap.size := HRX.out.lt
        obtain ⟨E2, hE2⟩ : ∃ E2, coverE s m k f (bitsL s xs).length (natG (bitsL s xs)) (bitsL m xm).length (natG (bitsL m xm)) = E2 := ⟨_, rfl⟩
        obtain ⟨N2, hN2⟩ : ∃ N2, coverN E2 (bitsL s xs).length (bitsL m xm).length = N2 := ⟨_, rfl⟩
        have HC1 := Lib.hid (fun (x : World) (h : Wants x a k f) (h1 : Lst x (bitsL s xs) pg cg) (h2 : Lst x (bitsL m xm) ph ch) => cover_named (cap := cap) hE2 hN2 HE.out hs20 hm20 h h1 h2)
        have HC2 := Lib.hid (fun (x : World) (h : Wants x up k (turnW f)) (h1 : Lst x (bitsL s xs) pg cg) (h2 : Lst x (bitsL m xm) ph ch) => cover_named (cap := uc) ((turn_cover HGB.out _ _ _ _).trans hE2) ((turn_coverN _ _ _).trans hN2) HE2.out hm20 hs20 h h2 h1)
        clear hE2 hN2
        go_wp2_with fail
        refine (HC1.out _ HF.out LG.out LH.out).mono ?_
        rintro e w13 ⟨rfl, hb13⟩
        replace HR := Lib.hid (RowIs.below HR.out hb13)
        replace HRX := Lib.hid (RowIs.below HRX.out hb13)
        replace HF := Lib.hid (HF.out.below hb13)
        replace HX := Lib.hid (HX.out.below hb13)
        replace HD1 := Lib.hid (Cells.below HD1.out hb13)
        replace HD2 := Lib.hid (Cells.below HD2.out hb13)
        replace HL1 := Lib.hid (Cells.below HL1.out hb13)
        replace HL2 := Lib.hid (Cells.below HL2.out hb13)
        replace HA1 := Lib.hid (Cells.below HA1.out hb13)
        replace HA2 := Lib.hid (Cells.below HA2.out hb13)
        replace HA3 := Lib.hid (Cells.below HA3.out hb13)
        replace HA4 := Lib.hid (Cells.below HA4.out hb13)
        replace L6 := Lib.hid (L6.out.below hb13)
        replace LG := Lib.hid (LG.out.below hb13)
        replace LH := Lib.hid (LH.out.below hb13)
        replace hB := bup hB hb13
        clear r0 r1 r2 rz q0 q1 q2 qz hb13
        have r0 : w13.cell? ⟨w.heap.size, 0, none⟩ = some (.int .i64 s) := RowIs.cell HR.out 0
        have r1 : w13.cell? ⟨w.heap.size, 1, none⟩ = some (.int .i64 m) := RowIs.cell HR.out 1
        have r2 : w13.cell? ⟨w.heap.size, 2, none⟩ = some (.slice a k cap) := RowIs.cell HR.out 2
        have rz : w.heap.size < w13.heap.size := HR.out.lt
        have q0 : w13.cell? ⟨b, 0, none⟩ = some (.int .i64 m) := RowIs.cell HRX.out 0
        have q1 : w13.cell? ⟨b, 1, none⟩ = some (.int .i64 s) := RowIs.cell HRX.out 1
        have q2 : w13.cell? ⟨b, 2, none⟩ = some (.slice up k uc) := RowIs.cell HRX.out 2
        have qz : b < w13.heap.size := HRX.out.lt
        go_wp2_with fail
        refine (HC2.out _ HX.out LG.out LH.out).mono ?_
        rintro e w14 ⟨rfl, hb14⟩
        replace HR := Lib.hid (RowIs.below HR.out hb14)
        replace HRX := Lib.hid (RowIs.below HRX.out hb14)
        replace HF := Lib.hid (HF.out.below hb14)
        replace HX := Lib.hid (HX.out.below hb14)
        replace HD1 := Lib.hid (Cells.below HD1.out hb14)
        replace HD2 := Lib.hid (Cells.below HD2.out hb14)
        replace HL1 := Lib.hid (Cells.below HL1.out hb14)
        replace HL2 := Lib.hid (Cells.below HL2.out hb14)
        replace HA1 := Lib.hid (Cells.below HA1.out hb14)
        replace HA2 := Lib.hid (Cells.below HA2.out hb14)
        replace HA3 := Lib.hid (Cells.below HA3.out hb14)
        replace HA4 := Lib.hid (Cells.below HA4.out hb14)
        replace L6 := Lib.hid (L6.out.below hb14)
        replace LG := Lib.hid (LG.out.below hb14)
        replace LH := Lib.hid (LH.out.below hb14)
        replace hB := bup hB hb14
        clear r0 r1 r2 rz q0 q1 q2 qz hb14
        have r0 : w14.cell? ⟨w.heap.size, 0, none⟩ = some (.int .i64 s) := RowIs.cell HR.out 0
        have r1 : w14.cell? ⟨w.heap.size, 1, none⟩ = some (.int .i64 m) := RowIs.cell HR.out 1
        have r2 : w14.cell? ⟨w.heap.size, 2, none⟩ = some (.slice a k cap) := RowIs.cell HR.out 2
        have rz : w.heap.size < w14.heap.size := HR.out.lt
        have q0 : w14.cell? ⟨b, 0, none⟩ = some (.int .i64 m) := RowIs.cell HRX.out 0
        have q1 : w14.cell? ⟨b, 1, none⟩ = some (.int .i64 s) := RowIs.cell HRX.out 1
        have q2 : w14.cell? ⟨b, 2, none⟩ = some (.slice up k uc) := RowIs.cell HRX.out 2
        have qz : b < w14.heap.size := HRX.out.lt
        clear HC1 HC2 LG LH
        obtain ⟨E1, hE1⟩ : ∃ E1 : Int, (if listB (natG (bitsL k xl)) k (bitsL k xl).length = true then (if apartAll f k (natG (bitsL k xl)) (bitsL k xl).length = true then 0 else 18) else 3) = E1 := ⟨_, rfl⟩
        have hE1' : (if listB (natG (bitsL k xl)) k (bitsL k xl).length = true then (if apartAll (turnW f) k (natG (bitsL k xl)) (bitsL k xl).length = true then (0 : Int) else 18) else 3) = E1 := by rw [turn_apartAll]; exact hE1
        have HK1 := Lib.hid (fun (x : World) (h : Below w14.heap.size w14 x) => list_named (cap := cap) hE1 HE.out hl20 (HF.out.below h) (L6.out.below h))
        have HK2 := Lib.hid (fun (x : World) (h : Below w14.heap.size w14 x) => list_named (cap := uc) hE1' HE2.out hl20 (HX.out.below h) (L6.out.below h))
        clear hE1 hE1'
        have hL20 : L1.length ≤ 1048576 := Nat.le_trans hl14 (by decide)
        have hS20 : s ≤ 1048576 := Nat.le_trans hs1.2 (by decide)
        have hM20 : m ≤ 1048576 := Nat.le_trans hm1.2 (by decide)
        have HI1 := Lib.hid (fun (x : World) (h : Below w14.heap.size w14 x) => ints_same (c := k) (d := k) (Cells.below HD1.out h) (Cells.below HD2.out h) hk20)
        have HI2 := Lib.hid (fun (x : World) (h : Below w14.heap.size w14 x) => ints_same (c := c1) (d := c2) (Cells.below HL1.out h) (Cells.below HL2.out h) hL20)
        have HI3 := Lib.hid (fun (x : World) (h : Below w14.heap.size w14 x) => ints_same (c := s) (d := s) (Cells.below HA1.out h) (Cells.below HA4.out h) hS20)
        have HI4 := Lib.hid (fun (x : World) (h : Below w14.heap.size w14 x) => ints_same (c := m) (d := m) (Cells.below HA2.out h) (Cells.below HA3.out h) hM20)
        have HWk := Lib.hid (fun (x : World) => works_c x)
        have tE : (E1 == E1) = true := by simp
        have tN : (N2 == N2) = true := by simp
        have tF : (E2 == E2) = true := by simp
        clear HD1 HD2 HL1 HL2 HA1 HA2 HA3 HA4 L6 HF HX HR HRX
        have hlc := fun (x : Later w14) => later_cell x
        skip
        go_wp2_with fail
        refine wp_region_later (by kernel_rfl) (by kernel_rfl) ?_
        repeat (go_big_quiet_step ((first | (with_reducible refine calls_later (HI1.out _ (Later.h _))) | (with_reducible refine calls_later (HI2.out _ (Later.h _))) | (with_reducible refine calls_later (HI3.out _ (Later.h _))) | (with_reducible refine calls_later (HI4.out _ (Later.h _))) | (with_reducible refine calls_later (HK1.out _ (Later.h _))) | (with_reducible refine calls_later (HK2.out _ (Later.h _))) | (with_reducible refine calls_later (HWk.out _)))))
        refine wpQuiet_nil ?_
        clear hlc
        rintro ⟨w15, hb15⟩
        go_wp2_with fail
        go_ret
        exact ⟨rfl, bup hB hb15⟩

end Go.Proofs.Ytbjgbgchagfokaa

namespace Go.Proofs.Ytbjgbgchagfokaa
open Go Go.RowKit Go.ChangeShapes Go.WideShapes Go.ChangeAt

theorem own_turned : ownKnob Try.prog.godebug = .none := by kernel_rfl
theorem laidOut_turned : laidOutB Try.prog = true := by kernel_rfl

set_option maxRecDepth 100000 in
theorem turned_lifted (os : Os) (started : os.Started) (H : Type) (enc : TypeId × Value → H) :
    ReturnsInHanded {} Try.checked os 12 .any (Rows.mouldTurnedSpec.pre6 enc Try.prog Try.f12 Rows.mouldTurnedRow.domain false) (Rows.mouldTurnedSpec.post enc Try.prog Try.f12 false true false false) := by
  refine returnsInHanded_of_change (C := Try.checked) own_turned started (by kernel_rfl) Try.func12
    (ChangeSpec.witness6 (enc := enc) (C := Try.checked) false ⟨#[], #[.agg #[.int .i64 0, .int .i64 0, .slice .none 0 0], .int .u16 0, .int .u16 0, .int .u16 0], []⟩ 8 (by kernel_rfl) (by kernel_rfl) (by kernel_rfl) (by kernel_rfl)) ?_
  intro W base args ds gs before hval0 hW hcnd _
  have hval : ∀ (j : Nat) t v, Try.f12.params[j]? = some t → args[j]? = some v → Value.okWide Try.prog W .any base t v := hval0
  have hW' := hW
  obtain ⟨p, q, hA0, hV, rfl, hfz, hnd⟩ := hW
  have hA : DataW.TrodAll enc Try.prog W 0 (fun _ => true) true Try.f12.params.toList args.toList ds p := hA0
  rw [Try.params12] at hA hval
  obtain ⟨v0, vs0, d0, ds0, p0, q0, hargs, rfl, rfl, h0, r0⟩ := trodAll_cons hA
  obtain ⟨v1, vs1, d1, ds1, p1, q1, rfl, rfl, rfl, h1, r1⟩ := trodAll_cons r0
  obtain ⟨v2, vs2, d2, ds2, p2, q2, rfl, rfl, rfl, h2, r2⟩ := trodAll_cons r1
  obtain ⟨v3, vs3, d3, ds3, p3, q3, rfl, rfl, rfl, h3, r3⟩ := trodAll_cons r2
  obtain ⟨rfl, rfl, rfl⟩ := trodAll_nil r3
  obtain rfl : args = #[v0, v1, v2, v3] := by cases args; simp_all
  obtain ⟨rfl, rfl⟩ := trodVars_none hV
  obtain ⟨S0, M0, a0, n0, cap0, f0, rfl, hF0⟩ := open_book (hval 0 24 v0 rfl rfl) h0
  obtain ⟨z1, hz1, _, _, hw1⟩ := open_int Try.underlying49 (hval 1 49 v1 rfl rfl) h1
  obtain ⟨z2, hz2, _, _, hw2⟩ := open_int Try.underlying49 (hval 2 49 v2 rfl rfl) h2
  obtain ⟨z3, hz3, _, _, hw3⟩ := open_int Try.underlying49 (hval 3 49 v3 rfl rfl) h3
  subst hz1 hz2 hz3
  refine (law_turned_c S0 M0 a0 n0 cap0 f0 z1 z2 z3 W hF0).mono fun e W' ⟨he, hb⟩ => ?_
  subst he
  have hlt := hW'.lt
  simp only [List.append_nil, List.mem_append] at hlt
  refine ⟨_, rfl, _, _, _, [], p0 ++ (p1 ++ (p2 ++ (p3 ++ []))), [], hW', trodAll_mk1 (shut_bool Try.underlying4 true), ?_, rfl, hb.frame _, fun h => Bool.noConfusion h⟩
  exact trodAll_cons_mk (Below.trod laidOut_turned (by kernel_rfl) (of_decide_eq_true (by kernel_rfl)) h0 hb fun x hx => hlt x (by simp [hx])) (trodAll_cons_mk (Below.trod laidOut_turned (by kernel_rfl) (of_decide_eq_true (by kernel_rfl)) h1 hb fun x hx => hlt x (by simp [hx])) (trodAll_cons_mk (Below.trod laidOut_turned (by kernel_rfl) (of_decide_eq_true (by kernel_rfl)) h2 hb fun x hx => hlt x (by simp [hx])) (trodAll_cons_mk (Below.trod laidOut_turned (by kernel_rfl) (of_decide_eq_true (by kernel_rfl)) h3 hb fun x hx => hlt x (by simp [hx])) trodAll_mk0)))

theorem turned_holds : Rows.MouldTurnedSaid :=
  OpenClaim.holds_of_wide 12 Try.f12 rfl rfl rfl rfl rfl rfl rfl ⟨rfl, rfl, rfl, rfl, rfl⟩ rfl rfl rfl rfl rfl (by kernel_rfl) Try.func12 (by kernel_rfl)
    (of_decide_eq_true (by kernel_rfl)) (by unfold Func.isWrapper; first | (rw [if_pos (by decide +kernel)]; kernel_rfl) | (rw [if_neg (by decide +kernel)]; exact ⟨rfl, rfl⟩))
    (fun os started H enc _ => turned_lifted os started H enc)
end Go.Proofs.Ytbjgbgchagfokaa
