/- Contracts of layer 2: the law's small helpers. -/
import Derived.Shelf.Abstract
import Derived.Shelf.RegionOpen
import Derived.Test.YtbjgbgchagfokaaGreatProg
import Derived.Test.YtbjgbgchagfokaaGreatBasaa
import Derived.Test.YtbjgbgchagfokaaGreatBasah
import Derived.Test.YtbjgbgchagfokaaGreatBasaj
import Derived.Test.YtbjgbgchagfokaaGreatBasac
namespace Go.Proofs.YtbjgbgchagfokaaGreat
open Go Go.RowKit Go.Shelf

theorem of_c (p : Option Addr) (n cap : Nat) (w : World) : Calls Tryz.prog 18 #[.slice p n cap] w fun e w' => e = .returned (.slice p n cap) ∧ w = w' := by
  go_enter Tryz.func18, Tryz.ntmps18
  go_wp2_with fail
  go_ret
  exact ⟨rfl, rfl⟩
theorem long_c (p : Option Addr) (n cap : Nat) (w : World) : Calls Tryz.prog 5 #[.slice p n cap] w fun e w' => e = .returned (.bool (decide (24 < n))) ∧ w = w' := by
  have t : decide ((24 : Int) < (n : Int)) = decide (24 < n) := by rw [decide_eq_decide]; omega
  go_enter Tryz.func5, Tryz.ntmps5
  go_wp2_with fail
  go_ret
  exact ⟨by simp, rfl⟩
theorem great_c (S M : Int) (a : Option Addr) (n cap : Nat) (w : World) : Calls Tryz.prog 4 #[bookV S M a n cap] w fun e w' => e = .returned (.bool (decide (20 < n))) ∧ Below w.heap.size w w' := by
  have t : decide ((20 : Int) < (n : Int)) = decide (20 < n) := by rw [decide_eq_decide]; omega
  obtain ⟨W, hW⟩ : ∃ W, w.alloc (.cells #[.int .i64 S, .int .i64 M, .slice a n cap] 24) = W := ⟨_, rfl⟩
  have hB : Below w.heap.size w W := by rw [← hW]; exact Below.alloc1 (Below.refl _ _) _ (Nat.le_refl _)
  have hR : RowIs W w.heap.size #[.int .i64 S, .int .i64 M, .slice a n cap] 24 := by rw [← hW]; exact heap_new_at _ _ _ rfl
  have r2 : W.cell? ⟨w.heap.size, 2, none⟩ = some (.slice a n cap) := RowIs.cell hR 2
  clear hR
  go_enter Tryz.func4, Tryz.ntmps4
  go_wp2_with fail
  go_ret
  exact ⟨by simp, hB⟩

/-- The first numbers of two lists are the same. -/
def eqB (f g : Nat → Int) : Nat → Bool
  | 0 => true
  | k + 1 => eqB f g k && decide (f k = g k)
theorem eqB_no (f g : Nat → Int) (k : Nat) : ∀ n, k < n → f k ≠ g k → eqB f g n = false
  | 0, h, _ => absurd h (Nat.not_lt_zero _)
  | n + 1, h, hb => by
    by_cases e : k = n
    · subst e; simp [eqB, hb]
    · simp [eqB, eqB_no f g k n (by omega) hb]
theorem eqB_iff (f g : Nat → Int) : ∀ n, eqB f g n = true ↔ ∀ i, i < n → f i = g i
  | 0 => ⟨fun _ i hi => absurd hi (Nat.not_lt_zero _), fun _ => rfl⟩
  | n + 1 => by
    rw [eqB, Bool.and_eq_true, eqB_iff f g n, decide_eq_true_eq]
    exact ⟨fun h i hi => by
      by_cases e : i = n
      · rw [e]; exact h.2
      · exact h.1 i (by omega), fun h => ⟨fun i hi => h i (by omega), h n (by omega)⟩⟩
def intsB (n : Nat) (f : Nat → Int) (m : Nat) (g : Nat → Int) : Bool := decide (n = m) && eqB f g n
theorem intsB_yes {n : Nat} {f g : Nat → Int} (h : ∀ i, i < n → f i = g i) : intsB n f n g = true := by
  unfold intsB
  rw [(eqB_iff f g n).2 h]
  simp

set_option maxHeartbeats 4000000 in
theorem Ints_c (a : Option Addr) (n cap : Nat) (f : Nat → Int) (b : Option Addr) (m bcap : Nat) (g : Nat → Int) (w : World) (ha : Ints w a n f) (hb : Ints w b m g) (hn : n ≤ 1048576) :
    Calls Tryz.prog 15 #[.slice a n cap, .slice b m bcap] w fun e w' => e = .returned (.bool (intsB n f m g)) ∧ Below w.heap.size w w' := by
  by_cases hnm : n = m
  · subst hnm
    have t0 : ((n : Int) != (n : Int)) = false := by simp
    have e0 : intsB n f n g = eqB f g n := by simp [intsB]
    rw [e0]
    clear e0
    go_enter Tryz.func15, Tryz.ntmps15
    go_wp2_with fail
    go_loopw [5] (fun v wr => ∃ k : Nat, k ≤ n ∧ v = .int .i64 k ∧ eqB f g k = true ∧ Below w.heap.size w wr) (fun v _ => n - (intOf v).toNat)
    case atStart => exact ⟨0, Nat.zero_le _, rfl, rfl, Below.refl _ _⟩
    case round =>
      obtain ⟨k, hk, rfl, he, hB⟩ := hrel
      by_cases hlt : k < n
      · obtain ⟨ab, ao, rfl, hab, hac⟩ := Cells.at (Cells.below ha hB) k hlt
        obtain ⟨bb, bo, rfl, hbb, hbc⟩ := Cells.at (Cells.below hb hB) k hlt
        have ca : wr.cell? ⟨ab, ao + k, none⟩ = some (.int .i64 (f k)) := hac k hlt
        have cb : wr.cell? ⟨bb, bo + k, none⟩ = some (.int .i64 (g k)) := hbc k hlt
        obtain ⟨x, hx⟩ : ∃ x, f k = x := ⟨_, rfl⟩
        obtain ⟨y, hy⟩ : ∃ y, g k = y := ⟨_, rfl⟩
        rw [hx] at ca
        rw [hy] at cb
        have Hx := Lib.hid hx
        have Hy := Lib.hid hy
        have HB := Lib.hid hB
        have He := Lib.hid he
        have hlc := fun (x : Later wr) => later_cell x
        have hw1 : IntKind.i64.wrap ((k : Int) + 1) = (k : Int) + 1 := IntWalk.i64_in _ (by omega)
        clear hx hy hB he hac hbc
        go_wp2_with fail
        refine wp_region_later (by kernel_rfl) (by kernel_rfl) ?_
        repeat (go_big_quiet_step (fail))
        refine wpQuiet_nil ?_
        clear hlc ca cb
        rintro ⟨A7, hb7⟩
        have HB7 := Lib.hid (HB.out.trans (hb7.mono HB.out.size))
        dsimp only
        clear hb7
        by_cases hxy : x = y
        · have t1 : (x != y) = false := by simp [hxy]
          have h1 : eqB f g (k + 1) = true := by rw [eqB, He.out, Hx.out, Hy.out]; simp [hxy]
          have H1 := Lib.hid h1
          clear h1 hxy
          go_wp2_with fail
          go_roundw
          case rel => exact ⟨k + 1, by omega, by go_num, H1.out, HB7.out⟩
          case measure => simp [intOf]; omega
        · have t1 : (x != y) = true := by simpa using hxy
          have h1 : eqB f g n = false := eqB_no f g k n hlt (by rw [Hx.out, Hy.out]; exact hxy)
          have H1 := Lib.hid h1
          clear hxy h1
          go_wp2_with fail
          go_ret
          exact ⟨by rw [H1.out]; rfl, HB7.out⟩
      · obtain rfl : k = n := by omega
        have He := Lib.hid he
        clear he
        go_wp2_with fail
        go_ret
        exact ⟨by rw [He.out]; rfl, hB⟩
  · have t0 : ((n : Int) != (m : Int)) = true := by simp; omega
    have e0 : intsB n f m g = false := by simp [intsB, hnm]
    rw [e0]
    go_enter Tryz.func15, Tryz.ntmps15
    go_wp2_with fail
    go_ret
    exact ⟨rfl, Below.refl _ _⟩

theorem wants_congr {w : World} {a : Option Addr} {n : Nat} {f h : Nat → W2} (hw : Wants w a n f) (e : ∀ i, i < n → f i = h i) : Wants w a n h := by
  rcases hw with h0 | ⟨b, off, rfl, hlt, hc⟩
  · exact .inl h0
  · exact .inr ⟨b, off, rfl, hlt, fun i hi => by rw [← e i hi]; exact hc i hi⟩
def threeL : List Int := [0, 0, 0, 1, 1, 0, 1, 1, 2, 1]
def twoL : List Int := [0, 0, 1, 0, 2, 1, 2, 1]
set_option maxHeartbeats 4000000 in
theorem three_c (w : World) : Calls Tryz.prog 16 #[] w fun e w' => ∃ p cap, e = .returned (bookV 3 3 p 5 cap) ∧ Wants w' p 5 threeW ∧ Below w.heap.size w w' := by
  obtain ⟨W, hW⟩ : ∃ W, w.alloc (.cells #[.int .i64 0, .int .i64 0, .slice none 0 0] 24) = W := ⟨_, rfl⟩
  have hWb : Below w.heap.size w W := by rw [← hW]; exact Below.alloc1 (Below.refl _ _) _ (Nat.le_refl _)
  have hWr : RowIs W w.heap.size #[.int .i64 0, .int .i64 0, .slice none 0 0] 24 := by rw [← hW]; exact heap_new_at _ _ _ rfl
  have hx := ints_new W 3 (0, 0) threeL
  obtain ⟨V, hV⟩ : ∃ V, W.alloc (.cells #[.int .i64 0, .int .i64 0, .int .i64 0, .int .i64 1, .int .i64 1, .int .i64 0, .int .i64 1, .int .i64 1, .int .i64 2, .int .i64 1] 3) = V := ⟨_, rfl⟩
  have hVb : Below W.heap.size W V := by rw [← hV]; exact Below.alloc1 (Below.refl _ _) _ (Nat.le_refl _)
  have hxV : Ints V (some ⟨W.heap.size, 0, none⟩) 10 fun i => threeL.getD i 0 := by rw [← hV]; exact hx
  have HC := Lib.hid (Book_c 3 3 (some ⟨W.heap.size, 0, none⟩) 10 10 _ V hxV (by omega))
  have HB := Lib.hid (bup hWb hVb)
  have HR := Lib.hid (hWr.below hVb)
  clear hx hWb hWr hVb hxV
  go_enter Tryz.func16, Tryz.ntmps16
  go_wp2_with fail
  refine HC.out.mono ?_
  rintro e w1 ⟨p, cap, rfl, hw, hb⟩
  have hR1 := HR.out.below hb
  have q0 : w1.cell? ⟨w.heap.size, 0, none⟩ = some (.int .i64 0) := hR1.cell 0
  have q1 : w1.cell? ⟨w.heap.size, 1, none⟩ = some (.int .i64 0) := hR1.cell 1
  have q2 : w1.cell? ⟨w.heap.size, 2, none⟩ = some (.slice none 0 0) := hR1.cell 2
  have f0 := hR1.frozen 0
  have f1 := hR1.frozen 1
  have f2 := hR1.frozen 2
  obtain ⟨T, hT⟩ : ∃ T, ((w1.setCell ⟨w.heap.size, 0, none⟩ (.int .i64 3)).setCell ⟨w.heap.size, 1, none⟩ (.int .i64 3)).setCell ⟨w.heap.size, 2, none⟩ (.slice p 5 cap) = T := ⟨_, rfl⟩
  have hTr : RowIs T w.heap.size #[.int .i64 3, .int .i64 3, .slice p 5 cap] 24 := by
    rw [← hT]
    exact RowIs.set (RowIs.set (RowIs.set hR1 0 (.int .i64 3)) 1 (.int .i64 3)) 2 (.slice p 5 cap)
  have hTb : Below w.heap.size w T := by rw [← hT]; exact (((bup HB.out hb).setCell (p := ⟨w.heap.size, 0, none⟩) (Nat.le_refl _) _).setCell (p := ⟨w.heap.size, 1, none⟩) (Nat.le_refl _) _).setCell (p := ⟨w.heap.size, 2, none⟩) (Nat.le_refl _) _
  have hTo : ∀ k, k ≠ w.heap.size → T.heap[k]? = w1.heap[k]? := fun k hk => by rw [← hT]; exact (Below.heap_setCell _ _ _ _ hk).trans ((Below.heap_setCell _ _ _ _ hk).trans (Below.heap_setCell _ _ _ _ hk))
  have hTz : T.heap.size = w1.heap.size := by rw [← hT]; simp
  have hTw : Wants T p 5 threeW := by
    refine wants_congr (f := pairW fun i => threeL.getD i 0) ?_ (fun i hi => ?_)
    · rcases hw with h | ⟨pb, po, rfl, hpl, hpc⟩
      · exact .inl h
      · by_cases hpb : pb = w.heap.size
        · subst hpb
          have h := (hpc 0 (by decide)).1
          have h2 := (hpc 1 (by decide)).2
          have h3 := hR1.cell (po + 1 * 2 + 1)
          rw [h3] at h2
          exfalso
          rw [show po + 1 * 2 + 1 = po + 3 by omega] at h2
          simp at h2
        · have e := hTo pb hpb
          exact .inr ⟨pb, po, rfl, by omega, fun i hi => ⟨(World.cell?_of_block (a := ⟨pb, _, none⟩) e).trans (hpc i hi).1, (World.cell?_of_block (a := ⟨pb, _, none⟩) e).trans (hpc i hi).2⟩⟩
    · have : i < 5 := hi
      match i, this with
      | 0, _ => rfl
      | 1, _ => rfl
      | 2, _ => rfl
      | 3, _ => rfl
      | 4, _ => rfl
  have HTr := Lib.hid hTr
  have HTb := Lib.hid hTb
  have HTw := Lib.hid hTw
  clear hw hTr hTb hTw hTo hb hR1 hV hW
  go_wp2_with fail
  have t0 : T.cell? ⟨w.heap.size, 0, none⟩ = some (.int .i64 3) := HTr.out.cell 0
  have t1 : T.cell? ⟨w.heap.size, 1, none⟩ = some (.int .i64 3) := HTr.out.cell 1
  have t2 : T.cell? ⟨w.heap.size, 2, none⟩ = some (.slice p 5 cap) := HTr.out.cell 2
  refine bodyPost_ret (v := bookV 3 3 p 5 cap) (by simp [results, Tryz.results16, go_sem, t0, t1, t2]) rfl ⟨p, cap, rfl, HTw.out, HTb.out⟩

set_option maxHeartbeats 4000000 in
theorem two_c (w : World) : Calls Tryz.prog 17 #[] w fun e w' => ∃ p cap, e = .returned (bookV 3 2 p 4 cap) ∧ Wants w' p 4 twoW ∧ Below w.heap.size w w' := by
  obtain ⟨W, hW⟩ : ∃ W, w.alloc (.cells #[.int .i64 0, .int .i64 0, .slice none 0 0] 24) = W := ⟨_, rfl⟩
  have hWb : Below w.heap.size w W := by rw [← hW]; exact Below.alloc1 (Below.refl _ _) _ (Nat.le_refl _)
  have hWr : RowIs W w.heap.size #[.int .i64 0, .int .i64 0, .slice none 0 0] 24 := by rw [← hW]; exact heap_new_at _ _ _ rfl
  have hx := ints_new W 3 (0, 0) twoL
  obtain ⟨V, hV⟩ : ∃ V, W.alloc (.cells #[.int .i64 0, .int .i64 0, .int .i64 1, .int .i64 0, .int .i64 2, .int .i64 1, .int .i64 2, .int .i64 1] 3) = V := ⟨_, rfl⟩
  have hVb : Below W.heap.size W V := by rw [← hV]; exact Below.alloc1 (Below.refl _ _) _ (Nat.le_refl _)
  have hxV : Ints V (some ⟨W.heap.size, 0, none⟩) 8 fun i => twoL.getD i 0 := by rw [← hV]; exact hx
  have HC := Lib.hid (Book_c 3 2 (some ⟨W.heap.size, 0, none⟩) 8 8 _ V hxV (by omega))
  have HB := Lib.hid (bup hWb hVb)
  have HR := Lib.hid (hWr.below hVb)
  clear hx hWb hWr hVb hxV
  go_enter Tryz.func17, Tryz.ntmps17
  go_wp2_with fail
  refine HC.out.mono ?_
  rintro e w1 ⟨p, cap, rfl, hw, hb⟩
  have hR1 := HR.out.below hb
  have q0 : w1.cell? ⟨w.heap.size, 0, none⟩ = some (.int .i64 0) := hR1.cell 0
  have q1 : w1.cell? ⟨w.heap.size, 1, none⟩ = some (.int .i64 0) := hR1.cell 1
  have q2 : w1.cell? ⟨w.heap.size, 2, none⟩ = some (.slice none 0 0) := hR1.cell 2
  have f0 := hR1.frozen 0
  have f1 := hR1.frozen 1
  have f2 := hR1.frozen 2
  obtain ⟨T, hT⟩ : ∃ T, ((w1.setCell ⟨w.heap.size, 0, none⟩ (.int .i64 3)).setCell ⟨w.heap.size, 1, none⟩ (.int .i64 2)).setCell ⟨w.heap.size, 2, none⟩ (.slice p 4 cap) = T := ⟨_, rfl⟩
  have hTr : RowIs T w.heap.size #[.int .i64 3, .int .i64 2, .slice p 4 cap] 24 := by
    rw [← hT]
    exact RowIs.set (RowIs.set (RowIs.set hR1 0 (.int .i64 3)) 1 (.int .i64 2)) 2 (.slice p 4 cap)
  have hTb : Below w.heap.size w T := by rw [← hT]; exact (((bup HB.out hb).setCell (p := ⟨w.heap.size, 0, none⟩) (Nat.le_refl _) _).setCell (p := ⟨w.heap.size, 1, none⟩) (Nat.le_refl _) _).setCell (p := ⟨w.heap.size, 2, none⟩) (Nat.le_refl _) _
  have hTo : ∀ k, k ≠ w.heap.size → T.heap[k]? = w1.heap[k]? := fun k hk => by rw [← hT]; exact (Below.heap_setCell _ _ _ _ hk).trans ((Below.heap_setCell _ _ _ _ hk).trans (Below.heap_setCell _ _ _ _ hk))
  have hTz : T.heap.size = w1.heap.size := by rw [← hT]; simp
  have hTw : Wants T p 4 twoW := by
    refine wants_congr (f := pairW fun i => twoL.getD i 0) ?_ (fun i hi => ?_)
    · rcases hw with h | ⟨pb, po, rfl, hpl, hpc⟩
      · exact .inl h
      · by_cases hpb : pb = w.heap.size
        · subst hpb
          have h := (hpc 0 (by decide)).1
          have h2 := (hpc 1 (by decide)).2
          have h3 := hR1.cell (po + 1 * 2 + 1)
          rw [h3] at h2
          exfalso
          rw [show po + 1 * 2 + 1 = po + 3 by omega] at h2
          simp at h2
        · have e := hTo pb hpb
          exact .inr ⟨pb, po, rfl, by omega, fun i hi => ⟨(World.cell?_of_block (a := ⟨pb, _, none⟩) e).trans (hpc i hi).1, (World.cell?_of_block (a := ⟨pb, _, none⟩) e).trans (hpc i hi).2⟩⟩
    · have : i < 4 := hi
      match i, this with
      | 0, _ => rfl
      | 1, _ => rfl
      | 2, _ => rfl
      | 3, _ => rfl
  have HTr := Lib.hid hTr
  have HTb := Lib.hid hTb
  have HTw := Lib.hid hTw
  clear hw hTr hTb hTw hTo hb hR1 hV hW
  go_wp2_with fail
  have t0 : T.cell? ⟨w.heap.size, 0, none⟩ = some (.int .i64 3) := HTr.out.cell 0
  have t1 : T.cell? ⟨w.heap.size, 1, none⟩ = some (.int .i64 2) := HTr.out.cell 1
  have t2 : T.cell? ⟨w.heap.size, 2, none⟩ = some (.slice p 4 cap) := HTr.out.cell 2
  refine bodyPost_ret (v := bookV 3 2 p 4 cap) (by simp [results, Tryz.results17, go_sem, t0, t1, t2]) rfl ⟨p, cap, rfl, HTw.out, HTb.out⟩

end Go.Proofs.YtbjgbgchagfokaaGreat

namespace Go.Proofs.YtbjgbgchagfokaaGreat
open Go Go.RowKit

/-- A plan: a desk and days. -/
def planRow (S M : Int) (a : Option Addr) (n cap : Nat) (h : Nat → Int) (da : Option Addr) (k dcap : Nat) : Array Value := #[.int .i64 S, .int .i64 M, .slice a n cap, .int .i64 (h 0), .int .i64 (h 1), .int .i64 (h 2), .int .i64 (h 3), .int .i64 (h 4), .int .i64 (h 5), .int .i64 (h 6), .int .i64 (h 7), .int .i64 (h 8), .int .i64 (h 9), .int .i64 (h 10), .int .i64 (h 11), .slice da k dcap]
abbrev planV (S M : Int) (a : Option Addr) (n cap : Nat) (h : Nat → Int) (da : Option Addr) (k dcap : Nat) : Value := .agg #[.int .i64 S, .int .i64 M, .slice a n cap, .int .i64 (h 0), .int .i64 (h 1), .int .i64 (h 2), .int .i64 (h 3), .int .i64 (h 4), .int .i64 (h 5), .int .i64 (h 6), .int .i64 (h 7), .int .i64 (h 8), .int .i64 (h 9), .int .i64 (h 10), .int .i64 (h 11), .slice da k dcap]
theorem plancells {w : World} {b : Nat} {S M : Int} {a : Option Addr} {n cap : Nat} {h : Nat → Int} {da : Option Addr} {k dcap : Nat} {T : TypeId} (hr : RowIs w b (planRow S M a n cap h da k dcap) T) :
    w.cell? ⟨b, 0, none⟩ = some (.int .i64 S) ∧ w.cell? ⟨b, 1, none⟩ = some (.int .i64 M) ∧ w.cell? ⟨b, 2, none⟩ = some (.slice a n cap) ∧ w.cell? ⟨b, 3, none⟩ = some (.int .i64 (h 0)) ∧ w.cell? ⟨b, 4, none⟩ = some (.int .i64 (h 1)) ∧ w.cell? ⟨b, 5, none⟩ = some (.int .i64 (h 2)) ∧ w.cell? ⟨b, 6, none⟩ = some (.int .i64 (h 3)) ∧ w.cell? ⟨b, 7, none⟩ = some (.int .i64 (h 4)) ∧ w.cell? ⟨b, 8, none⟩ = some (.int .i64 (h 5)) ∧ w.cell? ⟨b, 9, none⟩ = some (.int .i64 (h 6)) ∧ w.cell? ⟨b, 10, none⟩ = some (.int .i64 (h 7)) ∧ w.cell? ⟨b, 11, none⟩ = some (.int .i64 (h 8)) ∧ w.cell? ⟨b, 12, none⟩ = some (.int .i64 (h 9)) ∧ w.cell? ⟨b, 13, none⟩ = some (.int .i64 (h 10)) ∧ w.cell? ⟨b, 14, none⟩ = some (.int .i64 (h 11)) ∧ w.cell? ⟨b, 15, none⟩ = some (.slice da k dcap) ∧ b < w.heap.size :=
  ⟨hr.cell 0, hr.cell 1, hr.cell 2, hr.cell 3, hr.cell 4, hr.cell 5, hr.cell 6, hr.cell 7, hr.cell 8, hr.cell 9, hr.cell 10, hr.cell 11, hr.cell 12, hr.cell 13, hr.cell 14, hr.cell 15, (Array.getElem?_eq_some_iff.1 hr).1⟩
theorem planfree {w : World} {b : Nat} {S M : Int} {a : Option Addr} {n cap : Nat} {h : Nat → Int} {da : Option Addr} {k dcap : Nat} {T : TypeId} (hr : RowIs w b (planRow S M a n cap h da k dcap) T) :
    w.frozen? ⟨b, 0, none⟩ = false ∧ w.frozen? ⟨b, 1, none⟩ = false ∧ w.frozen? ⟨b, 2, none⟩ = false ∧ w.frozen? ⟨b, 3, none⟩ = false ∧ w.frozen? ⟨b, 4, none⟩ = false ∧ w.frozen? ⟨b, 5, none⟩ = false ∧ w.frozen? ⟨b, 6, none⟩ = false ∧ w.frozen? ⟨b, 7, none⟩ = false ∧ w.frozen? ⟨b, 8, none⟩ = false ∧ w.frozen? ⟨b, 9, none⟩ = false ∧ w.frozen? ⟨b, 10, none⟩ = false ∧ w.frozen? ⟨b, 11, none⟩ = false ∧ w.frozen? ⟨b, 12, none⟩ = false ∧ w.frozen? ⟨b, 13, none⟩ = false ∧ w.frozen? ⟨b, 14, none⟩ = false ∧ w.frozen? ⟨b, 15, none⟩ = false :=
  ⟨hr.frozen 0, hr.frozen 1, hr.frozen 2, hr.frozen 3, hr.frozen 4, hr.frozen 5, hr.frozen 6, hr.frozen 7, hr.frozen 8, hr.frozen 9, hr.frozen 10, hr.frozen 11, hr.frozen 12, hr.frozen 13, hr.frozen 14, hr.frozen 15⟩

/-- The error of a want and a second day. -/
def swapE (n : Nat) (g : Nat → Int) (want day : Int) : Int := if 0 ≤ want ∧ want ≤ (n : Int) - 1 then (if 0 ≤ day ∧ day ≤ 13 then (if g want.toNat = day then 16 else 0) else 3) else 2

set_option maxHeartbeats 4000000 in
theorem checkSwap_c (S M : Int) (a : Option Addr) (n cap : Nat) (l : Nat → Int) (da : Option Addr) (k dcap : Nat) (g : Nat → Int) (want day : Int) (w : World) (hd : Ints w da k g) (hk : k ≤ 1048576) :
    Calls Tryz.prog 35 #[planV S M a n cap l da k dcap, .int .i64 want, .int .i64 day] w fun e w' => e = .returned (.int .i64 (swapE k g want day)) ∧ Below w.heap.size w w' := by
  obtain ⟨W, hW⟩ : ∃ W, w.alloc (.cells (planRow S M a n cap l da k dcap) 56) = W := ⟨_, rfl⟩
  have hB : Below w.heap.size w W := by rw [← hW]; exact Below.alloc1 (Below.refl _ _) _ (Nat.le_refl _)
  have hR : RowIs W w.heap.size (planRow S M a n cap l da k dcap) 56 := by rw [← hW]; exact heap_new_at _ _ _ rfl
  have c15 : W.cell? ⟨w.heap.size, 15, none⟩ = some (.slice da k dcap) := hR.cell 15
  obtain ⟨X, hX⟩ : ∃ X, W.alloc (.cells #[.int .i64 want] 3) = X := ⟨_, rfl⟩
  obtain ⟨Y, hY⟩ : ∃ Y, X.alloc (.cells #[.int .i64 day] 3) = Y := ⟨_, rfl⟩
  have hXb : Below W.heap.size W X := by rw [← hX]; exact Below.alloc1 (Below.refl _ _) _ (Nat.le_refl _)
  have hYb : Below X.heap.size X Y := by rw [← hY]; exact Below.alloc1 (Below.refl _ _) _ (Nat.le_refl _)
  have k1 := within1_c 0 ((k : Int) - 1) want W _ rfl 3
  have k2 := within1_c 0 13 day X _ rfl 3
  rw [hX] at k1
  rw [hY] at k2
  have hBX := bup hB hXb
  have hBY := bup hBX hYb
  have hRY := (hR.below hXb).below hYb
  have y15 : Y.cell? ⟨w.heap.size, 15, none⟩ = some (.slice da k dcap) := hRY.cell 15
  have x15 : X.cell? ⟨w.heap.size, 15, none⟩ = some (.slice da k dcap) := (hR.below hXb).cell 15
  have hdY := Cells.below hd hBY
  have HdY := Lib.hid hdY
  have K1 := Lib.hid k1
  have K2 := Lib.hid k2
  have HBX := Lib.hid hBX
  have HBY := Lib.hid hBY
  have hwr : IntKind.i64.wrap ((k : Int) - 1) = (k : Int) - 1 := IntWalk.i64_in _ (by omega)
  clear hR hXb hYb hBX hBY hRY hdY k1 k2 hd
  simp only [planRow] at hW
  cases h1 : decide (0 ≤ want ∧ want ≤ (k : Int) - 1) with
  | false =>
    have e1 : swapE k g want day = 2 := by rw [swapE, if_neg (by simpa using h1)]
    rw [e1]
    clear e1
    rw [h1] at K1
    clear h1 hY y15
    go_enter Tryz.func35, Tryz.ntmps35
    go_wp2_with fail
    refine K1.out.mono ?_
    rintro e w1 ⟨rfl, rfl⟩
    go_wp2_with fail
    go_ret
    exact ⟨rfl, HBX.out⟩
  | true =>
    have h1' := of_decide_eq_true h1
    cases h2 : decide (0 ≤ day ∧ day ≤ 13) with
    | false =>
      have e1 : swapE k g want day = 3 := by rw [swapE, if_pos h1', if_neg (by simpa using h2)]
      rw [e1]
      clear e1 h1'
      rw [h1] at K1
      rw [h2] at K2
      clear h1 h2
      go_enter Tryz.func35, Tryz.ntmps35
      go_wp2_with fail
      refine K1.out.mono ?_
      rintro e w1 ⟨rfl, rfl⟩
      go_wp2_with fail
      refine K2.out.mono ?_
      rintro e w1 ⟨rfl, rfl⟩
      go_wp2_with fail
      go_ret
      exact ⟨rfl, HBY.out⟩
    | true =>
      have h2' := of_decide_eq_true h2
      obtain ⟨q, rfl⟩ := Int.eq_ofNat_of_zero_le h1'.1
      have hqk : q < k := by omega
      obtain ⟨b, off, rfl, hbs, hc⟩ := Cells.at HdY.out q hqk
      have cq : Y.cell? ⟨b, off + q, none⟩ = some (.int .i64 (g q)) := hc q hqk
      have e1 : swapE k g (q : Int) day = if g q = day then 16 else 0 := by rw [swapE, if_pos h1', if_pos h2']; rfl
      rw [e1]
      rw [h1] at K1
      rw [h2] at K2
      clear h1 h2 h1' h2' e1 hc
      cases h3 : (g q == day) with
      | true =>
        have e3 : (if g q = day then (16 : Int) else 0) = 16 := by rw [if_pos (by simpa using h3)]
        rw [e3]
        clear e3
        go_enter Tryz.func35, Tryz.ntmps35
        go_wp2_with fail
        refine K1.out.mono ?_
        rintro e w1 ⟨rfl, rfl⟩
        go_wp2_with fail
        refine K2.out.mono ?_
        rintro e w1 ⟨rfl, rfl⟩
        go_wp2_with fail
        go_ret
        exact ⟨rfl, HBY.out⟩
      | false =>
        have e3 : (if g q = day then (16 : Int) else 0) = 0 := by rw [if_neg (by simpa using h3)]
        rw [e3]
        clear e3
        go_enter Tryz.func35, Tryz.ntmps35
        go_wp2_with fail
        refine K1.out.mono ?_
        rintro e w1 ⟨rfl, rfl⟩
        go_wp2_with fail
        refine K2.out.mono ?_
        rintro e w1 ⟨rfl, rfl⟩
        go_wp2_with fail
        go_ret
        exact ⟨rfl, HBY.out⟩

end Go.Proofs.YtbjgbgchagfokaaGreat
