/- Contracts of layer 2: which lists are lists of indexes, as the program says. -/
import Derived.Test.YtbjgbgchagfokaaGreatProg
import Derived.Test.YtbjgbgchagfokaaGreatBasaa
import Derived.Test.YtbjgbgchagfokaaGreatBasab
import Derived.Test.YtbjgbgchagfokaaGreatBasan
import Derived.Laws.CopyOwn
import Derived.RangeFuncBound
import Derived.Shelf.Abstract
import Derived.Shelf.RegionOpen
import Derived.OwnWalkIn
import Derived.TacticsInMore
import Derived.LoopNIn
import Derived.LoopIn
import Derived.Scope
import Derived.Lib.SliceRun
import Derived.Maps.AppendAt
import Derived.Test.YtbjgbgchagfokaaGreatBasag
import Derived.Test.YtbjgbgchagfokaaGreatBasad
import Derived.Test.YtbjgbgchagfokaaGreatBasac
namespace Go.Proofs.YtbjgbgchagfokaaGreat
open Go Go.RowKit

/-- The least number that may come next. -/
def nextI (g : Nat → Int) : Nat → Int
  | 0 => 0
  | k + 1 => g k + 1

set_option maxHeartbeats 4000000 in
theorem Indexes_c (top : Int) (a : Option Addr) (n cap : Nat) (f : Nat → Int) (w : World) (hf : Ints w a n f) (hn : n ≤ 1048576) (ht : 0 ≤ top ∧ top ≤ 1048576) :
    Calls Tryz.prog 46 #[.slice a n cap, .int .i64 top] w fun e w' => e = .returned (.bool (listB f top n)) ∧ Below w.heap.size w w' := by
  have hw1 : IntKind.i64.wrap (top - 1) = top - 1 := IntWalk.i64_in _ (by omega)
  go_enter Tryz.func46, Tryz.ntmps46
  go_wp2_with fail
  go_loopw [5, 7, 10] (fun l _ i wr => ∃ k : Nat, k ≤ n ∧ i = .int .i64 k ∧ l = .int .i64 (nextI f k) ∧ listB f top k = true ∧ Below w.heap.size w wr) (fun _ _ i _ => n - (intOf i).toNat)
  case atStart => exact ⟨0, Nat.zero_le _, rfl, rfl, rfl, Below.refl _ _⟩
  case round =>
    obtain ⟨k, hk, rfl, rfl, ho, hB⟩ := hrel
    have hN : 0 ≤ nextI f k ∧ nextI f k ≤ top := by
      cases k with
      | zero => exact ⟨Int.le_refl _, ht.1⟩
      | succ j => have := listB_range f top (j + 1) ho j (by omega); simp only [nextI]; omega
    have Ho := Lib.hid ho
    clear ho
    by_cases hlt : k < n
    · obtain ⟨b, off, rfl, hbs, hc⟩ := Cells.at (Cells.below hf hB) k hlt
      have ck := hc k hlt
      clear hc
      have bad : listBad f top k = !decide (nextI f k ≤ f k ∧ f k ≤ top - 1) := by
        unfold listBad
        rw [← decide_not, decide_eq_decide]
        cases k with
        | zero => simp only [nextI]; omega
        | succ j => simp only [nextI, Nat.add_sub_cancel]; have := listB_range f top (j + 1) Ho.out j (by omega); omega
      have BAD := Lib.hid bad
      clear bad
      obtain ⟨X, hX⟩ : ∃ X, wr.alloc (.cells #[.int .i64 (f k)] 3) = X := ⟨_, rfl⟩
      have hXB : Below wr.heap.size wr X := by rw [← hX]; exact Below.alloc1 (Below.refl _ _) _ (Nat.le_refl _)
      have CX : Calls Tryz.prog 63 #[.int .i64 (nextI f k), .int .i64 (top - 1), .slice (some ⟨wr.heap.size, 0, none⟩) 1 1] X fun e w' => e = .returned (.bool (decide (nextI f k ≤ f k ∧ f k ≤ top - 1))) ∧ X = w' := by
        have := within1_c (nextI f k) (top - 1) (f k) wr _ rfl 3
        rwa [hX] at this
      have HCX := Lib.hid CX
      clear CX
      cases hd : decide (nextI f k ≤ f k ∧ f k ≤ top - 1)
      · have HD := Lib.hid hd
        clear hd
        go_wp2_with fail
        refine HCX.out.mono ?_
        rintro e w1 ⟨rfl, rfl⟩
        rw [HD.out]
        go_wp2_with fail
        go_ret
        exact ⟨ret_b (listB_no f top k n hlt (by rw [BAD.out, HD.out]; rfl)).symm, bup hB hXB⟩
      · have hr := of_decide_eq_true hd
        have HD := Lib.hid hd
        clear hd
        have hw2 : IntKind.i64.wrap (f k + 1) = f k + 1 := IntWalk.i64_in _ (by omega)
        go_wp2_with fail
        refine HCX.out.mono ?_
        rintro e w1 ⟨rfl, rfl⟩
        rw [HD.out]
        go_wp2_with fail
        go_roundw
        case rel => exact ⟨k + 1, by omega, by go_num, rfl, by rw [listB, Ho.out, BAD.out, HD.out]; rfl, bup hB hXB⟩
        case measure => simp [intOf]; omega
    · go_wp2_with fail
      go_ret
      exact ⟨ret_b (by obtain rfl : k = n := by omega
                       exact Ho.out.symm), hB⟩

end Go.Proofs.YtbjgbgchagfokaaGreat

namespace Go.Proofs.YtbjgbgchagfokaaGreat
open Go Go.RowKit Go.Shelf

/-- The first k shops with wants that are not in a list. -/
def othL (l : Nat → Int) (g : Nat → Int) (len k : Nat) : List Nat := (List.range k).filter fun s => decide (0 < l s) && !hasB g s len
theorem othL_no {l g : Nat → Int} {len k : Nat} (h : (decide (0 < l k) && !hasB g k len) = false) : othL l g len (k + 1) = othL l g len k := by
  unfold othL
  rw [List.range_succ, List.filter_append]
  simp only [List.filter_cons, h, List.filter_nil]
  simp
theorem othL_yes {l g : Nat → Int} {len k : Nat} (h : (decide (0 < l k) && !hasB g k len) = true) : othL l g len (k + 1) = othL l g len k ++ [k] := by
  unfold othL
  rw [List.range_succ, List.filter_append]
  simp only [List.filter_cons, h, List.filter_nil]
  rfl
theorem othL_len (l g : Nat → Int) (len k : Nat) : (othL l g len k).length ≤ k := by
  have := List.length_filter_le (fun s : Nat => decide (0 < l s) && !hasB g s len) (List.range k)
  simpa [othL] using this

theorem desk_load {w : World} {b : Nat} {S M : Int} {a : Option Addr} {n cap : Nat} {h : Nat → Int} {T : TypeId} (hr : RowIs w b (deskRow S M a n cap h) T) (x : Nat) (hx : x < 12) : w.cell? ⟨b, 3 + x, none⟩ = some (.int .i64 (h x)) := by
  rw [hr.cell (3 + x)]
  have : x = 0 ∨ x = 1 ∨ x = 2 ∨ x = 3 ∨ x = 4 ∨ x = 5 ∨ x = 6 ∨ x = 7 ∨ x = 8 ∨ x = 9 ∨ x = 10 ∨ x = 11 := by omega
  rcases this with rfl | rfl | rfl | rfl | rfl | rfl | rfl | rfl | rfl | rfl | rfl | rfl <;> rfl

set_option maxRecDepth 100000 in
set_option maxHeartbeats 8000000 in
theorem others_c (s : Nat) (M : Int) (a : Option Addr) (n cap : Nat) (l : Nat → Int) (la : Option Addr) (len lcap : Nat) (g : Nat → Int) (w : World) (hs : s ≤ 6) (hg : Ints w la len g) (hl : len ≤ 1048576) :
    Calls Tryz.prog 50 #[deskV s M a n cap l, .slice la len lcap] w fun e w' => ∃ p c, e = .returned (.slice p (othL l g len s).length c) ∧ Lst w' (othL l g len s) p c ∧ Below w.heap.size w w' := by
  obtain ⟨W, hW⟩ : ∃ W, w.alloc (.cells (deskRow s M a n cap l) 47) = W := ⟨_, rfl⟩
  have hB : Below w.heap.size w W := by rw [← hW]; exact Below.alloc1 (Below.refl _ _) _ (Nat.le_refl _)
  have hD : RowIs W w.heap.size (deskRow s M a n cap l) 47 := by rw [← hW]; exact heap_new_at _ _ _ rfl
  have c0 : W.cell? ⟨w.heap.size, 0, none⟩ = some (.int .i64 s) := hD.cell 0
  have hz := hD.lt
  have HD := Lib.hid hD
  have Hg := Lib.hid (Cells.below hg hB)
  clear hD hg
  simp only [deskRow] at hW
  go_enter Tryz.func50, Tryz.ntmps50
  go_wp2_with fail
  clear hW
  go_loopw [5, 10] (fun v i wr => ∃ (k : Nat) (u : Value), k ≤ s ∧ i = .int .i64 k ∧ u = v ∧ Own wr W.heap.size (othL l g len k) u ∧ Below W.heap.size W wr) (fun _ i _ => s - (intOf i).toNat)
  case atStart => exact ⟨0, _, Nat.zero_le _, rfl, rfl, own_nil _ _, Below.refl _ _⟩
  case round =>
    obtain ⟨k, v, hk, rfl, rfl, hown, hbr⟩ := hrel
    by_cases hlt : k < s
    · have hr := HD.out.below hbr
      have ck := desk_load hr k (by omega)
      have hz2 := hr.lt
      have hlen := othL_len l g len k
      have hUr := hbr.size
      have hc := contains_c (k : Int) la len lcap g wr (Cells.below Hg.out hbr) hl
      have HC := Lib.hid hc
      have Hb := Lib.hid hbr
      have Hown := Lib.hid hown
      clear hr hbr hc hown
      by_cases h0 : 0 < l k
      · have t0 : decide (0 < l k) = true := decide_eq_true h0
        cases h1 : hasB g (k : Int) len with
        | true =>
          have H1 := Lib.hid h1
          rw [h1] at HC
          clear h1
          go_wp2_with fail
          refine HC.out.mono ?_
          rintro e w1 ⟨rfl, rfl⟩
          go_wp2_with fail
          go_roundw
          case rel => exact ⟨k + 1, _, by omega, by go_num, rfl, by rw [othL_no (by rw [H1.out]; simp)]; exact Hown.out, Hb.out⟩
          case measure => simp [intOf]; omega
        | false =>
          have H1 := Lib.hid h1
          rw [h1] at HC
          clear h1
          obtain ⟨X, hX⟩ : ∃ X, wr.alloc (.cells #[.int .i64 (k : Int)] 3) = X := ⟨_, rfl⟩
          have hXr : RowIs X wr.heap.size #[.int .i64 (k : Int)] 3 := by rw [← hX]; exact heap_new_at _ _ _ rfl
          have hXo : Own X W.heap.size (othL l g len k) v := by rw [← hX]; exact Hown.out.alloc _
          have hXb : Below wr.heap.size wr X := by rw [← hX]; exact Below.alloc1 (Below.refl _ _) _ (Nat.le_refl _)
          obtain ⟨v', A', hrun, hown', hgr, hbA⟩ := hXo.append wr.heap.size k hXr (Nat.le_trans hUr hXb.size) (by omega)
          have Hown' := Lib.hid hown'
          clear hXr hXo hown' hgr
          go_wp2_with fail
          refine HC.out.mono ?_
          rintro e w1 ⟨rfl, rfl⟩
          go_wp2_with (at_builtin; refine wpList_append_run rfl _ _ 25 rfl rfl rfl hrun ?_)
          go_roundw
          case rel => exact ⟨k + 1, _, by omega, by go_num, rfl, by rw [othL_yes (by rw [H1.out]; simpa using h0)]; exact Hown'.out, (Hb.out.trans (hXb.mono hUr)).trans hbA⟩
          case measure => simp [intOf]; omega
      · have t0 : decide (0 < l k) = false := decide_eq_false h0
        go_wp2_with fail
        go_roundw
        case rel => exact ⟨k + 1, _, by omega, by go_num, rfl, by rw [othL_no (by simp [h0])]; exact Hown.out, Hb.out⟩
        case measure => simp [intOf]; omega
    · obtain rfl : k = s := by omega
      obtain ⟨p, c, rfl, hL, -⟩ := hown.lst
      go_wp2_with fail
      refine bodyPost_ret (v := .slice p (othL l g len k).length c) (by simp [results, Tryz.results50, go_sem]) rfl ⟨p, c, rfl, hL, bup hB hbr⟩

end Go.Proofs.YtbjgbgchagfokaaGreat

namespace Go.Proofs.YtbjgbgchagfokaaGreat
open Go Go.RowKit Go.Shelf

theorem oneInt : (Tryz.prog.info? 3).map (·.size) = some 1 := by kernel_rfl

/-- copy of as many numbers as a new row has. -/
theorem copy_rowA (w : World) (g k : Nat) (sp : Option Addr) (m cap : Nat) (f : Nat → Int) (hg : RowIs w g (rowA k fun _ => 0) 3) (hm : k ≤ m) (hsrc : Ints w sp k f) :
    ∃ w', (Builtin.copy_ #[25, 25] 3 #[.slice (some ⟨g, 0, none⟩) k k, .slice sp m cap]).run Tryz.prog w = .ok (.int .i64 k) w' ∧ RowIs w' g (rowA k f) 3 ∧ Below g w w' ∧ ∀ b, b ≠ g → w'.heap[b]? = w.heap[b]? := by
  have hlen : ((List.range k).map fun i => Value.int .i64 (f i)).length = k := by simp
  have hmin : Nat.min m k = k := by show min m k = k; omega
  by_cases h0 : k = 0
  · subst h0
    exact ⟨w, run_copy_none (P := Tryz.prog) w _ _ _ _ _ _ _ _ _ _ Tryz.underlying25 oneInt (by simp), hg, Below.refl _ _, fun _ _ => rfl⟩
  · obtain ⟨b, off, rfl, hb, hc⟩ := Cells.at hsrc 0 (by omega)
    have := run_copy_row (P := Tryz.prog) w 25 25 3 3 g 0 k k ⟨b, off, none⟩ m cap (rowA k fun _ => 0) 3 ((List.range k).map fun i => Value.int .i64 (f i)) Tryz.underlying25 oneInt hg (by rw [hlen, hmin])
      (fun j v hj => by
        simp only [List.getElem?_map, Option.map_eq_some_iff] at hj
        obtain ⟨i, hi, rfl⟩ := hj
        have hjk : j < k := by
          have := (List.getElem?_eq_some_iff.1 hi).1
          simpa using this
        rw [List.getElem?_range hjk] at hi
        obtain rfl := Option.some.inj hi
        rw [Addr.add_lit]
        exact hc j hjk) (by simp [rowA]) (by intro v hv; simp at hv; obtain ⟨i, _, rfl⟩ := hv; rfl)
    rw [hlen] at this
    have e : ((rowA k fun _ => 0).toList.take 0 ++ ((List.range k).map fun i => Value.int .i64 (f i)) ++ (rowA k fun _ => 0).toList.drop (0 + k)).toArray = rowA k f := by simp [rowA]
    rw [e] at this
    exact ⟨_, this, setRow_heap w g _ _ _ _ hg, below_setRow (Below.refl _ _) (Nat.le_refl _) _, fun b hb => setRow_other w g b _ hb⟩

set_option maxRecDepth 100000 in
set_option maxHeartbeats 8000000 in
theorem handOver_c (s m : Nat) (a : Option Addr) (n cap : Nat) (l h : Nat → Int) (w : World) (hs : s ≤ 6) (hm : m ≤ 6) :
    Calls Tryz.prog 41 #[deskV s m a n cap l, loadV h] w fun e w' => ∃ b1 b2, e = .returned (.tuple #[.slice (some ⟨b1, 0, none⟩) s s, .slice (some ⟨b2, 0, none⟩) m m]) ∧ RowIs w' b1 (rowA s h) 3 ∧ RowIs w' b2 (rowA m fun y => h (6 + y)) 3 ∧ w.heap.size < b1 ∧ w.heap.size < b2 ∧ b1 ≠ b2 ∧ Below w.heap.size w w' := by
  obtain ⟨W, hW⟩ : ∃ W, (w.alloc (.cells (deskRow s m a n cap l) 47)).alloc (.cells (loadRow h) 45) = W := ⟨_, rfl⟩
  have hB : Below w.heap.size w W := by rw [← hW]; exact Below.alloc1 (Below.alloc1 (Below.refl _ _) _ (Nat.le_refl _)) _ (Nat.le_refl _)
  have hD : RowIs W w.heap.size (deskRow s m a n cap l) 47 := by rw [← hW]; exact RowIs.alloc (heap_new_at _ _ _ rfl) _
  have hL : RowIs W (w.heap.size + 1) (loadRow h) 45 := by rw [← hW]; exact heap_new_at _ _ _ (by simp)
  have c0 : W.cell? ⟨w.heap.size, 0, none⟩ = some (.int .i64 s) := hD.cell 0
  have c1 : W.cell? ⟨w.heap.size, 1, none⟩ = some (.int .i64 m) := hD.cell 1
  have hz : W.heap.size = w.heap.size + 2 := by rw [← hW]; simp
  have dz := hD.lt
  have i1 : Ints W (some ⟨w.heap.size + 1, 0, none⟩) s h := .inr ⟨w.heap.size + 1, 0, rfl, hL.lt, fun i hi => (hL.cell (0 + i)).trans (by rw [Nat.zero_add]; exact loadRow_at h i (by omega))⟩
  have i2 : Ints W (some ⟨w.heap.size + 1, 6, none⟩) m fun y => h (6 + y) := .inr ⟨w.heap.size + 1, 6, rfl, hL.lt, fun i hi => (hL.cell (6 + i)).trans (loadRow_at h (6 + i) (by omega))⟩
  have I1 := Lib.hid i1
  have I2 := Lib.hid i2
  have HB := Lib.hid hB
  obtain ⟨V1, hV1⟩ : ∃ V1, ((W.alloc (.cells (rowA s fun _ => 0) 3)).alloc (.cells (rowA m fun _ => 0) 3)).drew = V1 := ⟨_, rfl⟩
  obtain ⟨V2, hV2⟩ : ∃ V2, ((W.alloc (.cells (rowA m fun _ => 0) 3)).alloc (.cells (rowA s fun _ => 0) 3)).drew = V2 := ⟨_, rfl⟩
  have SV1 : RowIs V1 W.heap.size (rowA s fun _ => 0) 3 ∧ RowIs V1 (W.heap.size + 1) (rowA m fun _ => 0) 3 ∧ Below W.heap.size W V1 := by
    rw [← hV1]
    exact ⟨RowIs.alloc (heap_new_at W _ _ rfl) _, heap_new_at _ _ _ (by simp), (Below.alloc1 (Below.alloc1 (Below.refl _ _) _ (Nat.le_refl _)) _ (by simp)).drew⟩
  have SV2 : RowIs V2 (W.heap.size + 1) (rowA s fun _ => 0) 3 ∧ RowIs V2 W.heap.size (rowA m fun _ => 0) 3 ∧ Below W.heap.size W V2 := by
    rw [← hV2]
    exact ⟨heap_new_at _ _ _ (by simp), RowIs.alloc (heap_new_at W _ _ rfl) _, (Below.alloc1 (Below.alloc1 (Below.refl _ _) _ (Nat.le_refl _)) _ (by simp)).drew⟩
  have mk1 := make_row s (by omega)
  have mk2 := make_row m (by omega)
  rw [hz] at SV1 SV2
  have HzW := Lib.hid hz
  replace SV1 := Lib.hid SV1
  replace SV2 := Lib.hid SV2
  clear hD hL i1 i2 hB
  simp only [deskRow, loadRow] at hW
  go_enter Tryz.func41, Tryz.ntmps41
  go_wp2_with fail
  go_region
  · clear hV1 hV2 hW mk1 mk2 c0 c1
    obtain ⟨X, hrX, hX, hbX, hoX⟩ := copy_rowA V1 (w.heap.size + 2) s (some ⟨w.heap.size + 1, 0, none⟩) 6 12 h SV1.out.1 hs (Cells.below I1.out (by rw [HzW.out]; exact SV1.out.2.2))
    obtain ⟨Y, hrY, hY, hbY, hoY⟩ := copy_rowA X (w.heap.size + 2 + 1) m (some ⟨w.heap.size + 1, 6, none⟩) 6 6 (fun y => h (6 + y)) ((hoX _ (by omega)).trans SV1.out.2.1) hm (Cells.below I2.out (by rw [HzW.out]; exact SV1.out.2.2.trans (hbX.mono (by omega))))
    have hX2 : RowIs Y (w.heap.size + 2) (rowA s h) 3 := (hoY _ (by omega)).trans hX
    have HX := Lib.hid hX2
    have HY := Lib.hid hY
    have HB2 := Lib.hid (HB.out.trans (((SV1.out.2.2.mono (by omega)).trans (hbX.mono (by omega))).trans (hbY.mono (by omega)) : Below w.heap.size W Y))
    clear hX hX2 hY hbX hbY hoX hoY
    go_wp2_with fail
    refine bodyPost_ret (v := .tuple #[.slice (some ⟨(w.heap.size + 2), 0, none⟩) s s, .slice (some ⟨(w.heap.size + 2 + 1), 0, none⟩) m m]) (by simp [results, Tryz.results41, go_sem]) rfl ⟨_, _, rfl, HX.out, HY.out, by omega, by omega, by omega, HB2.out⟩
  · clear hV1 hV2 hW mk1 mk2 c0 c1
    obtain ⟨X, hrX, hX, hbX, hoX⟩ := copy_rowA V2 (w.heap.size + 2 + 1) s (some ⟨w.heap.size + 1, 0, none⟩) 6 12 h SV2.out.1 hs (Cells.below I1.out (by rw [HzW.out]; exact SV2.out.2.2))
    obtain ⟨Y, hrY, hY, hbY, hoY⟩ := copy_rowA X (w.heap.size + 2) m (some ⟨w.heap.size + 1, 6, none⟩) 6 6 (fun y => h (6 + y)) ((hoX _ (by omega)).trans SV2.out.2.1) hm (Cells.below I2.out (by rw [HzW.out]; exact SV2.out.2.2.trans (hbX.mono (by omega))))
    have hX2 : RowIs Y (w.heap.size + 2 + 1) (rowA s h) 3 := (hoY _ (by omega)).trans hX
    have HX := Lib.hid hX2
    have HY := Lib.hid hY
    have HB2 := Lib.hid (HB.out.trans (((SV2.out.2.2.mono (by omega)).trans (hbX.mono (by omega))).trans (hbY.mono (by omega)) : Below w.heap.size W Y))
    clear hX hX2 hY hbX hbY hoX hoY
    go_wp2_with fail
    refine bodyPost_ret (v := .tuple #[.slice (some ⟨(w.heap.size + 2 + 1), 0, none⟩) s s, .slice (some ⟨(w.heap.size + 2), 0, none⟩) m m]) (by simp [results, Tryz.results41, go_sem]) rfl ⟨_, _, rfl, HX.out, HY.out, by omega, by omega, by omega, HB2.out⟩

set_option maxHeartbeats 4000000 in
theorem mLoads_yes_c (s M : Nat) (a : Option Addr) (n cap : Nat) (f : Nat → W2) (w : World) (hf : Wants w a n f) (hn : n ≤ 1048576) (hE : bookE s M n f = 0) :
    Calls Tryz.prog 19 #[bookV s M a n cap] w fun e w' => ∃ b1 b2, e = .returned (.tuple #[.slice (some ⟨b1, 0, none⟩) s s, .slice (some ⟨b2, 0, none⟩) M M, .int .i64 0]) ∧ RowIs w' b1 (rowA s (bookL f n)) 3 ∧ RowIs w' b2 (rowA M fun y => bookL f n (6 + y)) 3 ∧ w.heap.size < b1 ∧ w.heap.size < b2 ∧ b1 ≠ b2 ∧ Below w.heap.size w w' := by
  obtain ⟨l', hl'⟩ : ∃ l', bookL f n = l' := ⟨_, rfl⟩
  rw [hl']
  have HL' := Lib.hid hl'
  clear hl'
  obtain ⟨W, hW⟩ : ∃ W, w.alloc (.cells #[.int .i64 s, .int .i64 M, .slice a n cap] 24) = W := ⟨_, rfl⟩
  have hB : Below w.heap.size w W := by rw [← hW]; exact Below.alloc1 (Below.refl _ _) _ (Nat.le_refl _)
  have hR : RowIs W w.heap.size #[.int .i64 s, .int .i64 M, .slice a n cap] 24 := by rw [← hW]; exact heap_new_at _ _ _ rfl
  have r0 : W.cell? ⟨w.heap.size, 0, none⟩ = some (.int .i64 s) := RowIs.cell hR 0
  have r1 : W.cell? ⟨w.heap.size, 1, none⟩ = some (.int .i64 M) := RowIs.cell hR 1
  have r2 : W.cell? ⟨w.heap.size, 2, none⟩ = some (.slice a n cap) := RowIs.cell hR 2
  have hGB := book_good hE
  have hs6 : s ≤ 6 := by have := hGB.1; omega
  have hm6 : M ≤ 6 := by have := hGB.2.1; omega
  have hn14 : n ≤ 14 := hGB.2.2.1
  have hc := newDesk_yes_c s M a n cap f W (hf.below hB) hn hE
  obtain ⟨l, hl⟩ : ∃ l, bookL f n = l := ⟨_, rfl⟩
  rw [hl] at hc
  try rw [hl]
  have HLB := Lib.hid hl
  have HC := Lib.hid hc
  have HGB := Lib.hid hGB
  have Hf := Lib.hid hf
  have HE := Lib.hid hE
  clear hR hc hl hGB hf hE
  go_enter Tryz.func19, Tryz.ntmps19
  go_wp2_with fail
  refine HC.out.mono ?_
  rintro e w1 ⟨rfl, hb1⟩
  have hB1 := bup hB hb1
  obtain ⟨V, U, z, hN⟩ := newDesk w1 s M a n cap l
  have hV := hN.made
  have hz := hN.size
  have hU := hN.stored
  simp only [putL, deskL, Nat.reduceAdd] at hU
  obtain ⟨f0, f1, f2, f3, f4, f5, f6, f7, f8, f9, f10, f11, f12, f13, f14⟩ := deskfree hN.zero
  obtain ⟨e0, e1, e2, e3, e4, e5, e6, e7, e8, e9, e10, e11, e12, e13, e14, ez⟩ := deskcells hN.zero
  obtain ⟨c0, c1, c2, c3, c4, c5, c6, c7, c8, c9, c10, c11, c12, c13, c14, cz⟩ := deskcells hN.row
  have hB2 := bup hB1 hN.below
  have HR := Lib.hid hN.row
  clear hN hW r0 r1 r2 hB hb1 hB1 HC
  have hll : l' = l := by rw [← HL'.out, HLB.out]
  subst hll
  have hsz := hB2.size
  go_wp2_with fail
  refine (handOver_c s M a n cap l' l' U hs6 hm6).mono ?_
  rintro e w2 ⟨b1, b2, rfl, h1, h2, h3, h4, h5, hb2⟩
  clear hU hV f0 f1 f2 f3 f4 f5 f6 f7 f8 f9 f10 f11 f12 f13 f14 e0 e1 e2 e3 e4 e5 e6 e7 e8 e9 e10 e11 e12 e13 e14 ez c0 c1 c2 c3 c4 c5 c6 c7 c8 c9 c10 c11 c12 c13 c14 cz
  have H1 := Lib.hid h1
  have H2 := Lib.hid h2
  clear h1 h2
  go_wp2_with fail
  refine bodyPost_ret (v := .tuple #[.slice (some ⟨b1, 0, none⟩) s s, .slice (some ⟨b2, 0, none⟩) M M, .int .i64 0]) (by simp [results, Tryz.results19, go_sem]) rfl ⟨b1, b2, rfl, H1.out, H2.out, by omega, by omega, h5, bup hB2 hb2⟩

end Go.Proofs.YtbjgbgchagfokaaGreat

namespace Go.Proofs.YtbjgbgchagfokaaGreat
open Go Go.RowKit Go.Shelf Go.Lib
attribute [local go_sem] Oper.semAt_some

/-- A row of marks. -/
def rowB (s : Nat) (h : Nat → Bool) : Array Value := ((List.range s).map fun i => Value.bool (h i)).toArray
theorem rowB_get (s : Nat) (h : Nat → Bool) (j : Nat) (hj : j < s) : (rowB s h)[j]? = some (.bool (h j)) := by simp [rowB, hj]
theorem rowB_set (s : Nat) (h g : Nat → Bool) (j : Nat) (v : Bool) (hv : v = g j) (hg : ∀ i, i < s → i ≠ j → g i = h i) : (rowB s h).setIfInBounds j (.bool v) = rowB s g := by
  apply Array.ext_getElem?
  intro i
  simp only [rowB, Array.getElem?_setIfInBounds]
  by_cases e : j = i
  · subst e
    by_cases hj : j < s
    · simp [hj, hv]
    · simp [hj]
  · by_cases hi : i < s
    · simp [e, hi, hg i hi (fun h => e h.symm)]
    · simp [e, hi]

set_option maxHeartbeats 1000000 in
theorem firstUnused_c (a : Option Addr) (k cap : Nat) (d : Nat → Nat) (w : World) (hd : Ints w a k fun i => (d i : Int)) (hk : k ≤ 1048576) (hd14 : ∀ i, i < k → d i < 14) :
    Calls Tryz.prog 62 #[.slice a k cap] w fun e w' => e = .returned (.int .i64 (topU d k : Nat)) ∧ w = w' := by
  have htop : ∀ j, j ≤ k → topU d j ≤ 14 := fun j => by
    induction j with
    | zero => intro _; exact Nat.zero_le _
    | succ j ih =>
      intro h
      have h1 := ih (by omega)
      have h2 := hd14 j (by omega)
      simp only [topU]
      omega
  go_enter Tryz.func62, Tryz.ntmps62
  go_wp2
  go_loop [3, 8] (fun u i => ∃ j : Nat, j ≤ k ∧ i = .int .i64 j ∧ u = .int .i64 (topU d j : Nat)) (fun _ i => k - (intOf i).toNat)
  case atStart => exact ⟨0, Nat.zero_le _, rfl, rfl⟩
  case round =>
    obtain ⟨j, hj, rfl, rfl⟩ := hrel
    by_cases hlt : j < k
    · obtain ⟨b, off, rfl, hbs, hc⟩ := Cells.at hd j hlt
      have cj : w.cell? ⟨b, off + j, none⟩ = some (.int .i64 (d j : Int)) := hc j hlt
      clear hc
      have h1 := htop j hj
      have h2 := hd14 j hlt
      obtain ⟨t, ht⟩ : ∃ t, topU d j = t := ⟨_, rfl⟩
      obtain ⟨y, hy⟩ : ∃ y, d j = y := ⟨_, rfl⟩
      have hn : topU d (j + 1) = max t (y + 1) := by rw [← ht, ← hy]; rfl
      rw [ht] at h1 ⊢
      rw [hy] at cj h2
      have hw1 : IntKind.i64.wrap ((y : Int) + 1) = (y : Int) + 1 := IntWalk.i64_in _ (by omega)
      by_cases h3 : t < y + 1
      · have e1 : max (t : Int) ((y : Int) + 1) = (y : Int) + 1 := by omega
        have e2 : (t : Int) < (y : Int) + 1 := by omega
        go_wp2
        go_round
        case rel => exact ⟨j + 1, by omega, by go_num, by rw [hn, show max t (y + 1) = y + 1 by omega]; go_num⟩
        case measure => simp [intOf]; omega
      · have e1 : max (t : Int) ((y : Int) + 1) = (t : Int) := by omega
        have e2 : ¬ (t : Int) < (y : Int) + 1 := by omega
        go_wp2
        go_round
        case rel => exact ⟨j + 1, by omega, by go_num, by rw [hn, show max t (y + 1) = t by omega]⟩
        case measure => simp [intOf]; omega
    · obtain rfl : j = k := by omega
      go_wp2
      go_ret
      exact ⟨rfl, rfl⟩

/-- Which days the want k cannot have, by those of a list of wants that are before it. -/
def takenB (k : Nat) (d : Nat → Nat) (l : List Nat) (y : Nat) : Bool := l.any fun i => decide (i < k) && decide (d i = y)
theorem takenB_add (k : Nat) (d : Nat → Nat) (l : List Nat) (i y : Nat) : takenB k d (l ++ [i]) y = (takenB k d l y || (decide (i < k) && decide (d i = y))) := by simp [takenB]

theorem zeroB (w : World) : (zeroValue 4).run Tryz.prog w = .ok (.bool false) w := by simp [Tryz.zeroValue4]

theorem setCells_row {T : TypeId} (b : Nat) : ∀ (l : List Value) (w : World) (c : Array Value) (o : Nat), RowIs w b c T → (w.setCells b o l).heap[b]? = some (.cells (setL c o l) T (0, 0))
  | [], _, _, _, h => h
  | v :: l, w, c, o, h => setCells_row b l (w.setCell ⟨b, o, none⟩ v) (c.setIfInBounds o v) (o + 1) (h.set o v)

theorem grown_set (w : World) (a : Addr) (u : Value) : w.grownBy (w.setCell a u) (some a.block) :=
  ⟨rfl, rfl, rfl, by simp, fun k _ hk => heap_setCell_other w a k u (fun e => hk (by rw [e]))⟩
theorem grown_sets (b : Nat) : ∀ (l : List Value) (o : Nat) (w : World), w.grownBy (w.setCells b o l) (some b)
  | [], _, w => World.grownBy.refl w _
  | v :: l, o, w => World.grownBy.trans (grown_set w ⟨b, o, none⟩ v) (grown_sets b l (o + 1) _)

theorem clear_row (h : Nat → Bool) : setL (rowB 14 h) 0 (List.replicate 14 (.bool false)) = rowB 14 fun _ => false := by
  rw [show rowB 14 h = (#[.bool (h 0), .bool (h 1), .bool (h 2), .bool (h 3), .bool (h 4), .bool (h 5), .bool (h 6), .bool (h 7), .bool (h 8), .bool (h 9), .bool (h 10), .bool (h 11), .bool (h 12), .bool (h 13)] : Array Value) from rfl, show (rowB 14 fun _ => false) = (#[.bool false, .bool false, .bool false, .bool false, .bool false, .bool false, .bool false, .bool false, .bool false, .bool false, .bool false, .bool false, .bool false, .bool false] : Array Value) from rfl]
  simp [setL, List.replicate_succ]

set_option maxHeartbeats 1000000 in
theorem clear_marks (w : World) (b : Nat) (h : Nat → Bool) (hr : RowIs w b (rowB 14 h) 82) :
    ∃ w', (Builtin.clear_ #[101] 0 #[.slice (some ⟨b, 0, none⟩) 14 14]).run Tryz.prog w = .ok (.tuple #[]) w' ∧ RowIs w' b (rowB 14 fun _ => false) 82 ∧ w.grownBy w' (some b) := by
  refine ⟨_, run_clear_slice w 101 4 0 (.bool false) Tryz.underlying101 zeroB rfl rfl b 0 14 14 (by omega) (fun j hj => by rw [Nat.zero_add, hr.cell j, rowB_get _ _ _ hj]; rfl) (fun j _ => hr.frozen _), ?_, ?_⟩
  · have := setCells_row b (List.replicate 14 (.bool false)) w _ 0 hr
    rw [RowIs, this, clear_row]
  · exact grown_sets b _ 0 w

end Go.Proofs.YtbjgbgchagfokaaGreat

namespace Go.Proofs.YtbjgbgchagfokaaGreat
open Go Go.RowKit Go.Shelf
attribute [local go_sem] Oper.semAt_some

theorem ints_kept {w W : World} {a : Option Addr} {n : Nat} {d : Nat → Int} (h : Ints w a n d) (hz : w.heap.size ≤ W.heap.size) (hb : ∀ k off, a = some ⟨k, off, none⟩ → W.heap[k]? = w.heap[k]?) : Ints W a n d := by
  rcases h with h | ⟨b, off, rfl, hlt, hc⟩
  · exact .inl h
  · have e := hb b off rfl
    exact .inr ⟨b, off, rfl, Nat.lt_of_lt_of_le hlt hz, fun i hi => (World.cell?_of_block (a := ⟨b, _, none⟩) e).trans (hc i hi)⟩

theorem grown_below {w A B : World} {r z : Nat} (h : w.grownBy A (some r)) (hb : Below z A B) (hz : w.heap.size ≤ z) : w.grownBy B (some r) :=
  ⟨hb.os.trans h.os, hb.tape.trans h.tape, hb.output.trans h.output, Nat.le_trans h.size hb.size, fun k hk hne => (hb.block k (by omega)).trans (h.block k hk hne)⟩

set_option maxRecDepth 100000 in
set_option maxHeartbeats 4000000 in
theorem markTaken_c (S M : Int) (a : Option Addr) (n cap : Nat) (f : Nat → W2) (l : Nat → Int) (tb : Nat) (h : Nat → Bool) (da : Option Addr) (k dcap : Nat) (d : Nat → Nat) (w : World) (hf : Wants w a n f) (hn : n ≤ 1048576) (hk : k < n) (hd : Ints w da k fun i => (d i : Int)) (hd14 : ∀ i, i < k → d i < 14)
    (ht : RowIs w tb (rowB 14 h) 82) (hat : ∀ b off, a = some ⟨b, off, none⟩ → b ≠ tb) (hdt : ∀ b off, da = some ⟨b, off, none⟩ → b ≠ tb) :
    Calls Tryz.prog 61 #[deskV S M a n cap l, .pointer (some ⟨tb, 0, none⟩), .slice da k dcap] w fun e w' => e = .returned (.tuple #[]) ∧ RowIs w' tb (rowB 14 (takenB k d (clashL f k n))) 82 ∧ w.grownBy w' (some tb) := by
  obtain ⟨Z, hZ⟩ : ∃ Z, ((w.alloc (.cells (deskRow S M a n cap l) 47)).alloc (.cells #[.pointer (some ⟨tb, 0, none⟩)] 84)).alloc (.cells #[.slice da k dcap] 25) = Z := ⟨_, rfl⟩
  have hB : Below w.heap.size w Z := by rw [← hZ]; exact Below.alloc1 (Below.alloc1 (Below.alloc1 (Below.refl _ _) _ (Nat.le_refl _)) _ (Nat.le_refl _)) _ (Nat.le_refl _)
  have hD : RowIs Z w.heap.size (deskRow S M a n cap l) 47 := by rw [← hZ]; exact RowIs.alloc (RowIs.alloc (heap_new_at _ _ _ rfl) _) _
  have hL : RowIs Z (w.heap.size + 1) #[.pointer (some ⟨tb, 0, none⟩)] 84 := by rw [← hZ]; exact RowIs.alloc (heap_new_at _ _ _ (by simp)) _
  have hF : RowIs Z (w.heap.size + 2) #[.slice da k dcap] 25 := by rw [← hZ]; exact heap_new_at _ _ _ (by simp)
  have htb := ht.lt
  have hzZ : Z.heap.size = w.heap.size + 3 := by rw [← hZ]; simp
  have hT := RowIs.below ht hB
  obtain ⟨Y, hY, hYt, hYg⟩ := clear_marks Z tb h hT
  have hb14 : ∀ j, j < 14 → Z.cell? ⟨tb, j, none⟩ = some (.bool (h j)) := fun j hj => by rw [hT.cell j, rowB_get _ _ _ hj]
  have t0 := hb14 0 (by omega)
  have l0 : Z.cell? ⟨w.heap.size + 1, 0, none⟩ = some (.pointer (some ⟨tb, 0, none⟩)) := hL.cell 0
  obtain ⟨c0, c1, c2, c3, c4, c5, c6, c7, c8, c9, c10, c11, c12, c13, c14, cz⟩ := deskcells (((hYg.block _ (by omega) (by simp; omega))).trans hD : RowIs Y w.heap.size _ _)
  have hYz : w.heap.size + 3 ≤ Y.heap.size := by have := hYg.size; omega
  have hLY : RowIs Y (w.heap.size + 1) #[.pointer (some ⟨tb, 0, none⟩)] 84 := (hYg.block _ (by omega) (by simp; omega)).trans hL
  have hFY : RowIs Y (w.heap.size + 2) #[.slice da k dcap] 25 := (hYg.block _ (by omega) (by simp; omega)).trans hF
  have y2 : Y.cell? ⟨w.heap.size + 2, 0, none⟩ = some (.slice da k dcap) := hFY.cell 0
  have hwY : w.grownBy Y (some tb) := ⟨hYg.os.trans hB.os, hYg.tape.trans hB.tape, hYg.output.trans hB.output, by omega, fun i hi hne => (hYg.block i (by omega) hne).trans (hB.block i hi)⟩
  have hfY : Wants Y a n f := wants_block hf (by omega) fun b off e => hwY.block b (by obtain ⟨b', off', he, hbs, -⟩ := Wants.at hf k hk; subst e; cases he; exact hbs) (by have := hat b off e; simpa using this)
  have hdY : 0 < k → Ints Y da k fun i => (d i : Int) := fun h0 => ints_kept hd (by omega) fun b off e => hwY.block b (by obtain ⟨b', off', he, hbs, -⟩ := Cells.at hd 0 h0; subst e; cases he; exact hbs) (by have := hdt b off e; simpa using this)
  have hc := clashes_c S M a n cap f l k Y hfY hk hn
  have HC := Lib.hid hc
  have HD := Lib.hid hD
  have HL := Lib.hid hLY
  have HF := Lib.hid hFY
  have HwY := Lib.hid hwY
  have HT := Lib.hid hYt
  have HfY := Lib.hid hfY
  have HdY := Lib.hid hdY
  have Hat := Lib.hid hat
  have Hdt := Lib.hid hdt
  have HYz := Lib.hid hYz
  have Hf0 := Lib.hid hf
  have Hd0 := Lib.hid hd
  clear hc hD hL hF hB hzZ hf hd hT hLY hFY hwY hfY hdY ht hb14 hYg hYt hat hdt
  simp only [deskRow] at hZ
  refine (callsIn_wide (n := 1)).1 ?_
  refine callsIn_of_wp_marks Tryz.func61 rfl trivial ?_ rfl
  simp only [Tryz.ntmps61, List.size_toArray, List.length_cons, List.length_nil, Nat.reduceAdd, Nat.reduceSub, Array.replicate_succ, Array.replicate_zero, List.push_toArray, List.append_toArray, List.nil_append, List.cons_append]
  gi_wp2_with fail
  refine ⟨trivial, (callsIn_wide.2 HC.out).mono ?_⟩
  rintro e W ⟨rfl, hW⟩
  obtain ⟨z, hz⟩ : ∃ z, Y.heap.size = z := ⟨_, rfl⟩
  have hB2 : Below z Y W := by rw [← hW, ← hz]; exact Below.alloc1 (Below.alloc1 (Below.alloc1 (Below.refl _ _) _ (Nat.le_refl _)) _ (Nat.le_refl _)) _ (Nat.le_refl _)
  have hD2 : RowIs W z (deskRow S M a n cap l) 47 := by rw [← hW, ← hz]; exact RowIs.alloc (RowIs.alloc (heap_new_at _ _ _ rfl) _) _
  have hI2 : RowIs W (z + 1) #[.int .i64 k] 3 := by rw [← hW, ← hz]; exact RowIs.alloc (heap_new_at _ _ _ (by simp)) _
  have hO2 : RowIs W (z + 2) #[.int .i64 (f k).s, .int .i64 (f k).m] 77 := by rw [← hW, ← hz]; exact heap_new_at _ _ _ (by simp)
  have hzW : W.heap.size = z + 3 := by rw [← hW, ← hz]; simp
  have HY3 : w.heap.size + 3 ≤ z := by have := HYz.out; omega
  have hw0 : w.grownBy W (some tb) := grown_below HwY.out hB2 (by omega)
  have hWY : ∀ b off, a = some ⟨b, off, none⟩ → W.heap[b]? = w.heap[b]? ∧ b < w.heap.size := fun b off e => by
    obtain ⟨b', off', he, hbs, -⟩ := Wants.at Hf0.out k hk
    have hne := Hat.out b off e
    rw [e] at he
    cases he
    exact ⟨hw0.block b hbs (by simpa using hne), hbs⟩
  have hG := clashes_gives S M a n cap f l k z W (wants_block Hf0.out (by omega) fun b off e => (hWY b off e).1) hk hn hD2 hI2 hO2
  have HG := Lib.hid hG
  have HLW := Lib.hid ((hB2.block (w.heap.size + 1) (by omega)).trans HL.out)
  have HFW := Lib.hid ((hB2.block (w.heap.size + 2) (by omega)).trans HF.out)
  have HTW := Lib.hid ((hB2.block tb (by omega)).trans HT.out)
  have Hw0 := Lib.hid hw0
  have HzW := Lib.hid hzW
  have HzY := Lib.hid HY3
  have hKk : ∀ i, clashK a z i → i < W.heap.size := fun i hi => by
    rcases hi with rfl | rfl | rfl | ⟨off, h⟩
    · omega
    · omega
    · omega
    · have := (hWY i off h).2
      omega
  have htk0 : ∀ y, takenB k d ((clashL f k n).take 0) y = false := fun y => by simp [takenB]
  have hrow0 : RowIs W tb (rowB 14 (takenB k d ((clashL f k n).take 0))) 82 := by
    rw [show takenB k d ((clashL f k n).take 0) = fun _ => false from funext htk0]
    exact HTW.out
  have HTW0 := Lib.hid hrow0
  rw [hz]
  clear hW hZ hG hD2 hI2 hO2 hB2 hzW HC HD HL HF hw0 HwY HT HfY hz c0 c1 c2 c3 c4 c5 c6 c7 c8 c9 c10 c11 c12 c13 c14 cz HYz htk0 hrow0 HTW HY3 y2 l0 t0 HdY hYz
  gi_wp2_with fail
  have hLk : ∀ j (hj : j < ((clashL f k n).map fun i : Nat => #[Value.int .i64 (i : Int)]).length), ((clashL f k n).map fun i : Nat => #[Value.int .i64 (i : Int)])[j] = #[Value.int .i64 ((clashL f k n).getD j 0 : Nat)] := fun j hj => by
    have hj' : j < (clashL f k n).length := by simpa using hj
    simp [List.getD, hj']
  refine wpIn_rangeL (gf := 82) (first := #[]) (lb := #[.pointer (some ⟨z, 0, none⟩), .pointer (some ⟨z + 1, 0, none⟩), .pointer (some ⟨z + 2, 0, none⟩)]) rfl (enters_of Tryz.func82 (by kernel_rfl) rfl) HG.out hKk (fun k hk => by rw [hLk k hk]; rfl)
    (fun j A => w.grownBy A (some tb) ∧ z + 3 ≤ A.heap.size ∧ RowIs A (w.heap.size + 1) #[.pointer (some ⟨tb, 0, none⟩)] 84 ∧ RowIs A (w.heap.size + 2) #[.slice da k dcap] 25 ∧ RowIs A tb (rowB 14 (takenB k d ((clashL f k n).take j))) 82)
    (fun _ _ _ => False)
    (fun j A B hA hAB => ⟨grown_below hA.1 hAB (by have := HzW.out; have := HzY.out; omega), Nat.le_trans hA.2.1 hAB.size, (hAB.block _ (by have := HzW.out; have := HzY.out; omega)).trans hA.2.2.1, (hAB.block _ (by have := HzW.out; have := HzY.out; omega)).trans hA.2.2.2.1, (hAB.block _ (by have := HzW.out; have := HzY.out; omega)).trans hA.2.2.2.2⟩)
    (fun _ _ _ _ h _ => h)
    ⟨Hw0.out, Nat.le_of_eq HzW.out.symm, HLW.out, HFW.out, HTW0.out⟩
    (fun j a' A => a' = { tmps := #[deskV S M a n cap l, .pointer (some ⟨tb, 0, none⟩), .slice da k dcap, .pointer (some ⟨w.heap.size, 0, none⟩), .pointer (some ⟨w.heap.size + 1, 0, none⟩), .pointer (some ⟨w.heap.size + 1 + 1, 0, none⟩), .int .i64 ((clashL f k n).getD j 0 : Nat), .pointer (some ⟨tb, 0, none⟩), .pointer (some ⟨tb, 0, none⟩), .slice (some ⟨tb, 0, none⟩) 14 14, deskV S M a n cap l, .slice da k dcap, .int .i64 k, .func (.func 82) #[] #[.pointer (some ⟨z, 0, none⟩), .pointer (some ⟨z + 1, 0, none⟩), .pointer (some ⟨z + 2, 0, none⟩)], .int .i64 ((clashL f k n).getD j 0 : Nat), undef, undef, undef, undef, undef, undef, undef, undef, undef, undef, undef], defers := [] })
    (fun k a' A o hA => hA)
    ?assign ?body ?done ?stop
  case assign =>
    intro lx j hj A T hA hI hT
    rw [hLk j hj]
    obtain ⟨x, hx⟩ : ∃ x, (clashL f k n).getD j 0 = x := ⟨_, rfl⟩
    rw [hx] at hT ⊢
    clear hLk
    gi_wp2
    exact hT _ _ (Below.refl _ _) rfl
  case body =>
    rintro lx j hj a' A hA ⟨g1, g2, g3, g4, g5⟩ rfl
    have hj' : j < (clashL f k n).length := by simpa using hj
    have hxe : (clashL f k n).getD j 0 = (clashL f k n)[j] := by simp [List.getD, hj']
    have htk : (clashL f k n).take (j + 1) = (clashL f k n).take j ++ [(clashL f k n)[j]] := List.take_succ_eq_append_getElem hj'
    have hmem : (clashL f k n)[j] ∈ clashL f k n := List.getElem_mem hj'
    obtain ⟨x, hxx⟩ : ∃ x, (clashL f k n)[j] = x := ⟨_, rfl⟩
    rw [hxx] at hxe htk hmem
    rw [hxe]
    have hxn : x < n := (clashL_mem.1 hmem).1
    have l0 : A.cell? ⟨w.heap.size + 1, 0, none⟩ = some (.pointer (some ⟨tb, 0, none⟩)) := g3.cell 0
    have l2 : A.cell? ⟨w.heap.size + 1 + 1, 0, none⟩ = some (.slice da k dcap) := g4.cell 0
    obtain ⟨h, hh⟩ : ∃ h, takenB k d ((clashL f k n).take j) = h := ⟨_, rfl⟩
    have hta : ∀ y, takenB k d ((clashL f k n).take (j + 1)) y = (h y || (decide (x < k) && decide (d x = y))) := fun y => by rw [htk, takenB_add, hh]
    rw [hh] at g5
    have G1 := Lib.hid g1
    have G3 := Lib.hid g3
    have G4 := Lib.hid g4
    have G5 := Lib.hid g5
    have HT := Lib.hid hta
    clear g1 g3 g4 g5 htk hxe hxx hLk hmem hh hta
    by_cases hxk : x < k
    · have hdA : Ints A da k fun i => (d i : Int) := ints_kept Hd0.out G1.out.size fun b off e => G1.out.block b (by obtain ⟨b', off', he, hbs, -⟩ := Cells.at Hd0.out 0 (by omega); rw [e] at he; cases he; exact hbs) (by have := Hdt.out b off e; simpa using this)
      obtain ⟨b, off, rfl, hbs, hc⟩ := Cells.at hdA x hxk
      have cx : A.cell? ⟨b, off + x, none⟩ = some (.int .i64 (d x : Int)) := hc x hxk
      have h14 := hd14 x hxk
      obtain ⟨y, hy⟩ : ∃ y, d x = y := ⟨_, rfl⟩
      have ty : A.cell? ⟨tb, y, none⟩ = some (.bool (h y)) := by rw [G5.out.cell y, rowB_get _ _ _ (by omega)]
      rw [hy] at cx h14
      have Hy := Lib.hid hy
      have q1 := G3.out.lt
      have q2 : w.heap.size + 1 + 1 < A.heap.size := G4.out.lt
      have q3 := G5.out.lt
      have hlc := fun (x : Later A) => later_cell x
      clear hc hy hdA
      gi_wp2_with fail
      refine wpIn_region_later_tailR 7 (by kernel_rfl) (by kernel_rfl) (by kernel_rfl) (by rintro ⟨_, _, h⟩; exact h) ?_
      simp only [List.take_succ_cons, List.take_zero, List.drop_succ_cons, List.drop_zero]
      repeat (go_big_quiet_step (fail))
      refine wpQuiet_nil ?_
      clear hlc cx ty l0 l2
      rintro ⟨A7, hb7⟩
      have hT7 : RowIs A7 tb (rowB 14 h) 82 := (hb7.block _ G5.out.lt).trans G5.out
      have ty : A7.cell? ⟨tb, y, none⟩ = some (.bool (h y)) := by rw [hT7.cell y, rowB_get _ _ _ (by omega)]
      have tf := hT7.frozen y
      have Hb7 := Lib.hid hb7
      have HT7 := Lib.hid hT7
      dsimp only
      clear hb7 hT7
      go_wp2_with (fail)
      have hne : ∀ i, i ≠ tb → (A7.setCell ⟨tb, y, none⟩ (.bool true)).heap[i]? = A7.heap[i]? := fun i hi => Below.heap_setCell _ _ _ _ hi
      have hrow : RowIs (A7.setCell ⟨tb, y, none⟩ (.bool true)) tb (rowB 14 (takenB k d ((clashL f k n).take (j + 1)))) 82 := by
        rw [← rowB_set 14 h (takenB k d ((clashL f k n).take (j + 1))) y true (by rw [HT.out, Hy.out]; simp [hxk]) (fun i _ hi => by rw [HT.out, Hy.out]; simp [Ne.symm hi])]
        exact RowIs.set HT7.out y (.bool true)
      have hsz : (A7.setCell ⟨tb, y, none⟩ (.bool true)).heap.size = A7.heap.size := by simp
      have hgr : w.grownBy (A7.setCell ⟨tb, y, none⟩ (.bool true)) (some tb) := World.grownBy.trans (grown_below G1.out Hb7.out (by omega)) (grown_set A7 ⟨tb, y, none⟩ (.bool true))
      have hs7 := Hb7.out.size
      have hz1 := HzW.out
      have hz2 := HzY.out
      refine ⟨⟨by omega, fun i hi hK => (hne i ?_).trans (Hb7.out.block i hi)⟩, hgr, by omega, (hne _ (by omega)).trans (G3.out.below Hb7.out), (hne _ (by omega)).trans (G4.out.below Hb7.out), hrow⟩
      rcases hK with hK | hK
      · rcases hK with rfl | rfl | rfl | ⟨o, ho⟩
        · omega
        · omega
        · omega
        · exact Hat.out i o ho
      · omega
    · gi_wp2_with fail
      exact ⟨Spares.refl _ _ _, G1.out, g2, G3.out, G4.out, by rw [show takenB k d ((clashL f k n).take (j + 1)) = h from funext fun y => by rw [HT.out y]; simp [hxk]]; exact G5.out⟩
  case done =>
    rintro B hBz ⟨g1, g2, g3, g4, g5⟩ hK
    have eL : (clashL f k n).take ((clashL f k n).map fun i : Nat => #[Value.int .i64 (i : Int)]).length = clashL f k n := by simp
    rw [eL] at g5
    have G5 := Lib.hid g5
    have G1 := Lib.hid g1
    have HK' := Lib.hid hK
    clear g1 g3 g4 g5 hK eL hLk
    dsimp only
    gi_wp2_with fail
    refine ⟨by simp, .inl ⟨_, _, rfl, run_takeDeferred HK'.out, ?_⟩⟩
    have hz1 := HzW.out
    have hz2 := HzY.out
    have hr : RowIs (B.putObj W.heap.size (.deferred none)) tb (rowB 14 (takenB k d (clashL f k n))) 82 := (World.putObj_heap_other (by omega)).trans G5.out
    have hb : w.grownBy (B.putObj W.heap.size (.deferred none)) (some tb) := grown_below G1.out (below_put (D := w.heap.size) _ (by omega)) (Nat.le_refl _)
    generalize B.putObj W.heap.size (.deferred none) = V at hr hb ⊢
    exact ⟨.tuple #[], by simp [results, Tryz.results61, go_sem], rfl, hr, hb⟩
  case stop =>
    rintro cd k B hBz h hK
    exact h.elim

end Go.Proofs.YtbjgbgchagfokaaGreat

namespace Go.Proofs.YtbjgbgchagfokaaGreat
open Go Go.RowKit Go.Shelf
attribute [local go_sem] Oper.semAt_some

theorem make_rown : ∀ (s : Nat) (_ : s ≤ 14) (w : World), (Instr.makeSlice 25 (.int .i64 (s : Int)) (.int .i64 (s : Int))).run Tryz.prog w = .ok (.slice (some ⟨w.heap.size, 0, none⟩) s s) (w.alloc (.cells (rowA s fun _ => 0) 3))
  | 0, _, w => by
    have h : (Instr.makeSlice 25 (.int .i64 0) (.int .i64 0)).run Tryz.prog w = .ok (.slice (some ⟨w.heap.size, 0, none⟩) 0 0) (w.alloc (.cells (rowA 0 fun _ => 0) 3)) := by kernel_rfl
    exact h
  | 1, _, w => by
    have h : (Instr.makeSlice 25 (.int .i64 1) (.int .i64 1)).run Tryz.prog w = .ok (.slice (some ⟨w.heap.size, 0, none⟩) 1 1) (w.alloc (.cells (rowA 1 fun _ => 0) 3)) := by kernel_rfl
    exact h
  | 2, _, w => by
    have h : (Instr.makeSlice 25 (.int .i64 2) (.int .i64 2)).run Tryz.prog w = .ok (.slice (some ⟨w.heap.size, 0, none⟩) 2 2) (w.alloc (.cells (rowA 2 fun _ => 0) 3)) := by kernel_rfl
    exact h
  | 3, _, w => by
    have h : (Instr.makeSlice 25 (.int .i64 3) (.int .i64 3)).run Tryz.prog w = .ok (.slice (some ⟨w.heap.size, 0, none⟩) 3 3) (w.alloc (.cells (rowA 3 fun _ => 0) 3)) := by kernel_rfl
    exact h
  | 4, _, w => by
    have h : (Instr.makeSlice 25 (.int .i64 4) (.int .i64 4)).run Tryz.prog w = .ok (.slice (some ⟨w.heap.size, 0, none⟩) 4 4) (w.alloc (.cells (rowA 4 fun _ => 0) 3)) := by kernel_rfl
    exact h
  | 5, _, w => by
    have h : (Instr.makeSlice 25 (.int .i64 5) (.int .i64 5)).run Tryz.prog w = .ok (.slice (some ⟨w.heap.size, 0, none⟩) 5 5) (w.alloc (.cells (rowA 5 fun _ => 0) 3)) := by kernel_rfl
    exact h
  | 6, _, w => by
    have h : (Instr.makeSlice 25 (.int .i64 6) (.int .i64 6)).run Tryz.prog w = .ok (.slice (some ⟨w.heap.size, 0, none⟩) 6 6) (w.alloc (.cells (rowA 6 fun _ => 0) 3)) := by kernel_rfl
    exact h
  | 7, _, w => by
    have h : (Instr.makeSlice 25 (.int .i64 7) (.int .i64 7)).run Tryz.prog w = .ok (.slice (some ⟨w.heap.size, 0, none⟩) 7 7) (w.alloc (.cells (rowA 7 fun _ => 0) 3)) := by kernel_rfl
    exact h
  | 8, _, w => by
    have h : (Instr.makeSlice 25 (.int .i64 8) (.int .i64 8)).run Tryz.prog w = .ok (.slice (some ⟨w.heap.size, 0, none⟩) 8 8) (w.alloc (.cells (rowA 8 fun _ => 0) 3)) := by kernel_rfl
    exact h
  | 9, _, w => by
    have h : (Instr.makeSlice 25 (.int .i64 9) (.int .i64 9)).run Tryz.prog w = .ok (.slice (some ⟨w.heap.size, 0, none⟩) 9 9) (w.alloc (.cells (rowA 9 fun _ => 0) 3)) := by kernel_rfl
    exact h
  | 10, _, w => by
    have h : (Instr.makeSlice 25 (.int .i64 10) (.int .i64 10)).run Tryz.prog w = .ok (.slice (some ⟨w.heap.size, 0, none⟩) 10 10) (w.alloc (.cells (rowA 10 fun _ => 0) 3)) := by kernel_rfl
    exact h
  | 11, _, w => by
    have h : (Instr.makeSlice 25 (.int .i64 11) (.int .i64 11)).run Tryz.prog w = .ok (.slice (some ⟨w.heap.size, 0, none⟩) 11 11) (w.alloc (.cells (rowA 11 fun _ => 0) 3)) := by kernel_rfl
    exact h
  | 12, _, w => by
    have h : (Instr.makeSlice 25 (.int .i64 12) (.int .i64 12)).run Tryz.prog w = .ok (.slice (some ⟨w.heap.size, 0, none⟩) 12 12) (w.alloc (.cells (rowA 12 fun _ => 0) 3)) := by kernel_rfl
    exact h
  | 13, _, w => by
    have h : (Instr.makeSlice 25 (.int .i64 13) (.int .i64 13)).run Tryz.prog w = .ok (.slice (some ⟨w.heap.size, 0, none⟩) 13 13) (w.alloc (.cells (rowA 13 fun _ => 0) 3)) := by kernel_rfl
    exact h
  | 14, _, w => by
    have h : (Instr.makeSlice 25 (.int .i64 14) (.int .i64 14)).run Tryz.prog w = .ok (.slice (some ⟨w.heap.size, 0, none⟩) 14 14) (w.alloc (.cells (rowA 14 fun _ => 0) 3)) := by kernel_rfl
    exact h
  | s + 15, hs, _ => absurd hs (by omega)

theorem fits_taken {f : Nat → W2} {n k : Nat} {d : Nat → Nat} (hk : k < n) (y : Nat) : takenB k d (clashL f k n) y = false ↔ Fits f k d y := by
  rw [takenB, List.any_eq_false]
  constructor
  · intro h i hi he
    have h1 := h i
    by_cases hc : clashB f i k = true
    · exact absurd (h1 (clashL_mem.2 ⟨by omega, by omega, hc⟩)) (by simp [hi, he])
    · simp only [clashB, Bool.or_eq_true, decide_eq_true_eq, not_or] at hc
      exact hc
  · intro h i hi hb
    simp only [Bool.and_eq_true, decide_eq_true_eq] at hb
    have h1 := h i hb.1 hb.2
    have h2 := (clashL_mem.1 hi).2.2
    simp only [clashB, Bool.or_eq_true, decide_eq_true_eq] at h2
    rcases h2 with h2 | h2
    · exact h1.1 h2
    · exact h1.2 h2

theorem rowA_upd (n : Nat) (d : Nat → Nat) (k v : Nat) : (rowA n fun i => (d i : Int)).setIfInBounds k (.int .i64 v) = rowA n fun i => (updD d k v i : Int) :=
  rowA_set n (fun i => (d i : Int)) (fun i => (updD d k v i : Int)) k v (by simp [updD]) (fun i _ hi => by simp [updD, hi])

theorem zero_marks : (zeroValue 82).run Tryz.prog = fun w => .ok (.agg (rowB 14 fun _ => false)) w := by
  funext w
  kernel_rfl

/-- What stands in a block's cells, as numbers. -/
def cellN (w : World) (b i : Nat) : Nat := match w.cell? ⟨b, i, none⟩ with
  | some (.int _ x) => x.toNat
  | _ => 0
theorem cellN_row {w : World} {b n : Nat} {d : Nat → Nat} (h : RowIs w b (rowA n fun i => (d i : Int)) 3) (i : Nat) (hi : i < n) : cellN w b i = d i := by
  unfold cellN
  rw [h.cell i, rowA_get _ _ _ hi]
  simp
theorem place_row {w : World} {b n B k v : Nat} {d : Nat → Nat} (h : RowIs w b (rowA n fun i => (d i : Int)) 3) (hk : k ≤ n) : place B n k v (cellN w b) = place B n k v d := by
  unfold place
  rw [valD_congr fun j hj => cellN_row h j (by omega)]

set_option maxRecDepth 100000 in
set_option maxHeartbeats 4000000 in
theorem firstDays_c (S M : Int) (a : Option Addr) (n cap : Nat) (f : Nat → W2) (l : Nat → Int) (w : World) (D : Nat) (hf : Wants w a n f) (hn : n ≤ 14) (hD : fewN l = (D : Int)) (hD14 : D ≤ 14) (hex : ∃ e, Right f n D e) :
    Calls Tryz.prog 33 #[deskV S M a n cap l] w fun e w' => ∃ (db : Nat) (d : Nat → Nat), e = .returned (.slice (some ⟨db, 0, none⟩) n n) ∧ RowIs w' db (rowA n fun i => (d i : Int)) 3 ∧ w.heap.size ≤ db ∧ Below w.heap.size w w' ∧ ∀ p, Firsts f n D 0 p d := by
  obtain ⟨Z, hZ⟩ : ∃ Z, w.alloc (.cells (deskRow S M a n cap l) 47) = Z := ⟨_, rfl⟩
  have hB : Below w.heap.size w Z := by rw [← hZ]; exact Below.alloc1 (Below.refl _ _) _ (Nat.le_refl _)
  have hR : RowIs Z w.heap.size (deskRow S M a n cap l) 47 := by rw [← hZ]; exact heap_new_at _ _ _ rfl
  obtain ⟨c0, c1, c2, c3, c4, c5, c6, c7, c8, c9, c10, c11, c12, c13, c14, cz⟩ := deskcells hR
  have HR := Lib.hid hR
  have HB := Lib.hid hB
  have Hf := Lib.hid hf
  have hc := fewest_c S M a n cap l Z
  rw [hD] at hc
  have HC := Lib.hid hc
  clear hR hB hf hc
  simp only [deskRow] at hZ
  go_enter Tryz.func33, Tryz.ntmps33
  go_wp2_with fail
  refine wp_scope_straight ?_
  go_wp2_with fail
  refine HC.out.mono ?_
  rintro e w1 ⟨rfl, hb1⟩
  clear c0 c1 c2 c3 c4 c5 c6 c7 c8 c9 c10 c11 c12 c13 c14 cz
  have hB1 := bup HB.out hb1
  have hR1 := HR.out.below hb1
  obtain ⟨c0, c1, c2, c3, c4, c5, c6, c7, c8, c9, c10, c11, c12, c13, c14, cz⟩ := deskcells hR1
  have mk := make_rown n hn w1
  have HR1 := Lib.hid hR1
  have HB1 := Lib.hid hB1
  clear hR1 hB1 HR HB hb1 hZ
  go_wp2_with fail
  obtain ⟨V, hV⟩ : ∃ V, (w1.alloc (.cells (rowA n fun _ => 0) 3)).alloc (.cells (rowB 14 fun _ => false) 82) = V := ⟨_, rfl⟩
  obtain ⟨b, hb⟩ : ∃ b, w1.heap.size = b := ⟨_, rfl⟩
  have hVb : Below b w1 V := by rw [← hV, ← hb]; exact Below.alloc1 (Below.alloc1 (Below.refl _ _) _ (Nat.le_refl _)) _ (Nat.le_refl _)
  have hVd : RowIs V b (rowA n fun i => ((fun _ => 0 : Nat → Nat) i : Int)) 3 := by rw [← hV, ← hb]; exact RowIs.alloc (heap_new_at _ _ _ rfl) _
  have hVt : RowIs V (b + 1) (rowB 14 fun _ => false) 82 := by rw [← hV, ← hb]; exact heap_new_at _ _ _ (by simp)
  have hV' := hV
  rw [show (rowB 14 fun _ => false) = (#[.bool false, .bool false, .bool false, .bool false, .bool false, .bool false, .bool false, .bool false, .bool false, .bool false, .bool false, .bool false, .bool false, .bool false] : Array Value) from rfl] at hV'
  rw [hV', hb]
  have HVb := Lib.hid hVb
  have HVd := Lib.hid hVd
  have HVt := Lib.hid hVt
  have Hb := Lib.hid hb
  clear hV hV' hVb hVd hVt hb c0 c1 c2 c3 c4 c5 c6 c7 c8 c9 c10 c11 c12 c13 c14 cz mk HC
  refine wp_label ?_
  go_wp2_with fail
  go_loopw [6, 7] (fun s t wr => ∃ (k v : Nat) (d : Nat → Nat) (h : Nat → Bool), s = .int .i64 k ∧ t = .int .i64 v ∧ St f n D k v d ∧ Below b w1 wr ∧ RowIs wr b (rowA n fun i => (d i : Int)) 3 ∧ RowIs wr (b + 1) (rowB 14 h) 82) (fun s t wr => (2 * D + 3) ^ (n + 1) - place (2 * D + 3) n (intOf s).toNat (intOf t).toNat (cellN wr b))
  case atStart => exact ⟨0, 0, fun _ => 0, fun _ => false, rfl, rfl, st_start _ _ _ _, HVb.out, HVd.out, HVt.out⟩
  case round =>
    obtain ⟨k, v, d, h, rfl, rfl, hst, hbr, hrd, hrt⟩ := hrel
    have kn := hst.le
    have hbr1 : Below w1.heap.size w1 wr := by rw [Hb.out]; exact hbr
    have hwr := bup HB1.out hbr1
    have hRr := HR1.out.below hbr1
    by_cases hlt : k < n
    · obtain ⟨c0, c1, c2, c3, c4, c5, c6, c7, c8, c9, c10, c11, c12, c13, c14, cz⟩ := deskcells hRr
      have hd14 : ∀ i, i < k → d i < 14 := fun i hi => by have := hst.right.1 i hi; omega
      have hbn : ∀ bb off, a = some ⟨bb, off, none⟩ → bb ≠ b + 1 := fun bb off e => by
        obtain ⟨b', off', he, hbs, -⟩ := Wants.at Hf.out k hlt
        rw [e] at he
        cases he
        have := HB1.out.size
        have := Hb.out
        omega
      have hi : Ints wr (some ⟨b, 0, none⟩) k fun i => (d i : Int) := .inr ⟨b, 0, rfl, hrd.lt, fun i hi => by rw [Nat.zero_add, hrd.cell i, rowA_get _ _ _ (by omega)]⟩
      have hm := markTaken_c S M a n cap f l (b + 1) h (some ⟨b, 0, none⟩) k n d wr (Hf.out.below hwr) (by omega) hlt hi hd14 hrt hbn (fun bb off e => by cases e; omega)
      have HM := Lib.hid hm
      have Hst := Lib.hid hst
      have Hbr := Lib.hid hbr
      have Hrd := Lib.hid hrd
      have Hrt := Lib.hid hrt
      have Hd14 := Lib.hid hd14
      clear hm hst hbr hrd hrt hd14 hbr1 hwr hRr hbn hi
      go_wp2_with fail
      refine HM.out.mono ?_
      rintro e w2 ⟨rfl, ht2, hg2⟩
      have hb2 : Below b w1 w2 := Hbr.out.grown hg2 (by have := Hbr.out.size; have := Hb.out; omega) (fun i e => by cases e; omega)
      have hrd2 : RowIs w2 b (rowA n fun i => (d i : Int)) 3 := (hg2.block b Hrd.out.lt (by simp)).trans Hrd.out
      have hi2 : Ints w2 (some ⟨b, 0, none⟩) k fun i => (d i : Int) := .inr ⟨b, 0, rfl, hrd2.lt, fun i hi => by rw [Nat.zero_add, hrd2.cell i, rowA_get _ _ _ (by omega)]⟩
      have hu := firstUnused_c (some ⟨b, 0, none⟩) k n d w2 hi2 (by omega) Hd14.out
      have hT14 : topU d k ≤ 14 := by
        have : ∀ j, j ≤ k → topU d j ≤ 14 := fun j => by
          induction j with
          | zero => intro _; exact Nat.zero_le _
          | succ j ih =>
            intro h
            have h1 := ih (by omega)
            have h2 := Hd14.out j (by omega)
            simp only [topU]
            omega
        exact this k (Nat.le_refl _)
      obtain ⟨T, hT⟩ : ∃ T, topU d k = T := ⟨_, rfl⟩
      rw [hT] at hu hT14
      have HT := Lib.hid hT
      have HU := Lib.hid hu
      have Ht2 := Lib.hid ht2
      have Hb2 := Lib.hid hb2
      have Hrd2 := Lib.hid hrd2
      clear hu ht2 hb2 hrd2 hi2 hg2 hT HM Hbr Hrt c0 c1 c2 c3 c4 c5 c6 c7 c8 c9 c10 c11 c12 c13 c14 cz
      go_wp2_with fail
      refine HU.out.mono ?_
      rintro e w3 ⟨rfl, rfl⟩
      have hw1 : IntKind.i64.wrap ((T : Int) + 1) = (T : Int) + 1 := IntWalk.i64_in _ (by omega)
      obtain ⟨E, hE⟩ : ∃ E, min D (T + 1) = E := ⟨_, rfl⟩
      have hED : E ≤ D := by omega
      go_wp2_with fail
      all_goals
        go_loop [6, 7, 10] (fun s t i => ∃ y : Nat, v ≤ y ∧ s = .int .i64 k ∧ t = .int .i64 v ∧ i = .int .i64 y ∧ St f n D k y d) (fun _ _ i => E - (intOf i).toNat)
        case atStart => exact ⟨v, Nat.le_refl _, rfl, rfl, rfl, Hst.out⟩
        case round =>
          obtain ⟨y, hvy, rfl, rfl, rfl, hsy⟩ := hrel
          have htop := hsy.top
          have Hsy := Lib.hid hsy
          clear hsy
          by_cases hy : y < E
          · have z1 : (y : Int) < D := by omega
            have z2 : (y : Int) < (T : Int) + 1 := by omega
            have ct : w2.cell? ⟨b + 1, y, none⟩ = some (.bool (takenB k d (clashL f k n) y)) := by rw [Ht2.out.cell y, rowB_get _ _ _ (by omega)]
            cases ht : takenB k d (clashL f k n) y with
            | true =>
              rw [ht] at ct
              have hnf : ¬ Fits f k d y := fun hf => by rw [(fits_taken hlt y).2 hf] at ht; cases ht
              have Hnf := Lib.hid hnf
              clear hnf ht
              have hw2 : IntKind.i64.wrap ((y : Int) + 1) = (y : Int) + 1 := IntWalk.i64_in _ (by omega)
              go_wp2_with fail
              go_round
              case rel => exact ⟨y + 1, by omega, rfl, rfl, by go_num, Hsy.out.taken hlt (by omega) Hnf.out⟩
              case measure => simp [intOf]; omega
            | false =>
              rw [ht] at ct
              have hfit := (fits_taken hlt y).1 ht
              have Hfit := Lib.hid hfit
              clear hfit ht
              have cd : w2.cell? ⟨b, k, none⟩ = some (.int .i64 (d k : Int)) := by rw [Hrd2.out.cell k, rowA_get _ _ _ hlt]
              have cf := Hrd2.out.frozen k
              have hw2 : IntKind.i64.wrap ((k : Int) + 1) = (k : Int) + 1 := IntWalk.i64_in _ (by omega)
              go_wp2_with fail
              have hrow : RowIs (w2.setCell ⟨b, k, none⟩ (.int .i64 y)) b (rowA n fun i => (updD d k y i : Int)) 3 := by rw [← rowA_upd]; exact RowIs.set Hrd2.out k _
              have hmark : RowIs (w2.setCell ⟨b, k, none⟩ (.int .i64 y)) (b + 1) (rowB 14 (takenB k d (clashL f k n))) 82 := (Below.heap_setCell _ _ _ _ (by simp)).trans Ht2.out
              have hst2 := Hsy.out.found hlt (by omega) Hfit.out
              refine ⟨⟨k + 1, 0, updD d k y, _, by go_num, rfl, hst2, Hb2.out.setCell (p := ⟨b, k, none⟩) (Nat.le_refl _) _, hrow, hmark⟩, ?_⟩
              have p1 := place_mono (B := 2 * D + 3) (n := n) (w := k) (d := d) hvy
              have p2 := place_found (B := 2 * D + 3) (n := n) (w := k) (v := y) (d := d) (by omega) hlt
              have p3 := place_lt hst2
              rw [place_row hrow (by simp [intOf]; omega), place_row Hrd.out (by simp [intOf]; omega), show (intOf (.int .i64 ((k : Int) + 1))).toNat = k + 1 by simp [intOf], show (intOf (.int .i64 (0 : Int))).toNat = 0 from rfl, show (intOf (.int .i64 (k : Int))).toNat = k by simp [intOf], show (intOf (.int .i64 (v : Int))).toNat = v by simp [intOf]]
              omega
          · first
              | (have z1 : ¬ (y : Int) < D := by omega)
              | (have z1 : ¬ (y : Int) < (T : Int) + 1 := by omega)
            obtain ⟨h0, hbk⟩ := Hsy.out.back hlt (by rw [HT.out]; omega) hex
            obtain ⟨q, hq⟩ : ∃ q, k = q + 1 := ⟨k - 1, by omega⟩
            have hq1 : k - 1 = q := by omega
            rw [hq1] at hbk
            have cq : w2.cell? ⟨b, q, none⟩ = some (.int .i64 (d q : Int)) := by rw [Hrd2.out.cell q, rowA_get _ _ _ (by omega)]
            have hdq := Hd14.out q (by omega)
            have hw2 : IntKind.i64.wrap ((k : Int) - 1) = (q : Int) := by rw [show (k : Int) - 1 = (q : Int) by omega]; exact IntWalk.i64_in _ (by omega)
            have hw3 : IntKind.i64.wrap ((d q : Int) + 1) = (d q : Int) + 1 := IntWalk.i64_in _ (by omega)
            have Hbk := Lib.hid hbk
            clear hbk
            go_wp2_with fail
            refine ⟨⟨q, d q + 1, d, _, rfl, by go_num, Hbk.out, Hb2.out, Hrd2.out, Ht2.out⟩, ?_⟩
            have p1 := place_mono (B := 2 * D + 3) (n := n) (w := k) (d := d) hvy
            have p2 := place_back (B := 2 * D + 3) (n := n) (w := k) (v := y) (d := d) (by omega) hlt h0
            have p3 := place_lt Hbk.out
            rw [hq1] at p2
            rw [place_row Hrd2.out (by simp [intOf]; omega), place_row Hrd.out (by simp [intOf]; omega), show (intOf (.int .i64 (q : Int))).toNat = q by simp [intOf], show (intOf (.int .i64 ((d q : Int) + 1))).toNat = d q + 1 by simp [intOf], show (intOf (.int .i64 (k : Int))).toNat = k by simp [intOf], show (intOf (.int .i64 (v : Int))).toNat = v by simp [intOf]]
            omega
    · obtain rfl : k = n := by omega
      go_wp2_with fail
      dsimp only [Exit.noGoto]
      go_ret
      exact ⟨b, d, rfl, hrd, by have := HB1.out.size; have := Hb.out; omega, hwr, fun p => hst.firsts p⟩

end Go.Proofs.YtbjgbgchagfokaaGreat
