/- For whatever arguments, the law MouldDays returns true, and each argument reads behind the call as it read before. No condition. -/
import Derived.Shelf.Abstract
import Derived.Shelf.RegionOpen
import Derived.Laws.OwnMore
import Derived.Test.YtbjgbgchagfokaaGreatProg
import Derived.Test.YtbjgbgchagfokaaGreatBasaa
import Derived.Test.YtbjgbgchagfokaaGreatBasam
import Derived.Test.YtbjgbgchagfokaaGreatQdaaa
import Derived.Test.YtbjgbgchagfokaaGreatQdaac
import Derived.Test.YtbjgbgchagfokaaGreatBasaf
import Derived.Test.YtbjgbgchagfokaaGreatBasap
import Derived.Test.YtbjgbgchagfokaaGreatBasba
import Derived.Test.YtbjgbgchagfokaaGreatBasax
import Derived.Test.YtbjgbgchagfokaaGreatBasbb
import Derived.Test.YtbjgbgchagfokaaGreatRows
import Derived.Test.YtbjgbgchagfokaaGreatBasbc
import Derived.ProofKit
namespace Go.Proofs.YtbjgbgchagfokaaGreat
open Go Go.RowKit Go.Shelf

/-- A row of numbers, as values. -/
def rowL (n : Nat) (d : Nat → Nat) : List Value := (List.range n).map fun i => .int .i64 ((d i : Nat) : Int)
theorem rowL_len (n : Nat) (d : Nat → Nat) : (rowL n d).length = n := by simp [rowL]
theorem rowL_get {n : Nat} {d : Nat → Nat} {j : Nat} (hj : j < n) : (rowL n d)[j]? = some (.int .i64 ((d j : Nat) : Int)) := by simp [rowL, hj]
theorem rowL_one (n : Nat) (d : Nat → Nat) : ∀ u ∈ rowL n d, u.oneCell' = true := fun u hu => by
  simp only [rowL, List.mem_map] at hu
  obtain ⟨y, -, rfl⟩ := hu
  rfl
theorem rowL_set {n : Nat} {d e : Nat → Nat} {x v : Nat} (hx : e x = v) (ho : ∀ i, i ≠ x → e i = d i) : (rowL n d).set x (.int .i64 (v : Int)) = rowL n e := by
  apply List.ext_getElem?
  intro i
  by_cases hi : i < n
  · rw [rowL_get hi, List.getElem?_set]
    by_cases h : x = i
    · subst h
      rw [if_pos rfl, if_pos (by rw [rowL_len]; exact hi), hx]
    · rw [if_neg h, rowL_get hi, ho i (fun h1 => h h1.symm)]
  · rw [List.getElem?_eq_none (by simp [rowL_len]; omega), List.getElem?_eq_none (by rw [rowL_len]; omega)]
theorem rowL_same {n : Nat} {d e : Nat → Nat} (h : ∀ i, d i = e i) : rowL n d = rowL n e := by rw [show d = e from funext h]
/-- A row of numbers is copied. -/
theorem copy_days {w : World} {n c : Nat} {p : Option Addr} {d : Nat → Nat} (hI : Ints w p n fun i => (d i : Int)) (hn : n ≤ 1048576) :
    ∃ g1 c1 w2, (Builtin.append_ #[25, 25] 25 #[.slice (some ⟨w.heap.size, 0, none⟩) 0 0, .slice p n c]).run Tryz.prog (w.alloc (.cells #[] 3)) = .ok (.slice (some ⟨g1, 0, none⟩) n c1) w2 ∧ OwnR 3 1 w.heap.size w2 n (rowL n d) g1 c1 ∧ Below w.heap.size w w2 := by
  obtain ⟨i0, hi, hi0, hi1, hi2⟩ := info_parts1 infoInt
  have hB1 : Below w.heap.size w (w.alloc (.cells #[] 3)) := (Below.refl _ w).alloc (Nat.le_refl _) _
  have hsrc : (n = 0 ∧ rowL n d = []) ∨ ∃ ad, p = some ad ∧ (rowL n d).length = n * 1 ∧ ∀ j u, (rowL n d)[j]? = some u → (w.alloc (.cells #[] 3)).cell? (ad.add j) = some u := by
    rcases (Cells.below hI hB1) with h | ⟨bb, off, rfl, hlt, hc⟩
    · exact .inl ⟨h, by rw [h]; rfl⟩
    · refine .inr ⟨_, rfl, by simp [rowL], fun j u hj => ?_⟩
      have hjl : j < n := by have := (List.getElem?_eq_some_iff.1 hj).1; rwa [rowL_len] at this
      rw [rowL_get hjl] at hj
      rw [← Option.some.inj hj]
      unfold Addr.add
      split
      · rename_i h0; subst h0; exact hc 0 hjl
      · exact hc j hjl
  obtain ⟨g1, c1, w2, hr1, ho1, hb1, -, -⟩ := app_list (P := Tryz.prog) Tryz.underlying25 hi hi0 hi1 hi2 rfl (by decide) (ty := 25) (cap := c) hB1 rfl (lit_owns (e := 3) (size := 1) (Nat.le_refl _)) hsrc (rowL_one n d) (by unfold maxLen; omega) (by omega)
  simp only [Nat.zero_add, List.nil_append] at hr1 ho1
  exact ⟨g1, c1, w2, hr1, ho1, hb1⟩

/-- The days when the first j wants of the chain are swapped. -/
def part (L : List Nat) (j : Nat) (e d : Nat → Nat) (i : Nat) : Nat := if i ∈ L.take j then e i else d i
theorem part_zero (L : List Nat) (e d : Nat → Nat) : part L 0 e d = d := funext fun i => by simp [part]
theorem part_all {L : List Nat} {e d : Nat → Nat} (h : ∀ i, ¬ i ∈ L → e i = d i) : part L L.length e d = e := funext fun i => by
  unfold part
  rw [List.take_length]
  split
  · rfl
  · rename_i h1; exact (h i h1).symm
theorem part_more {L : List Nat} {j : Nat} {e d : Nat → Nat} {x : Nat} (hx : L[j]? = some x) : part L (j + 1) e d x = e x ∧ ∀ i, i ≠ x → part L (j + 1) e d i = part L j e d i := by
  have htk : L.take (j + 1) = L.take j ++ [x] := by rw [List.take_add_one, hx]; rfl
  refine ⟨by unfold part; rw [htk, if_pos (by simp)], fun i hi => ?_⟩
  unfold part
  rw [htk]
  by_cases h : i ∈ L.take j
  · rw [if_pos (List.mem_append_left _ h), if_pos h]
  · rw [if_neg h, if_neg (by simp [h, hi])]

set_option maxHeartbeats 16000000 in
theorem rSwap_c (S M : Int) (a : Option Addr) (n cap : Nat) (f : Nat → W2) (da : Option Addr) (k dcap : Nat) (g : Nat → Int) (want day : Int) (w : World) (hf : Wants w a n f) (hn : n ≤ 1048576) (hd : Ints w da k g) (hk : k ≤ 1048576) (hc2 : k ≤ dcap) (hc3 : dcap ≤ 9223372036854775807) :
    Calls Tryz.prog 14 #[bookV S M a n cap, .slice da k dcap, .int .i64 want, .int .i64 day] w fun e w' => Below w.heap.size w w' ∧ ((chainE S M n f k g want day = 0 ∧ ∃ p c, e = .returned (.tuple #[.slice p n c, .int .i64 0]) ∧ Ints w' p n fun i => (swapN f n (natD g) (natD g want.toNat) day.toNat want.toNat i : Int)) ∨ (chainE S M n f k g want day ≠ 0 ∧ e = .returned (.tuple #[.slice none 0 0, .int .i64 (chainE S M n f k g want day)]))) := by
  obtain ⟨W, hW⟩ : ∃ W, w.alloc (.cells #[.int .i64 S, .int .i64 M, .slice a n cap] 24) = W := ⟨_, rfl⟩
  have hB : Below w.heap.size w W := by rw [← hW]; exact Below.alloc1 (Below.refl _ _) _ (Nat.le_refl _)
  have hR : RowIs W w.heap.size #[.int .i64 S, .int .i64 M, .slice a n cap] 24 := by rw [← hW]; exact heap_new_at _ _ _ rfl
  have r0 : W.cell? ⟨w.heap.size, 0, none⟩ = some (.int .i64 S) := RowIs.cell hR 0
  have r1 : W.cell? ⟨w.heap.size, 1, none⟩ = some (.int .i64 M) := RowIs.cell hR 1
  have r2 : W.cell? ⟨w.heap.size, 2, none⟩ = some (.slice a n cap) := RowIs.cell hR 2
  have rz : w.heap.size < W.heap.size := hR.lt
  have HF := Lib.hid (hf.below hB)
  have HD := Lib.hid (Cells.below hd hB)
  have HB := Lib.hid hB
  have HC := Lib.hid (fun (x : World) (h1 : Wants x a n f) (h2 : Ints x da k g) => chained_c S M a n cap f da k dcap g want day x h1 hn h2 hk hc2 hc3)
  by_cases hE : chainE S M n f k g want day = 0
  · rw [hE] at HC
    have hd0 : daysE S M n f k g = 0 := by
      by_cases h : daysE S M n f k g = 0
      · exact h
      · rw [chainE, if_neg h] at hE; exact hE
    have hs0 : swapE k g want day = 0 := by rw [chainE, if_pos hd0] at hE; exact hE
    obtain ⟨hbook, hkn, hdin, hrb⟩ := days_ok hd0
    have hR14 := days_right hd0
    have hG := book_good hbook
    subst hkn
    obtain ⟨⟨hw0, hwn⟩, hd2, hne⟩ := swap_ok hs0
    obtain ⟨q, rfl⟩ := Int.eq_ofNat_of_zero_le hw0
    obtain ⟨y, rfl⟩ := Int.eq_ofNat_of_zero_le hd2.1
    simp only [Int.toNat_natCast] at hwn hne ⊢
    obtain ⟨d, hdd⟩ : ∃ d, natD g = d := ⟨_, rfl⟩
    have HI := Lib.hid (fun (z : World) (h2 : Ints z da k g) => (ints_congr (h := fun i => ((d i : Nat) : Int)) h2 fun i hi => by rw [← hdd]; exact (natD_int hdin i hi).symm))
    rw [hdd] at hR14 ⊢
    have HL := Lib.hid (fun (z : World) (h1 : Wants z a k f) (h2 : Ints z da k fun i => ((d i : Nat) : Int)) => ChainOf_c S M a k cap f da dcap d q y z h1 hG.2.2.1 h2 hwn)
    have hPw : Two d (d q) y q := .inl rfl
    have hin : ∀ i, i ∈ chainL f k d (d q) y q → i < k ∧ Two d (d q) y i := fun i hi => ((chainL_mem hwn hPw i).1 hi).in hwn hPw
    have hSin : ∀ i, i ∈ chainL f k d (d q) y q → swapN f k d (d q) y q i = if d i = d q then y else d q := fun i hi => swapN_in hi
    have hSout : ∀ i, ¬ i ∈ chainL f k d (d q) y q → swapN f k d (d q) y q i = d i := fun i hi => swapN_out hi
    obtain ⟨e, he⟩ : ∃ e, swapN f k d (d q) y q = e := ⟨_, rfl⟩
    rw [he] at hSin hSout
    simp only [he]
    obtain ⟨L, hL⟩ : ∃ L, chainL f k d (d q) y q = L := ⟨_, rfl⟩
    rw [hL] at HL hin hSin hSout
    have HE := Lib.hid hE
    have Hin := Lib.hid hin
    have HSin := Lib.hid hSin
    have HSout := Lib.hid hSout
    have HR14 := Lib.hid hR14
    have hk14 := hG.2.2.1
    have hy13 := hd2.2
    clear hR hf hd hB hd0 hs0 hbook hdin hrb hG hL hE hin hSin hSout hR14 hPw hdd he hne
    go_enter Tryz.func14, Tryz.ntmps14
    go_wp2_with fail
    refine (HC.out _ HF.out HD.out).mono ?_
    rintro ee w1 ⟨rfl, hb1⟩
    have q0 := (hb1.cell (p := ⟨w.heap.size, 0, none⟩) rz).trans r0
    have q1 := (hb1.cell (p := ⟨w.heap.size, 1, none⟩) rz).trans r1
    have q2 := (hb1.cell (p := ⟨w.heap.size, 2, none⟩) rz).trans r2
    replace HF := Lib.hid (HF.out.below hb1)
    replace HD := Lib.hid (Cells.below HD.out hb1)
    have HB1 := Lib.hid (bup HB.out hb1)
    clear hb1
    go_wp2_with fail
    refine (HL.out _ HF.out (HI.out _ HD.out)).mono ?_
    rintro ee w2 ⟨p, c, rfl, hlst, hb2⟩
    have hLl := hlst.room
    have hLc := hlst.fit
    have HLs := Lib.hid hlst
    replace HD := Lib.hid (HI.out _ (Cells.below HD.out hb2))
    have HB2 := Lib.hid (bup HB1.out hb2)
    obtain ⟨g1, c1, w3, hrun, hown, hb3⟩ := copy_days (c := dcap) HD.out hn
    have HO := Lib.hid hown
    have HB3 := Lib.hid hb3
    have Hg1 := Lib.hid hown.lt
    clear hlst hb2 hown hb3
    go_wp2_with (at_builtin; refine wpList_append_run rfl _ _ 25 rfl rfl rfl hrun ?_)
    clear hrun
    go_loopw [12] (fun i wr => ∃ j : Nat, j ≤ L.length ∧ i = .int .i64 j ∧ OwnR 3 1 w2.heap.size wr k (rowL k (part L j e d)) g1 c1 ∧ Below w2.heap.size w2 wr) (fun i _ => L.length - (intOf i).toNat)
    case atStart => exact ⟨0, Nat.zero_le _, rfl, by rw [part_zero]; exact HO.out, HB3.out⟩
    case round =>
      obtain ⟨j, hj, rfl, ho, hb⟩ := hrel
      have Ho := Lib.hid ho
      have Hb := Lib.hid hb
      by_cases hlt : j < L.length
      · have wj1 : IntKind.i64.wrap ((j : Int) + 1) = (j : Int) + 1 := IntWalk.i64_in _ (by omega)
        obtain ⟨x, hx⟩ : ∃ x, L[j]? = some x := ⟨_, List.getElem?_eq_getElem hlt⟩
        have hxc : x ∈ L := List.mem_of_getElem? hx
        obtain ⟨hxn, hx2⟩ := Hin.out x hxc
        have hdq := HR14.out.1 q hwn
        have hdx := HR14.out.1 x hxn
        have hex : ((d q : Int) + (y : Int)) - (d x : Int) = (e x : Int) := by
          rw [HSin.out x hxc]
          rcases hx2 with h | h
          · rw [if_pos h, h]; omega
          · by_cases h3 : d x = d q
            · rw [if_pos h3, h3]; omega
            · rw [if_neg h3, h]; omega
        have hex14 : e x < 14 := by
          rw [HSin.out x hxc]
          split <;> omega
        obtain ⟨lb, lo, rfl, hls, hlc⟩ := Cells.at (Cells.below HLs.out.cells hb) j hlt
        have cx : wr.cell? ⟨lb, lo + j, none⟩ = some (.int .i64 (x : Int)) := by rw [hlc j hlt]; simp [List.getD, hx]
        obtain ⟨db, doff, rfl, hdb, hdc⟩ := Cells.at (Cells.below HD.out hb) x hxn
        have cdx : wr.cell? ⟨db, doff + x, none⟩ = some (.int .i64 (d x : Int)) := hdc x hxn
        have cdq : wr.cell? ⟨db, doff + q, none⟩ = some (.int .i64 (d q : Int)) := hdc q hwn
        have hw2 : IntKind.i64.wrap ((d q : Int) + (y : Int)) = (d q : Int) + (y : Int) := IntWalk.i64_in _ (by omega)
        have hw3 : IntKind.i64.wrap ((d q : Int) + (y : Int) - (d x : Int)) = (e x : Int) := by rw [hex]; exact IntWalk.i64_in _ (by omega)
        have HX := Lib.hid hx
        clear hlc
        have hlc := fun (x : Later wr) => later_cell x
        clear ho hb hdc hx hex hx2 hxc
        go_wp2_with fail
        refine wp_region_later_tail 20 (by kernel_rfl) (by kernel_rfl) ?_
        simp only [List.take_succ_cons, List.take_zero, List.drop_succ_cons, List.drop_zero]
        repeat (go_big_quiet_step (fail))
        refine wpQuiet_nil ?_
        clear hlc cx cdx cdq
        rintro ⟨A7, hb7⟩
        have ho7 := Ho.out.below hb7
        have c7 : A7.cell? ⟨g1, x, none⟩ = some (.int .i64 ((part L j e d x : Nat) : Int)) := (World.ownsRow.cellAt ho7 x (by omega)).trans (rowL_get hxn)
        have f7 : A7.frozen? ⟨g1, x, none⟩ = false := World.ownsRow.frozenAt ho7 x
        have hB7 := bup Hb.out hb7
        obtain ⟨Y, hY⟩ : ∃ Y, A7.setCell ⟨g1, x, none⟩ (.int .i64 (e x : Int)) = Y := ⟨_, rfl⟩
        have hpm := part_more (e := e) (d := d) HX.out
        have hoY : OwnR 3 1 w2.heap.size Y k (rowL k (part L (j + 1) e d)) g1 c1 := by
          have h := (World.ownsRow.stored ho7 x (.int .i64 (e x : Int))).1
          rw [hY, rowL_set hpm.1 hpm.2] at h
          exact h
        have hbY : Below w2.heap.size w2 Y := by rw [← hY]; exact hB7.setCell (p := ⟨g1, x, none⟩) Hg1.out.1 _
        have HoY := Lib.hid hoY
        have HbY := Lib.hid hbY
        dsimp only
        clear ho7 hB7 hb7 hpm hoY hbY
        go_wp2_with fail
        go_roundw
        case rel => exact ⟨j + 1, by omega, by go_num, HoY.out, HbY.out⟩
        case measure => simp [intOf]; omega
      · obtain rfl : j = L.length := by omega
        have hI : Ints wr (some ⟨g1, 0, none⟩) k fun i => ((e i : Nat) : Int) := .inr ⟨g1, 0, rfl, ho.lt.2, fun i hi => by
          have h := World.ownsRow.cellAt ho i (by omega)
          rw [part_all HSout.out, rowL_get hi] at h
          rw [Nat.zero_add]
          exact h⟩
        have HI9 := Lib.hid hI
        clear ho hb hI
        go_wp2_with fail
        refine bodyPost_ret (v := .tuple #[.slice (some ⟨g1, 0, none⟩) k c1, .int .i64 0]) (by simp [results, Tryz.results14, go_sem]) rfl ⟨bup HB2.out Hb.out, .inl ⟨HE.out, _, c1, rfl, HI9.out⟩⟩
  · obtain ⟨v, hv⟩ : ∃ v, chainE S M n f k g want day = v := ⟨_, rfl⟩
    rw [hv] at hE HC ⊢
    have t0 : (v != 0) = true := by simpa using hE
    clear hR hv hf hd hB
    go_enter Tryz.func14, Tryz.ntmps14
    go_wp2_with fail
    refine (HC.out _ HF.out HD.out).mono ?_
    rintro e w1 ⟨rfl, hb1⟩
    have q0 := (hb1.cell (p := ⟨w.heap.size, 0, none⟩) rz).trans r0
    have q1 := (hb1.cell (p := ⟨w.heap.size, 1, none⟩) rz).trans r1
    have q2 := (hb1.cell (p := ⟨w.heap.size, 2, none⟩) rz).trans r2
    replace HF := Lib.hid (HF.out.below hb1)
    replace HD := Lib.hid (Cells.below HD.out hb1)
    go_wp2_with fail
    refine (HC.out _ HF.out HD.out).mono ?_
    rintro e w2 ⟨rfl, hb2⟩
    go_wp2_with fail
    refine bodyPost_ret (v := .tuple #[.slice none 0 0, .int .i64 v]) (by simp [results, Tryz.results14, go_sem]) rfl ⟨bup HB.out (bup hb1 hb2), .inr ⟨hE, rfl⟩⟩

end Go.Proofs.YtbjgbgchagfokaaGreat

namespace Go.Proofs.YtbjgbgchagfokaaGreat
open Go Go.RowKit Go.Shelf


theorem chIter_len (f : Nat → W2) (n : Nat) (d : Nat → Nat) (a b w r : Nat) : (chIter f n d a b w r).length ≤ n + 1 := by
  cases r with
  | zero => simp [chIter]
  | succ r =>
    have h : (chIter f n d a b w (r + 1)).length ≤ (List.range n).length := by
      rw [show chIter f n d a b w (r + 1) = chStep f n d a b (chIter f n d a b w r) from rfl]
      exact List.length_filter_le _ _
    rw [List.length_range] at h
    omega
/-- The chain: the program and the document answer the same. -/
theorem chain_both (S M : Int) (a : Option Addr) (n cap : Nat) (f : Nat → W2) (da : Option Addr) (k dcap : Nat) (g : Nat → Int) (want day : Int) (hn : n ≤ 20) (hk : k ≤ 24) (hc2 : k ≤ dcap) (hc3 : dcap ≤ 9223372036854775807) :
    ∃ (E : Int) (k2 : Nat) (g2 : Nat → Int), k2 ≤ 24 ∧ (∀ x, Wants x a n f → Ints x da k g → Calls Tryz.prog 11 #[bookV S M a n cap, .slice da k dcap, .int .i64 want, .int .i64 day] x fun e w' => ∃ p c, e = .returned (.tuple #[.slice p k2 c, .int .i64 E]) ∧ Ints w' p k2 g2 ∧ Below x.heap.size x w') ∧
      ∀ x, Wants x a n f → Ints x da k g → Calls Tryz.prog 12 #[bookV S M a n cap, .slice da k dcap, .int .i64 want, .int .i64 day] x fun e w' => ∃ p c, e = .returned (.tuple #[.slice p k2 c, .int .i64 E]) ∧ Ints w' p k2 g2 ∧ Below x.heap.size x w' := by
  by_cases hE : chainE S M n f k g want day = 0
  · have hlen := chIter_len f n (natD g) (natD g want.toNat) day.toNat want.toNat n
    refine ⟨0, (chainL f n (natD g) (natD g want.toNat) day.toNat want.toNat).length, fun i => (((chainL f n (natD g) (natD g want.toNat) day.toNat want.toNat).getD i 0 : Nat) : Int), by unfold chainL; omega, fun x h h2 => ?_, fun x h h2 => ?_⟩
    · refine (Chain_c S M a n cap f da k dcap g want day x h (by omega) h2).mono ?_
      rintro e w' ⟨hB, ⟨-, v, rfl, hown⟩ | ⟨h3, -⟩⟩
      · obtain ⟨p, c, rfl, hL, -⟩ := hown.lst
        exact ⟨p, c, rfl, hL.cells, hB⟩
      · exact absurd hE h3
    · refine (rChain_c S M a n cap f da k dcap g want day x h (by omega) h2 (by omega) hc2 hc3).mono ?_
      rintro e w' ⟨hB, ⟨-, p, c, rfl, hL⟩ | ⟨h3, -⟩⟩
      · exact ⟨p, c, rfl, hL.cells, hB⟩
      · exact absurd hE h3
  · refine ⟨chainE S M n f k g want day, 0, fun _ => 0, by omega, fun x h h2 => ?_, fun x h h2 => ?_⟩
    · refine (Chain_c S M a n cap f da k dcap g want day x h (by omega) h2).mono ?_
      rintro e w' ⟨hB, ⟨h3, -⟩ | ⟨-, rfl⟩⟩
      · exact absurd h3 hE
      · exact ⟨none, 0, rfl, .inl rfl, hB⟩
    · refine (rChain_c S M a n cap f da k dcap g want day x h (by omega) h2 (by omega) hc2 hc3).mono ?_
      rintro e w' ⟨hB, ⟨h3, -⟩ | ⟨-, rfl⟩⟩
      · exact absurd h3 hE
      · exact ⟨none, 0, rfl, .inl rfl, hB⟩
/-- The days when a chain is swapped: the program and the document answer the same. -/
theorem swap_both (S M : Int) (a : Option Addr) (n cap : Nat) (f : Nat → W2) (da : Option Addr) (k dcap : Nat) (g : Nat → Int) (want day : Int) (hn : n ≤ 20) (hk : k ≤ 24) (hc2 : k ≤ dcap) (hc3 : dcap ≤ 9223372036854775807) :
    ∃ (E : Int) (k2 : Nat) (g2 : Nat → Int), k2 ≤ 24 ∧ (∀ x, Wants x a n f → Ints x da k g → Calls Tryz.prog 13 #[bookV S M a n cap, .slice da k dcap, .int .i64 want, .int .i64 day] x fun e w' => ∃ p c, e = .returned (.tuple #[.slice p k2 c, .int .i64 E]) ∧ Ints w' p k2 g2 ∧ Below x.heap.size x w') ∧
      ∀ x, Wants x a n f → Ints x da k g → Calls Tryz.prog 14 #[bookV S M a n cap, .slice da k dcap, .int .i64 want, .int .i64 day] x fun e w' => ∃ p c, e = .returned (.tuple #[.slice p k2 c, .int .i64 E]) ∧ Ints w' p k2 g2 ∧ Below x.heap.size x w' := by
  by_cases hE : chainE S M n f k g want day = 0
  · refine ⟨0, n, fun i => (swapN f n (natD g) (natD g want.toNat) day.toNat want.toNat i : Int), by omega, fun x h h2 => ?_, fun x h h2 => ?_⟩
    · refine (Swap_c S M a n cap f da k dcap g want day x h (by omega) h2).mono ?_
      rintro e w' ⟨hB, ⟨-, b, rfl, hr, -⟩ | ⟨h3, -⟩⟩
      · exact ⟨_, _, rfl, ints_rowA hr, hB⟩
      · exact absurd hE h3
    · refine (rSwap_c S M a n cap f da k dcap g want day x h (by omega) h2 (by omega) hc2 hc3).mono ?_
      rintro e w' ⟨hB, ⟨-, p, c, rfl, hL⟩ | ⟨h3, -⟩⟩
      · exact ⟨p, c, rfl, hL, hB⟩
      · exact absurd hE h3
  · refine ⟨chainE S M n f k g want day, 0, fun _ => 0, by omega, fun x h h2 => ?_, fun x h h2 => ?_⟩
    · refine (Swap_c S M a n cap f da k dcap g want day x h (by omega) h2).mono ?_
      rintro e w' ⟨hB, ⟨h3, -⟩ | ⟨-, rfl⟩⟩
      · exact absurd h3 hE
      · exact ⟨none, 0, rfl, .inl rfl, hB⟩
    · refine (rSwap_c S M a n cap f da k dcap g want day x h (by omega) h2 (by omega) hc2 hc3).mono ?_
      rintro e w' ⟨hB, ⟨h3, -⟩ | ⟨-, rfl⟩⟩
      · exact absurd h3 hE
      · exact ⟨none, 0, rfl, .inl rfl, hB⟩
theorem ints_sameL {a b : Option Addr} {n c d : Nat} {g : Nat → Int} {w : World} (h1 : Ints w a n g) (h2 : Ints w b n g) (hn : n ≤ 1048576) :
    Calls Tryz.prog 15 #[.slice a n c, .slice b n d] w fun e w' => e = .returned (.bool true) ∧ Below w.heap.size w w' := by
  have h3 := Ints_c a n c g b n d g w h1 h2 hn
  rw [intsB_yes fun i _ => rfl] at h3
  exact h3
theorem long_not (p : Option Addr) (n cap : Nat) (h : n ≤ 24) (w : World) : Calls Tryz.prog 5 #[.slice p n cap] w fun e w' => e = .returned (.bool false) ∧ w = w' := by
  have h3 := long_c p n cap w
  rw [decide_eq_false (by omega)] at h3
  exact h3
theorem long_is (p : Option Addr) (n cap : Nat) (h : 24 < n) (w : World) : Calls Tryz.prog 5 #[.slice p n cap] w fun e w' => e = .returned (.bool true) ∧ w = w' := by
  have h3 := long_c p n cap w
  rw [decide_eq_true (by omega)] at h3
  exact h3
theorem great_not (S M : Int) (a : Option Addr) (n cap : Nat) (h : n ≤ 20) (w : World) : Calls Tryz.prog 4 #[bookV S M a n cap] w fun e w' => e = .returned (.bool false) ∧ Below w.heap.size w w' := by
  have h3 := great_c S M a n cap w
  rw [decide_eq_false (by omega)] at h3
  exact h3
theorem great_is (S M : Int) (a : Option Addr) (n cap : Nat) (h : 20 < n) (w : World) : Calls Tryz.prog 4 #[bookV S M a n cap] w fun e w' => e = .returned (.bool true) ∧ Below w.heap.size w w' := by
  have h3 := great_c S M a n cap w
  rw [decide_eq_true (by omega)] at h3
  exact h3

set_option maxRecDepth 100000 in
set_option maxHeartbeats 16000000 in
theorem law_days_c (S M : Int) (a : Option Addr) (n cap : Nat) (f : Nat → W2) (da : Option Addr) (len dcap : Nat) (g : Nat → Int) (want day : Int) (w : World) (hf : Wants w a n f) (hg : Ints w da len g) (hc2 : len ≤ dcap) (hc3 : dcap ≤ 9223372036854775807) :
    Calls Tryz.prog 3 #[bookV S M a n cap, .slice da len dcap, .int .i64 want, .int .i64 day] w fun e w' => e = .returned (.bool true) ∧ Below w.heap.size w w' := by
  obtain ⟨W, hW⟩ : ∃ W, w.alloc (.cells #[.int .i64 S, .int .i64 M, .slice a n cap] 24) = W := ⟨_, rfl⟩
  have hB : Below w.heap.size w W := by rw [← hW]; exact Below.alloc1 (Below.refl _ _) _ (Nat.le_refl _)
  have hR : RowIs W w.heap.size #[.int .i64 S, .int .i64 M, .slice a n cap] 24 := by rw [← hW]; exact heap_new_at _ _ _ rfl
  have r0 : W.cell? ⟨w.heap.size, 0, none⟩ = some (.int .i64 S) := RowIs.cell hR 0
  have r1 : W.cell? ⟨w.heap.size, 1, none⟩ = some (.int .i64 M) := RowIs.cell hR 1
  have r2 : W.cell? ⟨w.heap.size, 2, none⟩ = some (.slice a n cap) := RowIs.cell hR 2
  have rz : w.heap.size < W.heap.size := hR.lt
  have HF := Lib.hid (hf.below hB)
  have HR := Lib.hid hR
  have HG := Lib.hid (Cells.below hg hB)
  clear hR hf
  clear hg
  by_cases h20 : 20 < n
  · skip
    go_enter Tryz.func3, Tryz.ntmps3
    go_wp2_with fail
    refine (great_is S M a n cap h20 _).mono ?_
    rintro e w1 ⟨rfl, hb1⟩
    replace HR := Lib.hid (RowIs.below HR.out hb1)
    replace HF := Lib.hid (HF.out.below hb1)
    replace HG := Lib.hid (Cells.below HG.out hb1)
    replace hB := bup hB hb1
    clear r0 r1 r2 rz hb1
    have r0 : w1.cell? ⟨w.heap.size, 0, none⟩ = some (.int .i64 S) := RowIs.cell HR.out 0
    have r1 : w1.cell? ⟨w.heap.size, 1, none⟩ = some (.int .i64 M) := RowIs.cell HR.out 1
    have r2 : w1.cell? ⟨w.heap.size, 2, none⟩ = some (.slice a n cap) := RowIs.cell HR.out 2
    have rz : w.heap.size < w1.heap.size := HR.out.lt
    go_wp2_with fail
    refine (works_c _).mono ?_
    rintro e wz ⟨rfl, hbz⟩
    go_wp2_with fail
    go_ret
    exact ⟨rfl, bup hB hbz⟩
  by_cases h1 : 24 < len
  · skip
    go_enter Tryz.func3, Tryz.ntmps3
    go_wp2_with fail
    refine (great_not S M a n cap (by omega) _).mono ?_
    rintro e w1 ⟨rfl, hb1⟩
    replace HR := Lib.hid (RowIs.below HR.out hb1)
    replace HF := Lib.hid (HF.out.below hb1)
    replace HG := Lib.hid (Cells.below HG.out hb1)
    replace hB := bup hB hb1
    clear r0 r1 r2 rz hb1
    have r0 : w1.cell? ⟨w.heap.size, 0, none⟩ = some (.int .i64 S) := RowIs.cell HR.out 0
    have r1 : w1.cell? ⟨w.heap.size, 1, none⟩ = some (.int .i64 M) := RowIs.cell HR.out 1
    have r2 : w1.cell? ⟨w.heap.size, 2, none⟩ = some (.slice a n cap) := RowIs.cell HR.out 2
    have rz : w.heap.size < w1.heap.size := HR.out.lt
    go_wp2_with fail
    refine (long_is da len dcap (by omega) _).mono ?_
    rintro e _ ⟨rfl, rfl⟩
    go_wp2_with fail
    refine (works_c _).mono ?_
    rintro e wz ⟨rfl, hbz⟩
    go_wp2_with fail
    go_ret
    exact ⟨rfl, bup hB hbz⟩
  obtain ⟨N1, E1, ha1, ha2⟩ := fewest_both S M a n cap f (by omega)
  obtain ⟨E3, k3, g3, hk3, hb1, hb2⟩ := days_both S M a n cap f (by omega)
  obtain ⟨E5, k5, g5, hk5, hc5, hd5⟩ := chain_both S M a n cap f da len dcap g want day (by omega) (by omega) hc2 hc3
  obtain ⟨E7, k7, g7, hk7, hc7, hd7⟩ := swap_both S M a n cap f da len dcap g want day (by omega) (by omega) hc2 hc3
  have HA1 := Lib.hid ha1
  have HA2 := Lib.hid ha2
  have HB1 := Lib.hid hb1
  have HB2 := Lib.hid hb2
  have HC5 := Lib.hid hc5
  have HD5 := Lib.hid hd5
  have HC7 := Lib.hid hc7
  have HD7 := Lib.hid hd7
  have t0 : (N1 == N1) = true := by simp
  have t1 : (E1 == E1) = true := by simp
  have t2 : (E3 == E3) = true := by simp
  have t3 : (E5 == E5) = true := by simp
  have t4 : (E7 == E7) = true := by simp
  clear ha1 ha2 hb1 hb2 hc5 hd5 hc7 hd7
  go_enter Tryz.func3, Tryz.ntmps3
  go_wp2_with fail
  refine (great_not S M a n cap (by omega) _).mono ?_
  rintro e w1 ⟨rfl, hb1⟩
  replace HR := Lib.hid (RowIs.below HR.out hb1)
  replace HF := Lib.hid (HF.out.below hb1)
  replace HG := Lib.hid (Cells.below HG.out hb1)
  replace hB := bup hB hb1
  clear r0 r1 r2 rz hb1
  have r0 : w1.cell? ⟨w.heap.size, 0, none⟩ = some (.int .i64 S) := RowIs.cell HR.out 0
  have r1 : w1.cell? ⟨w.heap.size, 1, none⟩ = some (.int .i64 M) := RowIs.cell HR.out 1
  have r2 : w1.cell? ⟨w.heap.size, 2, none⟩ = some (.slice a n cap) := RowIs.cell HR.out 2
  have rz : w.heap.size < w1.heap.size := HR.out.lt
  go_wp2_with fail
  refine (long_not da len dcap (by omega) _).mono ?_
  rintro e _ ⟨rfl, rfl⟩
  go_wp2_with fail
  refine (HA1.out _ HF.out).mono ?_
  rintro e w2 ⟨rfl, hb2⟩
  replace HR := Lib.hid (RowIs.below HR.out hb2)
  replace HF := Lib.hid (HF.out.below hb2)
  replace HG := Lib.hid (Cells.below HG.out hb2)
  replace hB := bup hB hb2
  clear r0 r1 r2 rz hb2
  have r0 : w2.cell? ⟨w.heap.size, 0, none⟩ = some (.int .i64 S) := RowIs.cell HR.out 0
  have r1 : w2.cell? ⟨w.heap.size, 1, none⟩ = some (.int .i64 M) := RowIs.cell HR.out 1
  have r2 : w2.cell? ⟨w.heap.size, 2, none⟩ = some (.slice a n cap) := RowIs.cell HR.out 2
  have rz : w.heap.size < w2.heap.size := HR.out.lt
  go_wp2_with fail
  refine (HA2.out _ HF.out).mono ?_
  rintro e w3 ⟨rfl, hb3⟩
  replace HR := Lib.hid (RowIs.below HR.out hb3)
  replace HF := Lib.hid (HF.out.below hb3)
  replace HG := Lib.hid (Cells.below HG.out hb3)
  replace hB := bup hB hb3
  clear r0 r1 r2 rz hb3
  have r0 : w3.cell? ⟨w.heap.size, 0, none⟩ = some (.int .i64 S) := RowIs.cell HR.out 0
  have r1 : w3.cell? ⟨w.heap.size, 1, none⟩ = some (.int .i64 M) := RowIs.cell HR.out 1
  have r2 : w3.cell? ⟨w.heap.size, 2, none⟩ = some (.slice a n cap) := RowIs.cell HR.out 2
  have rz : w.heap.size < w3.heap.size := HR.out.lt
  go_wp2_with fail
  refine (HB1.out _ HF.out).mono ?_
  rintro e w4 ⟨p4, c4, rfl, hL4, hb4⟩
  have LA := Lib.hid hL4
  clear hL4
  replace HR := Lib.hid (RowIs.below HR.out hb4)
  replace HF := Lib.hid (HF.out.below hb4)
  replace HG := Lib.hid (Cells.below HG.out hb4)
  replace hB := bup hB hb4
  clear r0 r1 r2 rz hb4
  have r0 : w4.cell? ⟨w.heap.size, 0, none⟩ = some (.int .i64 S) := RowIs.cell HR.out 0
  have r1 : w4.cell? ⟨w.heap.size, 1, none⟩ = some (.int .i64 M) := RowIs.cell HR.out 1
  have r2 : w4.cell? ⟨w.heap.size, 2, none⟩ = some (.slice a n cap) := RowIs.cell HR.out 2
  have rz : w.heap.size < w4.heap.size := HR.out.lt
  go_wp2_with fail
  refine (HB2.out _ HF.out).mono ?_
  rintro e w5 ⟨p5, c5, rfl, hL5, hb5⟩
  have LB := Lib.hid hL5
  clear hL5
  replace HR := Lib.hid (RowIs.below HR.out hb5)
  replace HF := Lib.hid (HF.out.below hb5)
  replace HG := Lib.hid (Cells.below HG.out hb5)
  replace LA := Lib.hid (Cells.below LA.out hb5)
  replace hB := bup hB hb5
  clear r0 r1 r2 rz hb5
  have r0 : w5.cell? ⟨w.heap.size, 0, none⟩ = some (.int .i64 S) := RowIs.cell HR.out 0
  have r1 : w5.cell? ⟨w.heap.size, 1, none⟩ = some (.int .i64 M) := RowIs.cell HR.out 1
  have r2 : w5.cell? ⟨w.heap.size, 2, none⟩ = some (.slice a n cap) := RowIs.cell HR.out 2
  have rz : w.heap.size < w5.heap.size := HR.out.lt
  go_wp2_with fail
  refine (HC5.out _ HF.out HG.out).mono ?_
  rintro e w6 ⟨p6, c6, rfl, hL6, hb6⟩
  have LC := Lib.hid hL6
  clear hL6
  replace HR := Lib.hid (RowIs.below HR.out hb6)
  replace HF := Lib.hid (HF.out.below hb6)
  replace HG := Lib.hid (Cells.below HG.out hb6)
  replace LA := Lib.hid (Cells.below LA.out hb6)
  replace LB := Lib.hid (Cells.below LB.out hb6)
  replace hB := bup hB hb6
  clear r0 r1 r2 rz hb6
  have r0 : w6.cell? ⟨w.heap.size, 0, none⟩ = some (.int .i64 S) := RowIs.cell HR.out 0
  have r1 : w6.cell? ⟨w.heap.size, 1, none⟩ = some (.int .i64 M) := RowIs.cell HR.out 1
  have r2 : w6.cell? ⟨w.heap.size, 2, none⟩ = some (.slice a n cap) := RowIs.cell HR.out 2
  have rz : w.heap.size < w6.heap.size := HR.out.lt
  go_wp2_with fail
  refine (HD5.out _ HF.out HG.out).mono ?_
  rintro e w7 ⟨p7, c7, rfl, hL7, hb7⟩
  have LD := Lib.hid hL7
  clear hL7
  replace HR := Lib.hid (RowIs.below HR.out hb7)
  replace HF := Lib.hid (HF.out.below hb7)
  replace HG := Lib.hid (Cells.below HG.out hb7)
  replace LA := Lib.hid (Cells.below LA.out hb7)
  replace LB := Lib.hid (Cells.below LB.out hb7)
  replace LC := Lib.hid (Cells.below LC.out hb7)
  replace hB := bup hB hb7
  clear r0 r1 r2 rz hb7
  have r0 : w7.cell? ⟨w.heap.size, 0, none⟩ = some (.int .i64 S) := RowIs.cell HR.out 0
  have r1 : w7.cell? ⟨w.heap.size, 1, none⟩ = some (.int .i64 M) := RowIs.cell HR.out 1
  have r2 : w7.cell? ⟨w.heap.size, 2, none⟩ = some (.slice a n cap) := RowIs.cell HR.out 2
  have rz : w.heap.size < w7.heap.size := HR.out.lt
  go_wp2_with fail
  refine (HC7.out _ HF.out HG.out).mono ?_
  rintro e w8 ⟨p8, c8, rfl, hL8, hb8⟩
  have LE := Lib.hid hL8
  clear hL8
  replace HR := Lib.hid (RowIs.below HR.out hb8)
  replace HF := Lib.hid (HF.out.below hb8)
  replace HG := Lib.hid (Cells.below HG.out hb8)
  replace LA := Lib.hid (Cells.below LA.out hb8)
  replace LB := Lib.hid (Cells.below LB.out hb8)
  replace LC := Lib.hid (Cells.below LC.out hb8)
  replace LD := Lib.hid (Cells.below LD.out hb8)
  replace hB := bup hB hb8
  clear r0 r1 r2 rz hb8
  have r0 : w8.cell? ⟨w.heap.size, 0, none⟩ = some (.int .i64 S) := RowIs.cell HR.out 0
  have r1 : w8.cell? ⟨w.heap.size, 1, none⟩ = some (.int .i64 M) := RowIs.cell HR.out 1
  have r2 : w8.cell? ⟨w.heap.size, 2, none⟩ = some (.slice a n cap) := RowIs.cell HR.out 2
  have rz : w.heap.size < w8.heap.size := HR.out.lt
  go_wp2_with fail
  refine (HD7.out _ HF.out HG.out).mono ?_
  rintro e w9 ⟨p9, c9, rfl, hL9, hb9⟩
  have LF := Lib.hid hL9
  clear hL9
  replace HR := Lib.hid (RowIs.below HR.out hb9)
  replace HF := Lib.hid (HF.out.below hb9)
  replace HG := Lib.hid (Cells.below HG.out hb9)
  replace LA := Lib.hid (Cells.below LA.out hb9)
  replace LB := Lib.hid (Cells.below LB.out hb9)
  replace LC := Lib.hid (Cells.below LC.out hb9)
  replace LD := Lib.hid (Cells.below LD.out hb9)
  replace LE := Lib.hid (Cells.below LE.out hb9)
  replace hB := bup hB hb9
  clear r0 r1 r2 rz hb9
  have r0 : w9.cell? ⟨w.heap.size, 0, none⟩ = some (.int .i64 S) := RowIs.cell HR.out 0
  have r1 : w9.cell? ⟨w.heap.size, 1, none⟩ = some (.int .i64 M) := RowIs.cell HR.out 1
  have r2 : w9.cell? ⟨w.heap.size, 2, none⟩ = some (.slice a n cap) := RowIs.cell HR.out 2
  have rz : w.heap.size < w9.heap.size := HR.out.lt
  clear HA1 HA2 HB1 HB2 HC5 HD5 HC7 HD7
  go_wp2_with fail
  refine (ints_sameL LA.out LB.out (by omega)).mono ?_
  rintro e wa ⟨rfl, hba⟩
  replace HR := Lib.hid (RowIs.below HR.out hba)
  replace HF := Lib.hid (HF.out.below hba)
  replace HG := Lib.hid (Cells.below HG.out hba)
  replace LA := Lib.hid (Cells.below LA.out hba)
  replace LB := Lib.hid (Cells.below LB.out hba)
  replace LC := Lib.hid (Cells.below LC.out hba)
  replace LD := Lib.hid (Cells.below LD.out hba)
  replace LE := Lib.hid (Cells.below LE.out hba)
  replace LF := Lib.hid (Cells.below LF.out hba)
  replace hB := bup hB hba
  clear r0 r1 r2 rz hba
  have r0 : wa.cell? ⟨w.heap.size, 0, none⟩ = some (.int .i64 S) := RowIs.cell HR.out 0
  have r1 : wa.cell? ⟨w.heap.size, 1, none⟩ = some (.int .i64 M) := RowIs.cell HR.out 1
  have r2 : wa.cell? ⟨w.heap.size, 2, none⟩ = some (.slice a n cap) := RowIs.cell HR.out 2
  have rz : w.heap.size < wa.heap.size := HR.out.lt
  go_wp2_with fail
  refine (ints_sameL LC.out LD.out (by omega)).mono ?_
  rintro e wb ⟨rfl, hbb⟩
  replace HR := Lib.hid (RowIs.below HR.out hbb)
  replace HF := Lib.hid (HF.out.below hbb)
  replace HG := Lib.hid (Cells.below HG.out hbb)
  replace LA := Lib.hid (Cells.below LA.out hbb)
  replace LB := Lib.hid (Cells.below LB.out hbb)
  replace LC := Lib.hid (Cells.below LC.out hbb)
  replace LD := Lib.hid (Cells.below LD.out hbb)
  replace LE := Lib.hid (Cells.below LE.out hbb)
  replace LF := Lib.hid (Cells.below LF.out hbb)
  replace hB := bup hB hbb
  clear r0 r1 r2 rz hbb
  have r0 : wb.cell? ⟨w.heap.size, 0, none⟩ = some (.int .i64 S) := RowIs.cell HR.out 0
  have r1 : wb.cell? ⟨w.heap.size, 1, none⟩ = some (.int .i64 M) := RowIs.cell HR.out 1
  have r2 : wb.cell? ⟨w.heap.size, 2, none⟩ = some (.slice a n cap) := RowIs.cell HR.out 2
  have rz : w.heap.size < wb.heap.size := HR.out.lt
  go_wp2_with fail
  refine (ints_sameL LE.out LF.out (by omega)).mono ?_
  rintro e wc ⟨rfl, hbc⟩
  replace HR := Lib.hid (RowIs.below HR.out hbc)
  replace HF := Lib.hid (HF.out.below hbc)
  replace HG := Lib.hid (Cells.below HG.out hbc)
  replace LA := Lib.hid (Cells.below LA.out hbc)
  replace LB := Lib.hid (Cells.below LB.out hbc)
  replace LC := Lib.hid (Cells.below LC.out hbc)
  replace LD := Lib.hid (Cells.below LD.out hbc)
  replace LE := Lib.hid (Cells.below LE.out hbc)
  replace LF := Lib.hid (Cells.below LF.out hbc)
  replace hB := bup hB hbc
  clear r0 r1 r2 rz hbc
  have r0 : wc.cell? ⟨w.heap.size, 0, none⟩ = some (.int .i64 S) := RowIs.cell HR.out 0
  have r1 : wc.cell? ⟨w.heap.size, 1, none⟩ = some (.int .i64 M) := RowIs.cell HR.out 1
  have r2 : wc.cell? ⟨w.heap.size, 2, none⟩ = some (.slice a n cap) := RowIs.cell HR.out 2
  have rz : w.heap.size < wc.heap.size := HR.out.lt
  go_wp2_with fail
  refine (works_c _).mono ?_
  rintro e wz ⟨rfl, hbz⟩
  go_wp2_with fail
  go_ret
  exact ⟨rfl, bup hB hbz⟩

end Go.Proofs.YtbjgbgchagfokaaGreat

namespace Go.Proofs.YtbjgbgchagfokaaGreat
open Go Go.RowKit Go.ChangeShapes Go.WideShapes Go.ChangeAt

theorem own_days : ownKnob Tryz.prog.godebug = .none := by kernel_rfl
theorem laidOut_days : laidOutB Tryz.prog = true := by kernel_rfl

set_option maxRecDepth 100000 in
theorem days_lifted (os : Os) (started : os.Started) (H : Type) (enc : TypeId × Value → H) :
    ReturnsInHanded {} Tryz.checked os 3 .any (Rows.mouldDaysSpec.pre6 enc Tryz.prog Tryz.f3 Rows.mouldDaysRow.domain false) (Rows.mouldDaysSpec.post enc Tryz.prog Tryz.f3 false true false false) := by
  refine returnsInHanded_of_change (C := Tryz.checked) own_days started (by kernel_rfl) Tryz.func3
    (ChangeSpec.witness6 (enc := enc) (C := Tryz.checked) false ⟨#[], #[.agg #[.int .i64 0, .int .i64 0, .slice .none 0 0], .slice .none 0 0, .int .i64 0, .int .i64 0], []⟩ 8 (by kernel_rfl) (by kernel_rfl) (by kernel_rfl) (by kernel_rfl)) ?_
  intro W base args ds gs before hval0 hW hcnd _
  have hval : ∀ (j : Nat) t v, Tryz.f3.params[j]? = some t → args[j]? = some v → Value.okWide Tryz.prog W .any base t v := hval0
  have hW' := hW
  obtain ⟨p, q, hA0, hV, rfl, hfz, hnd⟩ := hW
  have hA : DataW.TrodAll enc Tryz.prog W 0 (fun _ => true) true Tryz.f3.params.toList args.toList ds p := hA0
  rw [Tryz.params3] at hA hval
  obtain ⟨v0, vs0, d0, ds0, p0, q0, hargs, rfl, rfl, h0, r0⟩ := trodAll_cons hA
  obtain ⟨v1, vs1, d1, ds1, p1, q1, rfl, rfl, rfl, h1, r1⟩ := trodAll_cons r0
  obtain ⟨v2, vs2, d2, ds2, p2, q2, rfl, rfl, rfl, h2, r2⟩ := trodAll_cons r1
  obtain ⟨v3, vs3, d3, ds3, p3, q3, rfl, rfl, rfl, h3, r3⟩ := trodAll_cons r2
  obtain ⟨rfl, rfl, rfl⟩ := trodAll_nil r3
  obtain rfl : args = #[v0, v1, v2, v3] := by cases args; simp_all
  obtain ⟨rfl, rfl⟩ := trodVars_none hV
  obtain ⟨S0, M0, a0, n0, cap0, f0, rfl, hF0⟩ := open_book (hval 0 24 v0 rfl rfl) h0
  obtain ⟨a1, n1, cap1, f1, rfl, hF1, hc1, hm1⟩ := open_days (hval 1 25 v1 rfl rfl) h1
  obtain ⟨z2, hz2, _, _, hw2⟩ := open_int Tryz.underlying3 (hval 2 3 v2 rfl rfl) h2
  obtain ⟨z3, hz3, _, _, hw3⟩ := open_int Tryz.underlying3 (hval 3 3 v3 rfl rfl) h3
  subst hz2 hz3
  refine (law_days_c S0 M0 a0 n0 cap0 f0 a1 n1 cap1 f1 z2 z3 W hF0 hF1 hc1 hm1).mono fun e W' ⟨he, hb⟩ => ?_
  subst he
  have hlt := hW'.lt
  simp only [List.append_nil, List.mem_append] at hlt
  refine ⟨_, rfl, _, _, _, [], p0 ++ (p1 ++ (p2 ++ (p3 ++ []))), [], hW', trodAll_mk1 (shut_bool Tryz.underlying4 true), ?_, rfl, hb.frame _, fun h => Bool.noConfusion h⟩
  exact trodAll_cons_mk (Below.trod laidOut_days (by kernel_rfl) (of_decide_eq_true (by kernel_rfl)) h0 hb fun x hx => hlt x (by simp [hx])) (trodAll_cons_mk (Below.trod laidOut_days (by kernel_rfl) (of_decide_eq_true (by kernel_rfl)) h1 hb fun x hx => hlt x (by simp [hx])) (trodAll_cons_mk (Below.trod laidOut_days (by kernel_rfl) (of_decide_eq_true (by kernel_rfl)) h2 hb fun x hx => hlt x (by simp [hx])) (trodAll_cons_mk (Below.trod laidOut_days (by kernel_rfl) (of_decide_eq_true (by kernel_rfl)) h3 hb fun x hx => hlt x (by simp [hx])) trodAll_mk0)))

theorem days_holds : Rows.MouldDaysSaid :=
  OpenClaim.holds_of_wide 3 Tryz.f3 rfl rfl rfl rfl rfl rfl rfl ⟨rfl, rfl, rfl, rfl, rfl⟩ rfl rfl rfl rfl rfl (by kernel_rfl) Tryz.func3 (by kernel_rfl)
    (of_decide_eq_true (by kernel_rfl)) (by unfold Func.isWrapper; first | (rw [if_pos (by decide +kernel)]; kernel_rfl) | (rw [if_neg (by decide +kernel)]; exact ⟨rfl, rfl⟩))
    (fun os started H enc _ => days_lifted os started H enc)
end Go.Proofs.YtbjgbgchagfokaaGreat
