/- Lists of numbers in a region that is walked without its worlds: what a step of 'append(append([]int{}, list...), one)' leaves. -/
import Derived.Test.YtbjgbgchagfokaaGreatProg
import Derived.Test.YtbjgbgchagfokaaGreatBasaa
import Derived.Test.YtbjgbgchagfokaaGreatBasad
import Derived.Test.YtbjgbgchagfokaaGreatBasam
import Derived.Test.YtbjgbgchagfokaaGreatQdaaa
import Derived.Shelf.Abstract
import Derived.Shelf.RegionOpen
import Derived.Test.YtbjgbgchagfokaaGreatBasab
import Derived.Test.YtbjgbgchagfokaaGreatBasah
import Derived.Deep.RegionHeld3
import Derived.Deep.CutRange
import Derived.Deep.DeepCutAuto
import Derived.Conc.Own4
import Derived.Test.YtbjgbgchagfokaaGreatBasaj
namespace Go.Proofs.YtbjgbgchagfokaaGreat
open Go Go.RowKit

def OwnLi (B : Nat) (w : World) (b : Nat) : Prop := OwnR 3 1 B w 0 [] b 0
def OwnAi (B : Nat) (x : List Nat) (w : World) (g c : Nat) : Prop := OwnR 3 1 B w x.length (natL x) g c
def OwnZi (B : Nat) (x : List Nat) (k : Nat) (w : World) (g c : Nat) : Prop := OwnR 3 1 B w (x.length + 1) (natL x ++ [.int .i64 (k : Int)]) g c
def RowI (k : Nat) (w : World) (d : Nat) : Prop := RowK #[.int .i64 (k : Int)] 3 w d
theorem OwnLi.st {B b : Nat} : Stable fun w => OwnLi B w b := OwnR.st
theorem OwnAi.st {B g c : Nat} {x : List Nat} : Stable fun w => OwnAi B x w g c := OwnR.st
theorem OwnZi.st {B g c k : Nat} {x : List Nat} : Stable fun w => OwnZi B x k w g c := OwnR.st
theorem RowI.st {k d : Nat} : Stable fun w => RowI k w d := RowK.st
theorem OwnLi.lt {B b : Nat} {w : World} (h : OwnLi B w b) : B ≤ b ∧ b < w.heap.size := OwnR.lt h
theorem OwnAi.lt {B g c : Nat} {x : List Nat} {w : World} (h : OwnAi B x w g c) : B ≤ g ∧ g < w.heap.size := OwnR.lt h
theorem OwnZi.lt {B g c k : Nat} {x : List Nat} {w : World} (h : OwnZi B x k w g c) : B ≤ g ∧ g < w.heap.size := OwnR.lt h
theorem natL_one (x : List Nat) : ∀ u ∈ natL x, u.oneCell' = true := fun u hu => by
  simp only [natL, List.mem_map] at hu
  obtain ⟨y, -, rfl⟩ := hu
  rfl
theorem natL_src {w : World} {x : List Nat} {p : Option Addr} {c : Nat} (hL : Lst w x p c) : (x.length = 0 ∧ natL x = []) ∨ ∃ ad, p = some ad ∧ (natL x).length = x.length * 1 ∧ ∀ j u, (natL x)[j]? = some u → w.cell? (ad.add j) = some u := by
  rcases hL.cells with h | ⟨bb, off, rfl, hlt, hc⟩
  · exact .inl ⟨h, by rw [natL, List.length_eq_zero_iff.1 h]; rfl⟩
  · refine .inr ⟨_, rfl, by simp [natL], fun j u hj => ?_⟩
    have hjl : j < x.length := by have := (List.getElem?_eq_some_iff.1 hj).1; simpa [natL] using this
    have e : (natL x)[j]? = some (.int .i64 ((x.getD j 0 : Nat) : Int)) := by simp [natL, List.getD_eq_getElem?_getD, List.getElem?_eq_getElem hjl]
    rw [e] at hj
    rw [← Option.some.inj hj]
    unfold Addr.add
    split
    · rename_i h0; subst h0; exact hc 0 hjl
    · exact hc j hjl
/-- The list is appended to the empty one. -/
theorem append_listI {B b c : Nat} {p : Option Addr} {x : List Nat} {w0 w : World} (hC : Below B w0 w) (hB : B = w0.heap.size) (hL : Lst w x p c) (hn : x.length ≤ 1048576) (h : OwnLi B w b) :
    ∃ g c' w', (Builtin.append_ #[25, 25] 25 #[sl b 0 0, .slice p x.length c]).run Tryz.prog w = .ok (sl g x.length c') w' ∧ OwnAi B x w' g c' ∧ Below B w0 w' ∧ (∀ q z, q ≠ b → w.heap[q]? = some z → w'.heap[q]? = some z) ∧ (g = b ∨ w.heap.size ≤ g) := by
  obtain ⟨i0, hi, hi0, hi1, hi2⟩ := info_parts1 infoInt
  obtain ⟨g, c', w', h1, h2, h3, h4, h5⟩ := app_list (P := Tryz.prog) Tryz.underlying25 hi hi0 hi1 hi2 rfl (by decide) (ty := 25) (cap := c) hC hB h (natL_src hL) (natL_one x) (by unfold maxLen; omega) (by omega)
  simp only [Nat.zero_add, List.nil_append] at h1 h2
  exact ⟨g, c', w', h1, h2, h3, h4, h5⟩
/-- One more is appended. -/
theorem append_oneI {B c d g k : Nat} {x : List Nat} {w0 w : World} (hC : Below B w0 w) (hB : B = w0.heap.size) (hn : x.length ≤ 1048576) (h : OwnAi B x w g c) (hk : RowI k w d) :
    ∃ g' c' w', (Builtin.append_ #[25, 25] 25 #[sl g x.length c, sl d 1 1]).run Tryz.prog w = .ok (sl g' (x.length + 1) c') w' ∧ OwnZi B x k w' g' c' ∧ Below B w0 w' ∧ (∀ q z, q ≠ g → w.heap[q]? = some z → w'.heap[q]? = some z) ∧ (g' = g ∨ w.heap.size ≤ g') := by
  obtain ⟨i0, hi, hi0, hi1, hi2⟩ := info_parts1 infoInt
  exact app_list (P := Tryz.prog) Tryz.underlying25 hi hi0 hi1 hi2 rfl (by decide) (ty := 25) (n := 1) (cap := 1) (a := some ⟨d, 0, none⟩) (news := [.int .i64 (k : Int)]) hC hB h (.inr ⟨_, rfl, rfl, World.news_of_block (cs := #[.int .i64 (k : Int)]) hk⟩) (by simp [Value.oneCell']) (by unfold maxLen; omega) (by omega)
theorem OwnZi.list {B g c k : Nat} {x : List Nat} {w : World} (h : OwnZi B x k w g c) : Lst w (x ++ [k]) (some ⟨g, 0, none⟩) c := by
  have hown : Own w B (x ++ [k]) (.slice (some ⟨g, 0, none⟩) (x.length + 1) c) := by
    unfold Own
    rw [show natL (x ++ [k]) = natL x ++ [.int .i64 (k : Int)] by simp [natL], show (x ++ [k]).length = x.length + 1 by simp]
    exact h
  obtain ⟨p', c', e, hL', -⟩ := hown.lst
  rw [show (x ++ [k]).length = x.length + 1 by simp] at e
  injection e with e1 _ e3
  subst e1 e3
  exact hL'

end Go.Proofs.YtbjgbgchagfokaaGreat

namespace Go.Proofs.YtbjgbgchagfokaaGreat
open Go Go.RowKit Go.Shelf

abbrev gd (b : List Nat) (i : Nat) : Nat := b.getD i 0
theorem fitsB_no {f : Nat → W2} {k v j : Nat} {p : Nat → Nat} : ∀ n, j < n → p j = v → clashB f j k = true → fitsB f k p v n = false
  | 0, h, _, _ => absurd h (Nat.not_lt_zero _)
  | n + 1, h, hp, hc => by
    rw [fitsB]
    by_cases e : j = n
    · subst e
      have hc' : (decide ((f j).s = (f k).s) || decide ((f j).m = (f k).m)) = true := hc
      rw [hp, hc']
      simp
    · rw [fitsB_no n (by omega) hp hc, Bool.false_and]
theorem fitsB_yes {f : Nat → W2} {k v j : Nat} {p : Nat → Nat} (h : fitsB f k p v j = true) (hn : p j ≠ v ∨ clashB f j k = false) : fitsB f k p v (j + 1) = true := by
  rw [fitsB, h, Bool.true_and, Bool.not_eq_true', Bool.and_eq_false_iff]
  rcases hn with hn | hn
  · exact .inl (by simpa using hn)
  · exact .inr hn

set_option maxHeartbeats 4000000 in
theorem fits_c (S M : Int) (a : Option Addr) (n cap : Nat) (f : Nat → W2) (b : List Nat) (p : Option Addr) (c v : Nat) (w : World) (hf : Wants w a n f) (hL : Lst w b p c) (hb : b.length < n) (hn : n ≤ 1048576) :
    Calls Tryz.prog 81 #[bookV S M a n cap, .slice p b.length c, .int .i64 v] w fun e w' => e = .returned (.bool (fitsB f b.length (gd b) v b.length)) ∧ Below w.heap.size w w' := by
  obtain ⟨W, hW⟩ : ∃ W, w.alloc (.cells #[.int .i64 S, .int .i64 M, .slice a n cap] 24) = W := ⟨_, rfl⟩
  have hB : Below w.heap.size w W := by rw [← hW]; exact Below.alloc1 (Below.refl _ _) _ (Nat.le_refl _)
  have hR : RowIs W w.heap.size #[.int .i64 S, .int .i64 M, .slice a n cap] 24 := by rw [← hW]; exact heap_new_at _ _ _ rfl
  have HR := Lib.hid hR
  have HF := Lib.hid (hf.below hB)
  have HL := Lib.hid (hL.below hB)
  have HB := Lib.hid hB
  clear hR hf hL hB
  go_enter Tryz.func81, Tryz.ntmps81
  go_wp2_with fail
  clear hW
  go_loopw [7] (fun i wr => ∃ j : Nat, j ≤ b.length ∧ i = .int .i64 j ∧ fitsB f b.length (gd b) v j = true ∧ Below W.heap.size W wr) (fun i _ => b.length - (intOf i).toNat)
  case atStart => exact ⟨0, Nat.zero_le _, rfl, rfl, Below.refl _ _⟩
  case round =>
    obtain ⟨j, hj, rfl, hfit, hbr⟩ := hrel
    have HFit := Lib.hid hfit
    have hr := RowIs.below HR.out hbr
    have r0 : wr.cell? ⟨w.heap.size, 0, none⟩ = some (.int .i64 S) := hr.cell 0
    have r1 : wr.cell? ⟨w.heap.size, 1, none⟩ = some (.int .i64 M) := hr.cell 1
    have r2 : wr.cell? ⟨w.heap.size, 2, none⟩ = some (.slice a n cap) := hr.cell 2
    have rz := hr.lt
    clear hr hfit
    by_cases hlt : j < b.length
    · obtain ⟨xb, xo, rfl, hxb, hxc⟩ := Cells.at (HL.out.below hbr).cells j hlt
      have cj : wr.cell? ⟨xb, xo + j, none⟩ = some (.int .i64 ((gd b j : Nat) : Int)) := hxc j hlt
      have Hbr := Lib.hid hbr
      clear hxc hbr
      have wj : IntKind.i64.wrap ((j : Int) + 1) = (j : Int) + 1 := IntWalk.i64_in _ (by omega)
      obtain ⟨x, hx⟩ : ∃ x, gd b j = x := ⟨_, rfl⟩
      rw [hx] at cj
      have HX := Lib.hid hx
      clear hx
      by_cases he : x = v
      · have t0 : ((x : Int) == (v : Int)) = true := by simp [he]
        have HE := Lib.hid he
        clear he
        cases hc : clashB f j b.length with
        | true =>
          have HC := Lib.hid (Clash_c S M a n cap f j b.length wr (HF.out.below Hbr.out) (by omega) hb)
          rw [hc] at HC
          have hz : fitsB f b.length (gd b) v b.length = false := fitsB_no _ hlt (by rw [HX.out, HE.out]) hc
          have HZ := Lib.hid hz
          clear hc hz
          go_wp2_with fail
          refine HC.out.mono ?_
          rintro e w1 ⟨rfl, hb1⟩
          go_wp2_with fail
          go_ret
          rw [HZ.out]
          exact ⟨rfl, bup HB.out (bup Hbr.out hb1)⟩
        | false =>
          have HC := Lib.hid (Clash_c S M a n cap f j b.length wr (HF.out.below Hbr.out) (by omega) hb)
          rw [hc] at HC
          have HY := Lib.hid (fitsB_yes HFit.out (.inr hc))
          clear hc
          go_wp2_with fail
          refine HC.out.mono ?_
          rintro e w1 ⟨rfl, hb1⟩
          go_wp2_with fail
          go_roundw
          case rel => exact ⟨j + 1, by omega, by go_num, HY.out, bup Hbr.out hb1⟩
          case measure => simp [intOf]; omega
      · have t0 : ((x : Int) == (v : Int)) = false := by simp; omega
        have HY := Lib.hid (fitsB_yes HFit.out (.inl (by rw [HX.out]; exact he)))
        clear he
        go_wp2_with fail
        go_roundw
        case rel => exact ⟨j + 1, by omega, by go_num, HY.out, Hbr.out⟩
        case measure => simp [intOf]; omega
    · obtain rfl : j = b.length := by omega
      go_wp2_with fail
      go_ret
      rw [HFit.out]
      exact ⟨rfl, bup HB.out hbr⟩

end Go.Proofs.YtbjgbgchagfokaaGreat

namespace Go.Proofs.YtbjgbgchagfokaaGreat
open Go Go.RowKit Go.Shelf

theorem gd_more (b : List Nat) (v : Nat) : gd (b ++ [v]) = updD (gd b) b.length v := by
  funext i
  unfold updD gd
  rw [List.getD_eq_getElem?_getD, List.getD_eq_getElem?_getD]
  by_cases e : i = b.length
  · subst e
    rw [if_pos rfl, List.getElem?_append_right (Nat.le_refl _), Nat.sub_self]
    rfl
  · rw [if_neg e]
    by_cases h : i < b.length
    · rw [List.getElem?_append_left h]
    · rw [List.getElem?_eq_none (by simp; omega), List.getElem?_eq_none (by omega)]
theorem tup_inj {p q : Option Addr} {n m c d : Nat} {x y : Bool} (h : Value.tuple #[.slice p n c, .bool x] = .tuple #[.slice q m d, .bool y]) : p = q ∧ n = m ∧ c = d ∧ x = y := by
  injection h with h
  injection h with h
  injection h with h1 h2
  injection h2 with h3 h4
  injection h1 with a1 a2 a3
  injection h3 with a4
  exact ⟨a1, a2, a3, a4⟩
/-- What the search leaves. -/
def Gone (f : Nat → W2) (n D k : Nat) (b : List Nat) (v : Value) (w : World) : Prop :=
  (∃ q c l, v = .tuple #[.slice q n c, .bool true] ∧ l.length = n ∧ Lst w l q c ∧ Firsts f n D k (gd b) (gd l)) ∨ (v = .tuple #[.slice none 0 0, .bool false] ∧ Nones f n D k (gd b))
theorem Gone.below {f : Nat → W2} {n D k : Nat} {b : List Nat} {v : Value} {w w' : World} (h : Gone f n D k b v w) (hb : Below w.heap.size w w') : Gone f n D k b v w' := by
  rcases h with ⟨q, c, l, h1, h2, h3, h4⟩ | h
  · exact .inl ⟨q, c, l, h1, h2, h3.below hb, h4⟩
  · exact .inr h

set_option maxRecDepth 100000 in
set_option maxHeartbeats 64000000 in
theorem goOn_c (S M : Int) (a : Option Addr) (n cap : Nat) (f : Nat → W2) (D : Nat) (hn : n ≤ 1000) (hD : D ≤ 1000) : ∀ (r : Nat) (b : List Nat) (p : Option Addr) (c : Nat) (w : World), b.length + r = n → Right f b.length D (gd b) → Wants w a n f → Lst w b p c →
    Calls Tryz.prog 60 #[bookV S M a n cap, .slice p b.length c, .int .i64 (D : Int)] w fun e w' => Below w.heap.size w w' ∧ ∃ v, e = .returned v ∧ Gone f n D b.length b v w' := by
  intro r
  induction r with
  | zero =>
    intro b p c w hbr hRt hf hL
    obtain rfl : b.length = n := by omega
    obtain ⟨W, hW⟩ : ∃ W, w.alloc (.cells #[.int .i64 S, .int .i64 M, .slice a b.length cap] 24) = W := ⟨_, rfl⟩
    have hB : Below w.heap.size w W := by rw [← hW]; exact Below.alloc1 (Below.refl _ _) _ (Nat.le_refl _)
    have hR : RowIs W w.heap.size #[.int .i64 S, .int .i64 M, .slice a b.length cap] 24 := by rw [← hW]; exact heap_new_at _ _ _ rfl
    have r2 : W.cell? ⟨w.heap.size, 2, none⟩ = some (.slice a b.length cap) := RowIs.cell hR 2
    have rz : w.heap.size < W.heap.size := hR.lt
    have HL := Lib.hid (hL.below hB)
    have HRt := Lib.hid hRt
    have t0 : ((b.length : Int) == (b.length : Int)) = true := by simp
    clear hR hf hL hRt
    go_enter Tryz.func60, Tryz.ntmps60
    go_wp2_with fail
    refine bodyPost_ret (v := .tuple #[.slice p b.length c, .bool true]) (by simp [results, Tryz.results60, go_sem]) rfl ⟨hB, _, rfl, .inl ⟨p, c, b, rfl, rfl, HL.out, firsts_end HRt.out⟩⟩
  | succ r ih =>
  intro b p c w hbr hRt hf hL
  have hbn : b.length < n := by omega
  have hx20 : b.length ≤ 1048576 := by omega
  obtain ⟨W, hW⟩ : ∃ W, w.alloc (.cells #[.int .i64 S, .int .i64 M, .slice a n cap] 24) = W := ⟨_, rfl⟩
  have hB : Below w.heap.size w W := by rw [← hW]; exact Below.alloc1 (Below.refl _ _) _ (Nat.le_refl _)
  have hR : RowIs W w.heap.size #[.int .i64 S, .int .i64 M, .slice a n cap] 24 := by rw [← hW]; exact heap_new_at _ _ _ rfl
  have r2 : W.cell? ⟨w.heap.size, 2, none⟩ = some (.slice a n cap) := RowIs.cell hR 2
  have rz : w.heap.size < W.heap.size := hR.lt
  have HR := Lib.hid hR
  have HF := Lib.hid (hf.below hB)
  have HL := Lib.hid (hL.below hB)
  have HB := Lib.hid hB
  have HRt := Lib.hid hRt
  have IH := Lib.hid ih
  have t0 : ((b.length : Int) == (n : Int)) = false := by simp; omega
  clear hR hf hL hRt hB ih
  go_enter Tryz.func60, Tryz.ntmps60
  go_wp2_with fail
  clear hW r2 rz t0
  go_loopw [8, 9, 10] (fun i _ _ wr => ∃ v : Nat, v ≤ D ∧ i = .int .i64 v ∧ NoneTo f n D b.length (gd b) v ∧ Below W.heap.size W wr) (fun i _ _ _ => D - (intOf i).toNat)
  case atStart => exact ⟨0, Nat.zero_le _, rfl, none_zero _ _ _ _ _, Below.refl _ _⟩
  case round =>
    obtain ⟨dv, hv, rfl, hNo, hbr⟩ := hrel
    have hr := RowIs.below HR.out hbr
    have r0 : wr.cell? ⟨w.heap.size, 0, none⟩ = some (.int .i64 S) := hr.cell 0
    have r1 : wr.cell? ⟨w.heap.size, 1, none⟩ = some (.int .i64 M) := hr.cell 1
    have r2 : wr.cell? ⟨w.heap.size, 2, none⟩ = some (.slice a n cap) := hr.cell 2
    have rz := hr.lt
    clear hr
    have HNo := Lib.hid hNo
    have Hbr := Lib.hid hbr
    clear hNo hbr
    by_cases hlt : dv < D
    · skip
      have HFi := Lib.hid (fits_c S M a n cap f b p c dv wr (HF.out.below Hbr.out) (HL.out.below Hbr.out) hbn (by omega))
      have wv : IntKind.i64.wrap ((dv : Int) + 1) = (dv : Int) + 1 := IntWalk.i64_in _ (by omega)
      cases hfit : fitsB f b.length (gd b) dv b.length with
      | false =>
        rw [hfit] at HFi
        have HN2 := Lib.hid (none_unfit hbn HNo.out fun h => by
          rw [(fitsB_iff f b.length (gd b) dv b.length).2 h] at hfit
          cases hfit)
        clear hfit
        go_wp2_with fail
        refine HFi.out.mono ?_
        rintro e w1 ⟨rfl, hb1⟩
        go_wp2_with fail
        go_roundw
        case rel => exact ⟨dv + 1, by omega, by go_num, HN2.out, bup Hbr.out hb1⟩
        case measure => simp [intOf]; omega
      | true =>
        rw [hfit] at HFi
        have hFits := (fitsB_iff f b.length (gd b) dv b.length).1 hfit
        have HRm := Lib.hid (right_upd HRt.out hlt hFits)
        clear hfit hFits
        go_wp2_with fail
        refine HFi.out.mono ?_
        rintro e w1 ⟨rfl, hb1⟩
        have HL1 := Lib.hid (HL.out.below (bup Hbr.out hb1))
        have HF1 := Lib.hid (HF.out.below (bup Hbr.out hb1))
        have q0 := (hb1.cell (p := ⟨w.heap.size, 0, none⟩) rz).trans r0
        have q1 := (hb1.cell (p := ⟨w.heap.size, 1, none⟩) rz).trans r1
        have q2 := (hb1.cell (p := ⟨w.heap.size, 2, none⟩) rz).trans r2
        have qz := Nat.lt_of_lt_of_le rz hb1.size
        have Hb1 := Lib.hid (bup Hbr.out hb1)
        clear hb1 r0 r1 r2 rz HFi
        have hrec : ∀ (y : World) (g c' : Nat), Below w1.heap.size w1 y → Lst y (b ++ [dv]) (some ⟨g, 0, none⟩) c' → Calls Tryz.prog 60 #[bookV S M a n cap, .slice (some ⟨g, 0, none⟩) (b.length + 1) c', .int .i64 (D : Int)] y fun e w' => Below y.heap.size y w' ∧ ∃ u, e = .returned u ∧ Gone f n D (b.length + 1) (b ++ [dv]) u w' := fun y g c' hy hl => by
          have hlen : (b ++ [dv]).length = b.length + 1 := by simp
          have h1 := IH.out (b ++ [dv]) (some ⟨g, 0, none⟩) c' y (by omega) (by rw [gd_more, hlen]; exact HRm.out) (HF1.out.below hy) hl
          rw [hlen] at h1
          exact h1
        have HREC := Lib.hid hrec
        clear hrec
        go_wp2_with fail
        go_cut [9, 10] from 28 to 39 (fun e1 e2 wx => (∃ q c' l, e1 = .slice q n c' ∧ e2 = .bool true ∧ l.length = n ∧ Lst wx l q c' ∧ Firsts f n D b.length (gd b) (gd l)) ∧ Below w1.heap.size w1 wx ∨ (e1 = .slice none 0 0 ∧ e2 = .bool false ∧ NoneTo f n D b.length (gd b) (dv + 1)) ∧ Below w1.heap.size w1 wx)
        case first =>
          refine RC.wp_region_runF (C := fun y => Below w1.heap.size w1 y) (fun y => Below w1.heap.size w1 y) (by kernel_rfl) (stable_below w1) (Below.refl _ _) ?_
          change RC.Run _ _ _ _ _ 14 _ _ _
          refine RC.run_take (i := 0) (.agg #[.int .i64 S, .int .i64 M, .slice a n cap]) rfl (by kernel_rfl) (by kernel_rfl) (by kernel_rfl) rfl (fun y h => h) (fun y hy => by have c0 := (hy.cell (p := ⟨w.heap.size, 0, none⟩) qz).trans q0; have c1 := (hy.cell (p := ⟨w.heap.size, 1, none⟩) qz).trans q1; have c2 := (hy.cell (p := ⟨w.heap.size, 2, none⟩) qz).trans q2; have cz := Nat.lt_of_lt_of_le qz hy.size; go_simp) ?_
          simp only [Act.put, List.getElem_toArray, List.getElem_cons_zero, List.setIfInBounds_toArray, List.set_cons_zero, List.set_cons_succ]
          refine RC.run_take (i := 2) (.slice p b.length c) rfl (by kernel_rfl) (by kernel_rfl) (by kernel_rfl) rfl (fun y h => h) (fun y hy => by go_simp) ?_
          simp only [Act.put, List.getElem_toArray, List.getElem_cons_zero, List.getElem_cons_succ, List.setIfInBounds_toArray, List.set_cons_zero, List.set_cons_succ]
          refine RC.run_take (i := 4) (.int .i64 (dv : Int)) rfl (by kernel_rfl) (by kernel_rfl) (by kernel_rfl) rfl (fun y h => h) (fun y hy => by go_simp) ?_
          simp only [Act.put, List.getElem_toArray, List.getElem_cons_zero, List.getElem_cons_succ, List.setIfInBounds_toArray, List.set_cons_zero, List.set_cons_succ]
          refine RC.run_take (i := 7) (.int .i64 (D : Int)) rfl (by kernel_rfl) (by kernel_rfl) (by kernel_rfl) rfl (fun y h => h) (fun y hy => by go_simp) ?_
          simp only [Act.put, List.getElem_toArray, List.getElem_cons_zero, List.getElem_cons_succ, List.setIfInBounds_toArray, List.set_cons_zero, List.set_cons_succ]
          refine RC.run_each [1, 5] (by kernel_rfl) (by decide) ?_
          intro i hi
          simp only [List.mem_cons, List.not_mem_nil, or_false] at hi
          rcases hi with rfl | rfl
          · skip
            refine RC.at_upd (fun v y => ∃ bb1, v = sl bb1 0 0 ∧ (Below w1.heap.size w1 y ∧ OwnLi w1.heap.size y bb1)) rfl rfl ?_ ?_ ?_ ?_
            · rintro v y y1 ⟨bb1, e, ⟨h0, h1⟩⟩ hb
              exact ⟨bb1, e, h0.trans (hb.mono h0.size), OwnLi.st _ _ h1 hb⟩
            · rintro v y ⟨bb1, e, ⟨h0, h1⟩⟩
              exact h0
            · rintro y g0
              refine ⟨sl y.heap.size 0 0, y.alloc (.cells #[] 3), by go_simp, ⟨y.heap.size, rfl, g0.alloc g0.size _, lit_owns g0.size⟩⟩
            rintro v ⟨_, bb1, rfl, -⟩
            refine RC.run_mono _ _ _ (fun y => Below w1.heap.size w1 y ∧ OwnLi w1.heap.size y bb1) _ ?_ ?_
            · rintro y ⟨bb1', e, h⟩
              have e2 := (sl_inj e).1
              subst e2
              exact h
            simp only [Act.put, List.getElem_toArray, List.getElem_cons_zero, List.getElem_cons_succ, List.setIfInBounds_toArray, List.set_cons_zero, List.set_cons_succ]
            refine RC.run_each [3, 5] (by kernel_rfl) (by decide) ?_
            intro i hi
            simp only [List.mem_cons, List.not_mem_nil, or_false] at hi
            rcases hi with rfl | rfl
            · skip
              refine RC.at_upd (fun v y => ∃ gg2 cc3, v = sl gg2 b.length cc3 ∧ (Below w1.heap.size w1 y ∧ OwnAi w1.heap.size b y gg2 cc3)) rfl rfl ?_ ?_ ?_ ?_
              · rintro v y y1 ⟨gg2, cc3, e, ⟨h0, h1⟩⟩ hb
                exact ⟨gg2, cc3, e, h0.trans (hb.mono h0.size), OwnAi.st _ _ h1 hb⟩
              · rintro v y ⟨gg2, cc3, e, ⟨h0, h1⟩⟩
                exact h0
              · rintro y ⟨g0, g1⟩
                obtain ⟨g, c', y', hr, a1, a2, a3, a4⟩ := append_listI g0 rfl (HL1.out.below g0) hx20 g1
                refine ⟨sl g b.length c', y', exec_app _ _ _ rfl _ _ rfl rfl hr, ⟨g, c', rfl, a2, a1⟩⟩
              rintro v ⟨_, gg2, cc3, rfl, -⟩
              refine RC.run_mono _ _ _ (fun y => Below w1.heap.size w1 y ∧ OwnAi w1.heap.size b y gg2 cc3) _ ?_ ?_
              · rintro y ⟨gg2', cc3', e, h⟩
                obtain ⟨e2, -, e3⟩ := sl_inj e
                subst e2 e3
                exact h
              simp only [Act.put, List.getElem_toArray, List.getElem_cons_zero, List.getElem_cons_succ, List.setIfInBounds_toArray, List.set_cons_zero, List.set_cons_succ]
              refine RC.run_each [5] (by kernel_rfl) (by decide) ?_
              intro i hi
              simp only [List.mem_cons, List.not_mem_nil, or_false] at hi
              subst hi
              refine RC.at_upd (fun v y => ∃ dd4, v = sl dd4 1 1 ∧ dd4 ≠ gg2 ∧ (Below w1.heap.size w1 y ∧ OwnAi w1.heap.size b y gg2 cc3 ∧ RowI dv y dd4)) rfl rfl ?_ ?_ ?_ ?_
              · rintro v y y1 ⟨dd4, e, hp0, ⟨h0, h1, h2⟩⟩ hb
                exact ⟨dd4, e, hp0, h0.trans (hb.mono h0.size), OwnAi.st _ _ h1 hb, RowI.st _ _ h2 hb⟩
              · rintro v y ⟨dd4, e, hp0, ⟨h0, h1, h2⟩⟩
                exact h0
              · rintro y ⟨g0, g1⟩
                refine ⟨sl y.heap.size 1 1, y.alloc (.cells #[.int .i64 (dv : Int)] 3), by go_simp, ⟨y.heap.size, rfl, Nat.ne_of_gt g1.lt.2, g0.alloc g0.size _, OwnAi.st _ _ g1 ((Below.refl _ y).alloc (Nat.le_refl _) _), World.alloc_heap_new y _⟩⟩
              rintro v ⟨_, dd4, rfl, hp0, -⟩
              refine RC.run_mono _ _ _ (fun y => Below w1.heap.size w1 y ∧ OwnAi w1.heap.size b y gg2 cc3 ∧ RowI dv y dd4) _ ?_ ?_
              · rintro y ⟨dd4', e, _, h⟩
                have e2 := (sl_inj e).1
                subst e2
                exact h
              simp only [Act.put, List.getElem_toArray, List.getElem_cons_zero, List.getElem_cons_succ, List.setIfInBounds_toArray, List.set_cons_zero, List.set_cons_succ]
              refine RC.run_each [6] (by kernel_rfl) (by decide) ?_
              intro i hi
              simp only [List.mem_cons, List.not_mem_nil, or_false] at hi
              subst hi
              refine RC.at_upd (fun v y => ∃ gg5 cc6, v = sl gg5 (b.length + 1) cc6 ∧ (Below w1.heap.size w1 y ∧ OwnZi w1.heap.size b dv y gg5 cc6)) rfl rfl ?_ ?_ ?_ ?_
              · rintro v y y1 ⟨gg5, cc6, e, ⟨h0, h1⟩⟩ hb
                exact ⟨gg5, cc6, e, h0.trans (hb.mono h0.size), OwnZi.st _ _ h1 hb⟩
              · rintro v y ⟨gg5, cc6, e, ⟨h0, h1⟩⟩
                exact h0
              · rintro y ⟨g0, g1, g2⟩
                obtain ⟨g, c', y', hr, a1, a2, a3, a4⟩ := append_oneI g0 rfl hx20 g1 g2
                refine ⟨sl g (b.length + 1) c', y', exec_app _ _ _ rfl _ _ rfl rfl hr, ⟨g, c', rfl, a2, a1⟩⟩
              rintro v ⟨_, gg5, cc6, rfl, -⟩
              refine RC.run_mono _ _ _ (fun y => Below w1.heap.size w1 y ∧ OwnZi w1.heap.size b dv y gg5 cc6) _ ?_ ?_
              · rintro y ⟨gg5', cc6', e, h⟩
                obtain ⟨e2, -, e3⟩ := sl_inj e
                subst e2 e3
                exact h
              simp only [Act.put, List.getElem_toArray, List.getElem_cons_zero, List.getElem_cons_succ, List.setIfInBounds_toArray, List.set_cons_zero, List.set_cons_succ]
              refine RC.run_only (i := 8) (by kernel_rfl) (RC.at_call (fun u y => Below w1.heap.size w1 y ∧ Gone f n D (b.length + 1) (b ++ [dv]) u y) rfl rfl (fun u y y1 h hb => ⟨h.1.trans (hb.mono h.1.size), h.2.below hb⟩) (fun u y h => h.1) (fun y hy => ?_) ?_)
              · obtain ⟨g0, g1⟩ := hy
                refine ⟨_, #[bookV S M a n cap, .slice (some ⟨gg5, 0, none⟩) (b.length + 1) cc6, .int .i64 (D : Int)], (Go.Conc.run_call_body (fn := Tryz.f60) rfl Tryz.func60 (by kernel_rfl) (by kernel_rfl)).trans (by simp [Act.eval]), (HREC.out y gg5 cc6 g0 (OwnZi.list g1)).mono ?_⟩
                rintro e y1 ⟨h1, u, rfl, h2⟩
                exact ⟨u, rfl, g0.trans (h1.mono g0.size), h2⟩
              intro u hu
              simp only [Act.put, List.getElem_toArray, List.getElem_cons_zero, List.getElem_cons_succ, List.setIfInBounds_toArray, List.set_cons_zero, List.set_cons_succ]
              refine RC.run_quiet (i := 9) u (by kernel_rfl) rfl rfl (fun y _ => by go_simp) ?_
              simp only [Act.put, List.getElem_toArray, List.getElem_cons_zero, List.getElem_cons_succ, List.setIfInBounds_toArray, List.set_cons_zero, List.set_cons_succ]
              obtain ⟨y0, -, hgo⟩ := hu
              rcases hgo with ⟨q, c', l, rfl, -, -, -⟩ | ⟨rfl, -⟩
              · skip
                refine RC.run_take (i := 10) (.slice q n c') rfl (by kernel_rfl) (by kernel_rfl) (by kernel_rfl) rfl (fun y h => h.1) (fun y _ => by go_simp) ?_
                simp only [Act.put, List.getElem_toArray, List.getElem_cons_zero, List.getElem_cons_succ, List.setIfInBounds_toArray, List.set_cons_zero, List.set_cons_succ]
                refine RC.run_take (i := 11) (.bool true) rfl (by kernel_rfl) (by kernel_rfl) (by kernel_rfl) rfl (fun y h => h.1) (fun y _ => by go_simp) ?_
                simp only [Act.put, List.getElem_toArray, List.getElem_cons_zero, List.getElem_cons_succ, List.setIfInBounds_toArray, List.set_cons_zero, List.set_cons_succ]
                refine RC.run_take (i := 12) (.slice q n c') rfl (by kernel_rfl) (by kernel_rfl) (by kernel_rfl) rfl (fun y h => h.1) (fun y _ => by go_simp) ?_
                simp only [Act.put, List.getElem_toArray, List.getElem_cons_zero, List.getElem_cons_succ, List.setIfInBounds_toArray, List.set_cons_zero, List.set_cons_succ]
                refine RC.run_take (i := 13) (.bool true) rfl (by kernel_rfl) (by kernel_rfl) (by kernel_rfl) rfl (fun y h => h.1) (fun y _ => by go_simp) ?_
                simp only [Act.put, List.getElem_toArray, List.getElem_cons_zero, List.getElem_cons_succ, List.setIfInBounds_toArray, List.set_cons_zero, List.set_cons_succ]
                refine ⟨by kernel_rfl, fun y hy => ?_⟩
                obtain ⟨g0, g1⟩ := hy
                have G0 := Lib.hid g0
                have G1 := Lib.hid g1
                clear g0 g1
                go_wp2_with fail
                go_meet
                rcases G1.out with ⟨q2, c2, l2, e, h1, h2, h3⟩ | ⟨e, -⟩
                · obtain ⟨rfl, -, rfl, -⟩ := tup_inj e
                  exact .inl ⟨⟨_, _, l2, rfl, rfl, h1, h2, firsts_sub HNo.out (by rw [← gd_more]; exact h3)⟩, G0.out⟩
                · obtain ⟨-, -, -, h⟩ := tup_inj e
                  cases h
              · skip
                refine RC.run_take (i := 10) (.slice none 0 0) rfl (by kernel_rfl) (by kernel_rfl) (by kernel_rfl) rfl (fun y h => h.1) (fun y _ => by go_simp) ?_
                simp only [Act.put, List.getElem_toArray, List.getElem_cons_zero, List.getElem_cons_succ, List.setIfInBounds_toArray, List.set_cons_zero, List.set_cons_succ]
                refine RC.run_take (i := 11) (.bool false) rfl (by kernel_rfl) (by kernel_rfl) (by kernel_rfl) rfl (fun y h => h.1) (fun y _ => by go_simp) ?_
                simp only [Act.put, List.getElem_toArray, List.getElem_cons_zero, List.getElem_cons_succ, List.setIfInBounds_toArray, List.set_cons_zero, List.set_cons_succ]
                refine RC.run_take (i := 12) (.slice none 0 0) rfl (by kernel_rfl) (by kernel_rfl) (by kernel_rfl) rfl (fun y h => h.1) (fun y _ => by go_simp) ?_
                simp only [Act.put, List.getElem_toArray, List.getElem_cons_zero, List.getElem_cons_succ, List.setIfInBounds_toArray, List.set_cons_zero, List.set_cons_succ]
                refine RC.run_take (i := 13) (.bool false) rfl (by kernel_rfl) (by kernel_rfl) (by kernel_rfl) rfl (fun y h => h.1) (fun y _ => by go_simp) ?_
                simp only [Act.put, List.getElem_toArray, List.getElem_cons_zero, List.getElem_cons_succ, List.setIfInBounds_toArray, List.set_cons_zero, List.set_cons_succ]
                refine ⟨by kernel_rfl, fun y hy => ?_⟩
                obtain ⟨g0, g1⟩ := hy
                have G0 := Lib.hid g0
                have G1 := Lib.hid g1
                clear g0 g1
                go_wp2_with fail
                go_meet
                rcases G1.out with ⟨q2, c2, l2, e, h1, h2, h3⟩ | ⟨-, h3⟩
                · obtain ⟨-, -, -, h⟩ := tup_inj e
                  cases h
                · exact .inr ⟨⟨rfl, rfl, none_sub HNo.out (by rw [← gd_more]; exact h3)⟩, G0.out⟩
            · skip
              refine RC.at_upd (fun v y => ∃ dd7, v = sl dd7 1 1 ∧ dd7 ≠ bb1 ∧ (Below w1.heap.size w1 y ∧ OwnLi w1.heap.size y bb1 ∧ RowI dv y dd7)) rfl rfl ?_ ?_ ?_ ?_
              · rintro v y y1 ⟨dd7, e, hp0, ⟨h0, h1, h2⟩⟩ hb
                exact ⟨dd7, e, hp0, h0.trans (hb.mono h0.size), OwnLi.st _ _ h1 hb, RowI.st _ _ h2 hb⟩
              · rintro v y ⟨dd7, e, hp0, ⟨h0, h1, h2⟩⟩
                exact h0
              · rintro y ⟨g0, g1⟩
                refine ⟨sl y.heap.size 1 1, y.alloc (.cells #[.int .i64 (dv : Int)] 3), by go_simp, ⟨y.heap.size, rfl, Nat.ne_of_gt g1.lt.2, g0.alloc g0.size _, OwnLi.st _ _ g1 ((Below.refl _ y).alloc (Nat.le_refl _) _), World.alloc_heap_new y _⟩⟩
              rintro v ⟨_, dd7, rfl, hp0, -⟩
              refine RC.run_mono _ _ _ (fun y => Below w1.heap.size w1 y ∧ OwnLi w1.heap.size y bb1 ∧ RowI dv y dd7) _ ?_ ?_
              · rintro y ⟨dd7', e, _, h⟩
                have e2 := (sl_inj e).1
                subst e2
                exact h
              simp only [Act.put, List.getElem_toArray, List.getElem_cons_zero, List.getElem_cons_succ, List.setIfInBounds_toArray, List.set_cons_zero, List.set_cons_succ]
              refine RC.run_each [3] (by kernel_rfl) (by decide) ?_
              intro i hi
              simp only [List.mem_cons, List.not_mem_nil, or_false] at hi
              subst hi
              refine RC.at_upd (fun v y => ∃ gg8 cc9, v = sl gg8 b.length cc9 ∧ dd7 ≠ gg8 ∧ (Below w1.heap.size w1 y ∧ OwnAi w1.heap.size b y gg8 cc9 ∧ RowI dv y dd7)) rfl rfl ?_ ?_ ?_ ?_
              · rintro v y y1 ⟨gg8, cc9, e, hp0, ⟨h0, h1, h2⟩⟩ hb
                exact ⟨gg8, cc9, e, hp0, h0.trans (hb.mono h0.size), OwnAi.st _ _ h1 hb, RowI.st _ _ h2 hb⟩
              · rintro v y ⟨gg8, cc9, e, hp0, ⟨h0, h1, h2⟩⟩
                exact h0
              · rintro y ⟨g0, g1, g2⟩
                obtain ⟨g, c', y', hr, a1, a2, a3, a4⟩ := append_listI g0 rfl (HL1.out.below g0) hx20 g1
                have hdg : dd7 ≠ g := by
                  rcases a4 with a4 | a4
                  · rw [a4]
                    exact hp0
                  · have := heap_size_lt g2
                    omega
                refine ⟨sl g b.length c', y', exec_app _ _ _ rfl _ _ rfl rfl hr, ⟨g, c', rfl, hdg, a2, a1, a3 _ _ hp0 g2⟩⟩
              rintro v ⟨_, gg8, cc9, rfl, hp0, -⟩
              refine RC.run_mono _ _ _ (fun y => Below w1.heap.size w1 y ∧ OwnAi w1.heap.size b y gg8 cc9 ∧ RowI dv y dd7) _ ?_ ?_
              · rintro y ⟨gg8', cc9', e, _, h⟩
                obtain ⟨e2, -, e3⟩ := sl_inj e
                subst e2 e3
                exact h
              simp only [Act.put, List.getElem_toArray, List.getElem_cons_zero, List.getElem_cons_succ, List.setIfInBounds_toArray, List.set_cons_zero, List.set_cons_succ]
              refine RC.run_each [6] (by kernel_rfl) (by decide) ?_
              intro i hi
              simp only [List.mem_cons, List.not_mem_nil, or_false] at hi
              subst hi
              refine RC.at_upd (fun v y => ∃ gg10 cc11, v = sl gg10 (b.length + 1) cc11 ∧ (Below w1.heap.size w1 y ∧ OwnZi w1.heap.size b dv y gg10 cc11)) rfl rfl ?_ ?_ ?_ ?_
              · rintro v y y1 ⟨gg10, cc11, e, ⟨h0, h1⟩⟩ hb
                exact ⟨gg10, cc11, e, h0.trans (hb.mono h0.size), OwnZi.st _ _ h1 hb⟩
              · rintro v y ⟨gg10, cc11, e, ⟨h0, h1⟩⟩
                exact h0
              · rintro y ⟨g0, g1, g2⟩
                obtain ⟨g, c', y', hr, a1, a2, a3, a4⟩ := append_oneI g0 rfl hx20 g1 g2
                refine ⟨sl g (b.length + 1) c', y', exec_app _ _ _ rfl _ _ rfl rfl hr, ⟨g, c', rfl, a2, a1⟩⟩
              rintro v ⟨_, gg10, cc11, rfl, -⟩
              refine RC.run_mono _ _ _ (fun y => Below w1.heap.size w1 y ∧ OwnZi w1.heap.size b dv y gg10 cc11) _ ?_ ?_
              · rintro y ⟨gg10', cc11', e, h⟩
                obtain ⟨e2, -, e3⟩ := sl_inj e
                subst e2 e3
                exact h
              simp only [Act.put, List.getElem_toArray, List.getElem_cons_zero, List.getElem_cons_succ, List.setIfInBounds_toArray, List.set_cons_zero, List.set_cons_succ]
              refine RC.run_only (i := 8) (by kernel_rfl) (RC.at_call (fun u y => Below w1.heap.size w1 y ∧ Gone f n D (b.length + 1) (b ++ [dv]) u y) rfl rfl (fun u y y1 h hb => ⟨h.1.trans (hb.mono h.1.size), h.2.below hb⟩) (fun u y h => h.1) (fun y hy => ?_) ?_)
              · obtain ⟨g0, g1⟩ := hy
                refine ⟨_, #[bookV S M a n cap, .slice (some ⟨gg10, 0, none⟩) (b.length + 1) cc11, .int .i64 (D : Int)], (Go.Conc.run_call_body (fn := Tryz.f60) rfl Tryz.func60 (by kernel_rfl) (by kernel_rfl)).trans (by simp [Act.eval]), (HREC.out y gg10 cc11 g0 (OwnZi.list g1)).mono ?_⟩
                rintro e y1 ⟨h1, u, rfl, h2⟩
                exact ⟨u, rfl, g0.trans (h1.mono g0.size), h2⟩
              intro u hu
              simp only [Act.put, List.getElem_toArray, List.getElem_cons_zero, List.getElem_cons_succ, List.setIfInBounds_toArray, List.set_cons_zero, List.set_cons_succ]
              refine RC.run_quiet (i := 9) u (by kernel_rfl) rfl rfl (fun y _ => by go_simp) ?_
              simp only [Act.put, List.getElem_toArray, List.getElem_cons_zero, List.getElem_cons_succ, List.setIfInBounds_toArray, List.set_cons_zero, List.set_cons_succ]
              obtain ⟨y0, -, hgo⟩ := hu
              rcases hgo with ⟨q, c', l, rfl, -, -, -⟩ | ⟨rfl, -⟩
              · skip
                refine RC.run_take (i := 10) (.slice q n c') rfl (by kernel_rfl) (by kernel_rfl) (by kernel_rfl) rfl (fun y h => h.1) (fun y _ => by go_simp) ?_
                simp only [Act.put, List.getElem_toArray, List.getElem_cons_zero, List.getElem_cons_succ, List.setIfInBounds_toArray, List.set_cons_zero, List.set_cons_succ]
                refine RC.run_take (i := 11) (.bool true) rfl (by kernel_rfl) (by kernel_rfl) (by kernel_rfl) rfl (fun y h => h.1) (fun y _ => by go_simp) ?_
                simp only [Act.put, List.getElem_toArray, List.getElem_cons_zero, List.getElem_cons_succ, List.setIfInBounds_toArray, List.set_cons_zero, List.set_cons_succ]
                refine RC.run_take (i := 12) (.slice q n c') rfl (by kernel_rfl) (by kernel_rfl) (by kernel_rfl) rfl (fun y h => h.1) (fun y _ => by go_simp) ?_
                simp only [Act.put, List.getElem_toArray, List.getElem_cons_zero, List.getElem_cons_succ, List.setIfInBounds_toArray, List.set_cons_zero, List.set_cons_succ]
                refine RC.run_take (i := 13) (.bool true) rfl (by kernel_rfl) (by kernel_rfl) (by kernel_rfl) rfl (fun y h => h.1) (fun y _ => by go_simp) ?_
                simp only [Act.put, List.getElem_toArray, List.getElem_cons_zero, List.getElem_cons_succ, List.setIfInBounds_toArray, List.set_cons_zero, List.set_cons_succ]
                refine ⟨by kernel_rfl, fun y hy => ?_⟩
                obtain ⟨g0, g1⟩ := hy
                have G0 := Lib.hid g0
                have G1 := Lib.hid g1
                clear g0 g1
                go_wp2_with fail
                go_meet
                rcases G1.out with ⟨q2, c2, l2, e, h1, h2, h3⟩ | ⟨e, -⟩
                · obtain ⟨rfl, -, rfl, -⟩ := tup_inj e
                  exact .inl ⟨⟨_, _, l2, rfl, rfl, h1, h2, firsts_sub HNo.out (by rw [← gd_more]; exact h3)⟩, G0.out⟩
                · obtain ⟨-, -, -, h⟩ := tup_inj e
                  cases h
              · skip
                refine RC.run_take (i := 10) (.slice none 0 0) rfl (by kernel_rfl) (by kernel_rfl) (by kernel_rfl) rfl (fun y h => h.1) (fun y _ => by go_simp) ?_
                simp only [Act.put, List.getElem_toArray, List.getElem_cons_zero, List.getElem_cons_succ, List.setIfInBounds_toArray, List.set_cons_zero, List.set_cons_succ]
                refine RC.run_take (i := 11) (.bool false) rfl (by kernel_rfl) (by kernel_rfl) (by kernel_rfl) rfl (fun y h => h.1) (fun y _ => by go_simp) ?_
                simp only [Act.put, List.getElem_toArray, List.getElem_cons_zero, List.getElem_cons_succ, List.setIfInBounds_toArray, List.set_cons_zero, List.set_cons_succ]
                refine RC.run_take (i := 12) (.slice none 0 0) rfl (by kernel_rfl) (by kernel_rfl) (by kernel_rfl) rfl (fun y h => h.1) (fun y _ => by go_simp) ?_
                simp only [Act.put, List.getElem_toArray, List.getElem_cons_zero, List.getElem_cons_succ, List.setIfInBounds_toArray, List.set_cons_zero, List.set_cons_succ]
                refine RC.run_take (i := 13) (.bool false) rfl (by kernel_rfl) (by kernel_rfl) (by kernel_rfl) rfl (fun y h => h.1) (fun y _ => by go_simp) ?_
                simp only [Act.put, List.getElem_toArray, List.getElem_cons_zero, List.getElem_cons_succ, List.setIfInBounds_toArray, List.set_cons_zero, List.set_cons_succ]
                refine ⟨by kernel_rfl, fun y hy => ?_⟩
                obtain ⟨g0, g1⟩ := hy
                have G0 := Lib.hid g0
                have G1 := Lib.hid g1
                clear g0 g1
                go_wp2_with fail
                go_meet
                rcases G1.out with ⟨q2, c2, l2, e, h1, h2, h3⟩ | ⟨-, h3⟩
                · obtain ⟨-, -, -, h⟩ := tup_inj e
                  cases h
                · exact .inr ⟨⟨rfl, rfl, none_sub HNo.out (by rw [← gd_more]; exact h3)⟩, G0.out⟩
          · skip
            refine RC.at_upd (fun v y => ∃ dd12, v = sl dd12 1 1 ∧ (Below w1.heap.size w1 y ∧ RowI dv y dd12)) rfl rfl ?_ ?_ ?_ ?_
            · rintro v y y1 ⟨dd12, e, ⟨h0, h2⟩⟩ hb
              exact ⟨dd12, e, h0.trans (hb.mono h0.size), RowI.st _ _ h2 hb⟩
            · rintro v y ⟨dd12, e, ⟨h0, h2⟩⟩
              exact h0
            · rintro y g0
              refine ⟨sl y.heap.size 1 1, y.alloc (.cells #[.int .i64 (dv : Int)] 3), by go_simp, ⟨y.heap.size, rfl, g0.alloc g0.size _, World.alloc_heap_new y _⟩⟩
            rintro v ⟨_, dd12, rfl, -⟩
            refine RC.run_mono _ _ _ (fun y => Below w1.heap.size w1 y ∧ RowI dv y dd12) _ ?_ ?_
            · rintro y ⟨dd12', e, h⟩
              have e2 := (sl_inj e).1
              subst e2
              exact h
            simp only [Act.put, List.getElem_toArray, List.getElem_cons_zero, List.getElem_cons_succ, List.setIfInBounds_toArray, List.set_cons_zero, List.set_cons_succ]
            refine RC.run_each [1] (by kernel_rfl) (by decide) ?_
            intro i hi
            simp only [List.mem_cons, List.not_mem_nil, or_false] at hi
            subst hi
            refine RC.at_upd (fun v y => ∃ bb13, v = sl bb13 0 0 ∧ dd12 ≠ bb13 ∧ (Below w1.heap.size w1 y ∧ OwnLi w1.heap.size y bb13 ∧ RowI dv y dd12)) rfl rfl ?_ ?_ ?_ ?_
            · rintro v y y1 ⟨bb13, e, hp0, ⟨h0, h1, h2⟩⟩ hb
              exact ⟨bb13, e, hp0, h0.trans (hb.mono h0.size), OwnLi.st _ _ h1 hb, RowI.st _ _ h2 hb⟩
            · rintro v y ⟨bb13, e, hp0, ⟨h0, h1, h2⟩⟩
              exact h0
            · rintro y ⟨g0, g2⟩
              refine ⟨sl y.heap.size 0 0, y.alloc (.cells #[] 3), by go_simp, ⟨y.heap.size, rfl, Nat.ne_of_lt (heap_size_lt g2), g0.alloc g0.size _, lit_owns g0.size, RowI.st _ _ g2 ((Below.refl _ y).alloc (Nat.le_refl _) _)⟩⟩
            rintro v ⟨_, bb13, rfl, hp0, -⟩
            refine RC.run_mono _ _ _ (fun y => Below w1.heap.size w1 y ∧ OwnLi w1.heap.size y bb13 ∧ RowI dv y dd12) _ ?_ ?_
            · rintro y ⟨bb13', e, _, h⟩
              have e2 := (sl_inj e).1
              subst e2
              exact h
            simp only [Act.put, List.getElem_toArray, List.getElem_cons_zero, List.getElem_cons_succ, List.setIfInBounds_toArray, List.set_cons_zero, List.set_cons_succ]
            refine RC.run_each [3] (by kernel_rfl) (by decide) ?_
            intro i hi
            simp only [List.mem_cons, List.not_mem_nil, or_false] at hi
            subst hi
            refine RC.at_upd (fun v y => ∃ gg14 cc15, v = sl gg14 b.length cc15 ∧ dd12 ≠ gg14 ∧ (Below w1.heap.size w1 y ∧ OwnAi w1.heap.size b y gg14 cc15 ∧ RowI dv y dd12)) rfl rfl ?_ ?_ ?_ ?_
            · rintro v y y1 ⟨gg14, cc15, e, hp0, ⟨h0, h1, h2⟩⟩ hb
              exact ⟨gg14, cc15, e, hp0, h0.trans (hb.mono h0.size), OwnAi.st _ _ h1 hb, RowI.st _ _ h2 hb⟩
            · rintro v y ⟨gg14, cc15, e, hp0, ⟨h0, h1, h2⟩⟩
              exact h0
            · rintro y ⟨g0, g1, g2⟩
              obtain ⟨g, c', y', hr, a1, a2, a3, a4⟩ := append_listI g0 rfl (HL1.out.below g0) hx20 g1
              have hdg : dd12 ≠ g := by
                rcases a4 with a4 | a4
                · rw [a4]
                  exact hp0
                · have := heap_size_lt g2
                  omega
              refine ⟨sl g b.length c', y', exec_app _ _ _ rfl _ _ rfl rfl hr, ⟨g, c', rfl, hdg, a2, a1, a3 _ _ hp0 g2⟩⟩
            rintro v ⟨_, gg14, cc15, rfl, hp0, -⟩
            refine RC.run_mono _ _ _ (fun y => Below w1.heap.size w1 y ∧ OwnAi w1.heap.size b y gg14 cc15 ∧ RowI dv y dd12) _ ?_ ?_
            · rintro y ⟨gg14', cc15', e, _, h⟩
              obtain ⟨e2, -, e3⟩ := sl_inj e
              subst e2 e3
              exact h
            simp only [Act.put, List.getElem_toArray, List.getElem_cons_zero, List.getElem_cons_succ, List.setIfInBounds_toArray, List.set_cons_zero, List.set_cons_succ]
            refine RC.run_each [6] (by kernel_rfl) (by decide) ?_
            intro i hi
            simp only [List.mem_cons, List.not_mem_nil, or_false] at hi
            subst hi
            refine RC.at_upd (fun v y => ∃ gg16 cc17, v = sl gg16 (b.length + 1) cc17 ∧ (Below w1.heap.size w1 y ∧ OwnZi w1.heap.size b dv y gg16 cc17)) rfl rfl ?_ ?_ ?_ ?_
            · rintro v y y1 ⟨gg16, cc17, e, ⟨h0, h1⟩⟩ hb
              exact ⟨gg16, cc17, e, h0.trans (hb.mono h0.size), OwnZi.st _ _ h1 hb⟩
            · rintro v y ⟨gg16, cc17, e, ⟨h0, h1⟩⟩
              exact h0
            · rintro y ⟨g0, g1, g2⟩
              obtain ⟨g, c', y', hr, a1, a2, a3, a4⟩ := append_oneI g0 rfl hx20 g1 g2
              refine ⟨sl g (b.length + 1) c', y', exec_app _ _ _ rfl _ _ rfl rfl hr, ⟨g, c', rfl, a2, a1⟩⟩
            rintro v ⟨_, gg16, cc17, rfl, -⟩
            refine RC.run_mono _ _ _ (fun y => Below w1.heap.size w1 y ∧ OwnZi w1.heap.size b dv y gg16 cc17) _ ?_ ?_
            · rintro y ⟨gg16', cc17', e, h⟩
              obtain ⟨e2, -, e3⟩ := sl_inj e
              subst e2 e3
              exact h
            simp only [Act.put, List.getElem_toArray, List.getElem_cons_zero, List.getElem_cons_succ, List.setIfInBounds_toArray, List.set_cons_zero, List.set_cons_succ]
            refine RC.run_only (i := 8) (by kernel_rfl) (RC.at_call (fun u y => Below w1.heap.size w1 y ∧ Gone f n D (b.length + 1) (b ++ [dv]) u y) rfl rfl (fun u y y1 h hb => ⟨h.1.trans (hb.mono h.1.size), h.2.below hb⟩) (fun u y h => h.1) (fun y hy => ?_) ?_)
            · obtain ⟨g0, g1⟩ := hy
              refine ⟨_, #[bookV S M a n cap, .slice (some ⟨gg16, 0, none⟩) (b.length + 1) cc17, .int .i64 (D : Int)], (Go.Conc.run_call_body (fn := Tryz.f60) rfl Tryz.func60 (by kernel_rfl) (by kernel_rfl)).trans (by simp [Act.eval]), (HREC.out y gg16 cc17 g0 (OwnZi.list g1)).mono ?_⟩
              rintro e y1 ⟨h1, u, rfl, h2⟩
              exact ⟨u, rfl, g0.trans (h1.mono g0.size), h2⟩
            intro u hu
            simp only [Act.put, List.getElem_toArray, List.getElem_cons_zero, List.getElem_cons_succ, List.setIfInBounds_toArray, List.set_cons_zero, List.set_cons_succ]
            refine RC.run_quiet (i := 9) u (by kernel_rfl) rfl rfl (fun y _ => by go_simp) ?_
            simp only [Act.put, List.getElem_toArray, List.getElem_cons_zero, List.getElem_cons_succ, List.setIfInBounds_toArray, List.set_cons_zero, List.set_cons_succ]
            obtain ⟨y0, -, hgo⟩ := hu
            rcases hgo with ⟨q, c', l, rfl, -, -, -⟩ | ⟨rfl, -⟩
            · skip
              refine RC.run_take (i := 10) (.slice q n c') rfl (by kernel_rfl) (by kernel_rfl) (by kernel_rfl) rfl (fun y h => h.1) (fun y _ => by go_simp) ?_
              simp only [Act.put, List.getElem_toArray, List.getElem_cons_zero, List.getElem_cons_succ, List.setIfInBounds_toArray, List.set_cons_zero, List.set_cons_succ]
              refine RC.run_take (i := 11) (.bool true) rfl (by kernel_rfl) (by kernel_rfl) (by kernel_rfl) rfl (fun y h => h.1) (fun y _ => by go_simp) ?_
              simp only [Act.put, List.getElem_toArray, List.getElem_cons_zero, List.getElem_cons_succ, List.setIfInBounds_toArray, List.set_cons_zero, List.set_cons_succ]
              refine RC.run_take (i := 12) (.slice q n c') rfl (by kernel_rfl) (by kernel_rfl) (by kernel_rfl) rfl (fun y h => h.1) (fun y _ => by go_simp) ?_
              simp only [Act.put, List.getElem_toArray, List.getElem_cons_zero, List.getElem_cons_succ, List.setIfInBounds_toArray, List.set_cons_zero, List.set_cons_succ]
              refine RC.run_take (i := 13) (.bool true) rfl (by kernel_rfl) (by kernel_rfl) (by kernel_rfl) rfl (fun y h => h.1) (fun y _ => by go_simp) ?_
              simp only [Act.put, List.getElem_toArray, List.getElem_cons_zero, List.getElem_cons_succ, List.setIfInBounds_toArray, List.set_cons_zero, List.set_cons_succ]
              refine ⟨by kernel_rfl, fun y hy => ?_⟩
              obtain ⟨g0, g1⟩ := hy
              have G0 := Lib.hid g0
              have G1 := Lib.hid g1
              clear g0 g1
              go_wp2_with fail
              go_meet
              rcases G1.out with ⟨q2, c2, l2, e, h1, h2, h3⟩ | ⟨e, -⟩
              · obtain ⟨rfl, -, rfl, -⟩ := tup_inj e
                exact .inl ⟨⟨_, _, l2, rfl, rfl, h1, h2, firsts_sub HNo.out (by rw [← gd_more]; exact h3)⟩, G0.out⟩
              · obtain ⟨-, -, -, h⟩ := tup_inj e
                cases h
            · skip
              refine RC.run_take (i := 10) (.slice none 0 0) rfl (by kernel_rfl) (by kernel_rfl) (by kernel_rfl) rfl (fun y h => h.1) (fun y _ => by go_simp) ?_
              simp only [Act.put, List.getElem_toArray, List.getElem_cons_zero, List.getElem_cons_succ, List.setIfInBounds_toArray, List.set_cons_zero, List.set_cons_succ]
              refine RC.run_take (i := 11) (.bool false) rfl (by kernel_rfl) (by kernel_rfl) (by kernel_rfl) rfl (fun y h => h.1) (fun y _ => by go_simp) ?_
              simp only [Act.put, List.getElem_toArray, List.getElem_cons_zero, List.getElem_cons_succ, List.setIfInBounds_toArray, List.set_cons_zero, List.set_cons_succ]
              refine RC.run_take (i := 12) (.slice none 0 0) rfl (by kernel_rfl) (by kernel_rfl) (by kernel_rfl) rfl (fun y h => h.1) (fun y _ => by go_simp) ?_
              simp only [Act.put, List.getElem_toArray, List.getElem_cons_zero, List.getElem_cons_succ, List.setIfInBounds_toArray, List.set_cons_zero, List.set_cons_succ]
              refine RC.run_take (i := 13) (.bool false) rfl (by kernel_rfl) (by kernel_rfl) (by kernel_rfl) rfl (fun y h => h.1) (fun y _ => by go_simp) ?_
              simp only [Act.put, List.getElem_toArray, List.getElem_cons_zero, List.getElem_cons_succ, List.setIfInBounds_toArray, List.set_cons_zero, List.set_cons_succ]
              refine ⟨by kernel_rfl, fun y hy => ?_⟩
              obtain ⟨g0, g1⟩ := hy
              have G0 := Lib.hid g0
              have G1 := Lib.hid g1
              clear g0 g1
              go_wp2_with fail
              go_meet
              rcases G1.out with ⟨q2, c2, l2, e, h1, h2, h3⟩ | ⟨-, h3⟩
              · obtain ⟨-, -, -, h⟩ := tup_inj e
                cases h
              · exact .inr ⟨⟨rfl, rfl, none_sub HNo.out (by rw [← gd_more]; exact h3)⟩, G0.out⟩
        case rest =>
        obtain ⟨w2, hww⟩ : ∃ x, x = wc := ⟨_, rfl⟩
        subst hww
        clear q0 q1 q2 qz HREC HF1 HL1
        rcases hcut with ⟨⟨q, c', l, rfl, rfl, hl, hLl, hFi⟩, hcb⟩ | ⟨⟨rfl, rfl, hN3⟩, hcb⟩
        · have LL := Lib.hid hLl
          have HFi := Lib.hid hFi
          have hB2 := Lib.hid (bup HB.out (bup Hb1.out hcb))
          clear hLl hFi hcb
          go_wp2_with fail
          refine bodyPost_ret (v := .tuple #[.slice q n c', .bool true]) (by simp [results, Tryz.results60, go_sem]) rfl ⟨hB2.out, _, rfl, .inl ⟨q, c', l, rfl, hl, LL.out, HFi.out⟩⟩
        · have HN3 := Lib.hid hN3
          have Hb2 := Lib.hid (bup Hb1.out hcb)
          clear hN3 hcb
          go_wp2_with fail
          go_roundw
          case rel => exact ⟨dv + 1, by omega, by go_num, HN3.out, Hb2.out⟩
          case measure => simp [intOf]; omega
    · obtain rfl : dv = D := by omega
      have HN4 := Lib.hid (none_whole hbn HNo.out)
      go_wp2_with fail
      refine bodyPost_ret (v := .tuple #[.slice none 0 0, .bool false]) (by simp [results, Tryz.results60, go_sem]) rfl ⟨bup HB.out Hbr.out, _, rfl, .inr ⟨rfl, HN4.out⟩⟩

end Go.Proofs.YtbjgbgchagfokaaGreat
