/- Contracts of layer 2: the document's own answer to a cover. -/
import Derived.Test.YtbjgbgchagfokaaGreatProg
import Derived.Test.YtbjgbgchagfokaaGreatBasaa
import Derived.Test.YtbjgbgchagfokaaGreatBasab
import Derived.Test.YtbjgbgchagfokaaGreatBasac
import Derived.Test.YtbjgbgchagfokaaGreatBasah
import Derived.Test.YtbjgbgchagfokaaGreatBasad
namespace Go.Proofs.YtbjgbgchagfokaaGreat
open Go Go.RowKit

def missB (f : Nat → W2) (ns : Nat) (sh : Nat → Int) (nm : Nat) (mo : Nat → Int) (k : Nat) : Bool := !hasB sh (f k).s ns && !hasB mo (f k).m nm
def coverB (f : Nat → W2) (ns : Nat) (sh : Nat → Int) (nm : Nat) (mo : Nat → Int) : Nat → Bool
  | 0 => true
  | k + 1 => coverB f ns sh nm mo k && !missB f ns sh nm mo k
theorem coverB_no (f : Nat → W2) (ns : Nat) (sh : Nat → Int) (nm : Nat) (mo : Nat → Int) (k : Nat) : ∀ n, k < n → missB f ns sh nm mo k = true → coverB f ns sh nm mo n = false
  | 0, h, _ => absurd h (Nat.not_lt_zero _)
  | n + 1, h, hb => by
    by_cases e : k = n
    · subst e; simp [coverB, hb]
    · simp [coverB, coverB_no f ns sh nm mo k n (by omega) hb]
/-- The error of a cover. -/
def coverE (S M : Int) (n : Nat) (f : Nat → W2) (ns : Nat) (sh : Nat → Int) (nm : Nat) (mo : Nat → Int) : Int :=
  if bookE S M n f = 0 then (if listB sh S ns = true ∧ listB mo M nm = true then (if coverB f ns sh nm mo n = true then 0 else 14) else 3) else bookE S M n f
/-- How many numbers a cover has, if there is no error. -/
def coverN (e : Int) (ns nm : Nat) : Int := if e = 0 then (ns : Int) + nm else 0

set_option maxHeartbeats 8000000 in
theorem rcheckCover_c (S M : Int) (a : Option Addr) (n cap : Nat) (f : Nat → W2) (sa : Option Addr) (ns scap : Nat) (sh : Nat → Int) (ma : Option Addr) (nm mcap : Nat) (mo : Nat → Int) (w : World)
    (hf : Wants w a n f) (hn : n ≤ 1048576) (hs : Ints w sa ns sh) (hns : ns ≤ 1048576) (hm : Ints w ma nm mo) (hnm : nm ≤ 1048576) :
    Calls Tryz.prog 27 #[bookV S M a n cap, .slice sa ns scap, .slice ma nm mcap] w fun e w' => e = .returned (.tuple #[.int .i64 (coverN (coverE S M n f ns sh nm mo) ns nm), .int .i64 (coverE S M n f ns sh nm mo)]) ∧ Below w.heap.size w w' := by
  obtain ⟨W, hW⟩ : ∃ W, w.alloc (.cells #[.int .i64 S, .int .i64 M, .slice a n cap] 24) = W := ⟨_, rfl⟩
  have hB : Below w.heap.size w W := by rw [← hW]; exact Below.alloc1 (Below.refl _ _) _ (Nat.le_refl _)
  have hR : W.heap[w.heap.size]? = some (.cells #[.int .i64 S, .int .i64 M, .slice a n cap] 24 (0, 0)) := by rw [← hW]; exact heap_new_at _ _ _ rfl
  have r0 : W.cell? ⟨w.heap.size, 0, none⟩ = some (.int .i64 S) := RowIs.cell hR 0
  have r1 : W.cell? ⟨w.heap.size, 1, none⟩ = some (.int .i64 M) := RowIs.cell hR 1
  have r2 : W.cell? ⟨w.heap.size, 2, none⟩ = some (.slice a n cap) := RowIs.cell hR 2
  have rz : w.heap.size < W.heap.size := (Array.getElem?_eq_some_iff.1 hR).1
  have HfW := Lib.hid (hf.below hB)
  have HsW := Lib.hid (Cells.below hs hB)
  have HmW := Lib.hid (Cells.below hm hB)
  clear hf hs hm hR
  obtain ⟨v, hv⟩ : ∃ v, bookE S M n f = v := ⟨_, rfl⟩
  have ev : coverE S M n f ns sh nm mo = if v = 0 then (if listB sh S ns = true ∧ listB mo M nm = true then (if coverB f ns sh nm mo n = true then 0 else 14) else 3) else v := by rw [coverE, hv]
  obtain ⟨u, hu⟩ : ∃ u, coverE S M n f ns sh nm mo = u := ⟨_, rfl⟩
  rw [hu]
  have EV := Lib.hid (hu.symm.trans ev)
  clear hu ev
  obtain ⟨d, hd⟩ : ∃ d, coverN u ns nm = d := ⟨_, rfl⟩
  rw [hd]
  have DV := Lib.hid (hd.symm.trans (show coverN u ns nm = if u = 0 then (ns : Int) + nm else 0 from rfl))
  clear hd
  go_enter Tryz.func27, Tryz.ntmps27
  go_wp2_with fail
  refine (rcheckBook_c S M a n cap f W HfW.out hn).mono ?_
  rintro e w1 ⟨rfl, hb1⟩
  rw [hv]
  have q0 := (hb1.cell (p := ⟨w.heap.size, 0, none⟩) rz).trans r0
  have q1 := (hb1.cell (p := ⟨w.heap.size, 1, none⟩) rz).trans r1
  have q2 := (hb1.cell (p := ⟨w.heap.size, 2, none⟩) rz).trans r2
  replace rz := Nat.lt_of_lt_of_le rz hb1.size
  have Hf1 := Lib.hid (Wants.below HfW.out hb1)
  have Hs1 := Lib.hid (Cells.below HsW.out hb1)
  have Hm1 := Lib.hid (Cells.below HmW.out hb1)
  have hB1 := bup hB hb1
  clear hW r0 r1 r2 HfW HsW HmW hB hb1
  by_cases hv0 : v = 0
  case neg =>
    have t0 : (v != 0) = true := by simpa using hv0
    go_wp2_with fail
    refine (rcheckBook_c S M a n cap f w1 Hf1.out hn).mono ?_
    rintro e w2 ⟨rfl, hb2⟩
    rw [hv]
    go_wp2_with fail
    refine bodyPost_ret (v := .tuple #[.int .i64 0, .int .i64 v]) (by simp [results, Tryz.results27, go_sem]) rfl ⟨?_, ?_⟩
    · have h1 : u = v := by rw [EV.out, if_neg hv0]
      rw [DV.out, h1, if_neg hv0]
    · exact bup hB1 hb2
  subst hv0
  have HV := Lib.hid hv
  clear hv
  go_wp2_with fail
  refine (isList_c S sa ns scap sh w1 Hs1.out hns).mono ?_
  rintro e w2 ⟨rfl, hb2⟩
  have p0 := (hb2.cell (p := ⟨w.heap.size, 0, none⟩) rz).trans q0
  have p1 := (hb2.cell (p := ⟨w.heap.size, 1, none⟩) rz).trans q1
  have p2 := (hb2.cell (p := ⟨w.heap.size, 2, none⟩) rz).trans q2
  replace rz := Nat.lt_of_lt_of_le rz hb2.size
  have Hf2 := Lib.hid (Wants.below Hf1.out hb2)
  have Hs2 := Lib.hid (Cells.below Hs1.out hb2)
  have Hm2 := Lib.hid (Cells.below Hm1.out hb2)
  replace hB1 := bup hB1 hb2
  clear q0 q1 q2 Hf1 Hs1 Hm1 hb2
  cases hL : listB sh S ns
  · have HL := Lib.hid hL
    clear hL
    go_wp2_with fail
    refine bodyPost_ret (v := .tuple #[.int .i64 0, .int .i64 3]) (by simp [results, Tryz.results27, go_sem]) rfl ⟨?_, ?_⟩
    · have h1 : u = 3 := by simp [EV.out, HL.out]
      rw [DV.out, h1]; rfl
    · exact hB1
  have HL := Lib.hid hL
  clear hL
  go_wp2_with fail
  refine (isList_c M ma nm mcap mo w2 Hm2.out hnm).mono ?_
  rintro e w3 ⟨rfl, hb3⟩
  have q2 := (hb3.cell (p := ⟨w.heap.size, 2, none⟩) rz).trans p2
  replace rz := Nat.lt_of_lt_of_le rz hb3.size
  have Hf3 := Lib.hid (Wants.below Hf2.out hb3)
  have Hs3 := Lib.hid (Cells.below Hs2.out hb3)
  have Hm3 := Lib.hid (Cells.below Hm2.out hb3)
  replace hB1 := bup hB1 hb3
  clear p0 p1 p2 Hf2 Hs2 Hm2 hb3
  cases hL2 : listB mo M nm
  · have HL2 := Lib.hid hL2
    clear hL2
    go_wp2_with fail
    refine bodyPost_ret (v := .tuple #[.int .i64 0, .int .i64 3]) (by simp [results, Tryz.results27, go_sem]) rfl ⟨?_, ?_⟩
    · have h1 : u = 3 := by simp [EV.out, HL.out, HL2.out]
      rw [DV.out, h1]; rfl
    · exact hB1
  have HL2 := Lib.hid hL2
  clear hL2
  go_wp2_with fail
  go_loopw [8] (fun i wr => ∃ k : Nat, k ≤ n ∧ i = .int .i64 k ∧ coverB f ns sh nm mo k = true ∧ w3 = wr) (fun i _ => n - (intOf i).toNat)
  case atStart => exact ⟨0, Nat.zero_le _, rfl, rfl, rfl⟩
  case round =>
    obtain ⟨k, hk, rfl, ho, rfl⟩ := hrel
    have Ho := Lib.hid ho
    clear ho
    by_cases hlt : k < n
    · obtain ⟨b, off, rfl, hbs, c0, c1⟩ := Wants.at Hf3.out k hlt
      go_wp2_with fail
      refine (Has_c (f k).s sa ns scap sh w3 Hs3.out hns).mono ?_
      rintro e w4 ⟨rfl, rfl⟩
      cases h1 : hasB sh (f k).s ns
      · have H1 := Lib.hid h1
        clear h1
        go_wp2_with fail
        refine (Has_c (f k).m ma nm mcap mo w3 Hm3.out hnm).mono ?_
        rintro e w5 ⟨rfl, rfl⟩
        cases h2 : hasB mo (f k).m nm
        · have H2 := Lib.hid h2
          clear h2
          go_wp2_with fail
          refine bodyPost_ret (v := .tuple #[.int .i64 0, .int .i64 14]) (by simp [results, Tryz.results27, go_sem]) rfl ⟨?_, ?_⟩
          · have h1 : u = 14 := by simp [EV.out, HL.out, HL2.out, coverB_no f ns sh nm mo k n hlt (by simp [missB, H1.out, H2.out])]
            rw [DV.out, h1]; rfl
          · exact hB1
        · have H2 := Lib.hid h2
          clear h2
          go_wp2_with fail
          go_roundw
          case rel => exact ⟨k + 1, by omega, by go_num, by simp [coverB, Ho.out, missB, H2.out], trivial⟩
          case measure => simp [intOf]; omega
      · have H1 := Lib.hid h1
        clear h1
        go_wp2_with fail
        go_roundw
        case rel => exact ⟨k + 1, by omega, by go_num, by simp [coverB, Ho.out, missB, H1.out], trivial⟩
        case measure => simp [intOf]; omega
    · obtain rfl : k = n := by omega
      have hw : IntKind.i64.wrap ((ns : Int) + (nm : Int)) = (ns : Int) + (nm : Int) := IntWalk.i64_in _ (by omega)
      go_wp2_with fail
      refine bodyPost_ret (v := .tuple #[.int .i64 ((ns : Int) + (nm : Int)), .int .i64 0]) (by simp [results, Tryz.results27, go_sem]) rfl ⟨?_, ?_⟩
      · have h1 : u = 0 := by simp [EV.out, HL.out, HL2.out, Ho.out]
        rw [DV.out, h1]; rfl
      · exact hB1

end Go.Proofs.YtbjgbgchagfokaaGreat

namespace Go.Proofs.YtbjgbgchagfokaaGreat
open Go Go.RowKit


end Go.Proofs.YtbjgbgchagfokaaGreat

namespace Go.Proofs.YtbjgbgchagfokaaGreat
open Go Go.RowKit

/-- How many of the first numbers are above nothing. -/
def aboveN (h : Nat → Int) : Nat → Nat
  | 0 => 0
  | k + 1 => aboveN h k + if 0 < h k then 1 else 0
theorem aboveN_le (h : Nat → Int) : ∀ k, aboveN h k ≤ k
  | 0 => Nat.le_refl _
  | k + 1 => by have := aboveN_le h k; unfold aboveN; split <;> omega
/-- How many shops have wants. -/
def wantingN (s n : Nat) (f : Nat → W2) : Nat := aboveN (fun x => loadF (fun i => (f i).s) x n) s


end Go.Proofs.YtbjgbgchagfokaaGreat

namespace Go.Proofs.YtbjgbgchagfokaaGreat
open Classical

theorem hasB_iff (g : Nat → Int) (x : Int) : ∀ n, hasB g x n = true ↔ ∃ i, i < n ∧ g i = x
  | 0 => ⟨fun h => absurd h (by simp [hasB]), fun ⟨i, hi, _⟩ => by omega⟩
  | n + 1 => by
    simp only [hasB, Bool.or_eq_true, decide_eq_true_eq, hasB_iff g x n]
    exact ⟨fun h => by rcases h with ⟨i, hi, e⟩ | h; exact ⟨i, by omega, e⟩; exact ⟨n, by omega, h⟩, fun ⟨i, hi, e⟩ => by
      by_cases h : i = n
      · rw [h] at e; exact .inr e
      · exact .inl ⟨i, by omega, e⟩⟩
theorem clashB_iff (f : Nat → W2) (i k : Nat) : clashB f i k = true ↔ Clashes f i k := by simp only [clashB, Bool.or_eq_true, decide_eq_true_eq, Clashes]
theorem rightRow_iff (f : Nat → W2) (g : Nat → Int) (i : Nat) : ∀ n, rightRow f g i n = true ↔ ∀ k, k < n → g i = g k → ¬ Clashes f i k
  | 0 => ⟨fun _ k hk => by omega, fun _ => rfl⟩
  | n + 1 => by
    rw [rightRow, Bool.and_eq_true, rightRow_iff f g i n, Bool.not_eq_true', Bool.and_eq_false_iff, decide_eq_false_iff_not]
    constructor
    · rintro ⟨h1, h2⟩ k hk e hc
      by_cases hkn : k = n
      · rw [hkn] at e hc
        rcases h2 with h2 | h2
        · exact h2 e
        · rw [(clashB_iff f i n).2 hc] at h2; exact absurd h2 (by decide)
      · exact h1 k (by omega) e hc
    · intro h
      refine ⟨fun k hk => h k (by omega), ?_⟩
      by_cases e : g i = g n
      · have := h n (by omega) e
        rw [← clashB_iff, Bool.not_eq_true] at this
        exact .inr this
      · exact .inl e
theorem rightB_iff (f : Nat → W2) (g : Nat → Int) : ∀ n, rightB f g n = true ↔ ∀ i k, i < n → k < n → i ≠ k → g i = g k → ¬ Clashes f i k
  | 0 => ⟨fun _ i k hi => by omega, fun _ => rfl⟩
  | n + 1 => by
    rw [rightB, Bool.and_eq_true, rightB_iff f g n, rightRow_iff]
    constructor
    · rintro ⟨h1, h2⟩ i k hi hk hne e
      by_cases h3 : i = n
      · rw [h3] at e ⊢
        exact h2 k (by omega) e
      · by_cases h4 : k = n
        · rw [h4] at e ⊢
          exact fun hc => h2 i (by omega) e.symm hc.symm
        · exact h1 i k (by omega) (by omega) hne e
    · exact fun h => ⟨fun i k hi hk => h i k (by omega) (by omega), fun k hk => h n k (by omega) (by omega) (by omega)⟩
/-- Days as natural numbers. -/
def natD (g : Nat → Int) (i : Nat) : Nat := (g i).toNat
theorem right_iff {f : Nat → W2} {g : Nat → Int} {n D : Nat} (h : ∀ i, i < n → 0 ≤ g i ∧ g i < D) : rightB f g n = true ↔ Right f n D (natD g) := by
  rw [rightB_iff]
  refine ⟨fun h1 => ⟨fun i hi => by have := h i hi; unfold natD; omega, fun i k hi hk hne e => ?_⟩, fun h1 i k hi hk hne e hc => ?_⟩
  · have u1 := h i hi
    have u2 := h k hk
    have := h1 i k hi hk hne (by unfold natD at e; omega)
    exact ⟨fun h => this (.inl h), fun h => this (.inr h)⟩
  · have := h1.2 i k hi hk hne (by unfold natD; rw [e])
    rcases hc with hc | hc
    · exact this.1 hc
    · exact this.2 hc
theorem differentN_used {g : Nat → Int} {D : Nat} : ∀ {n}, (∀ i, i < n → 0 ≤ g i ∧ g i < D) → differentN g n = cnt (Used n (natD g)) D
  | 0, _ => (cnt_none fun a _ ⟨i, hi, _⟩ => by omega).symm
  | n + 1, h => by
    have ih := differentN_used (g := g) (D := D) (n := n) fun i hi => h i (by omega)
    have hn := h n (by omega)
    rw [differentN, ih]
    by_cases e : hasB g (g n) n = true
    · rw [if_pos e, Nat.add_zero]
      obtain ⟨i, hi, e1⟩ := (hasB_iff g (g n) n).1 e
      exact cnt_congr fun a _ => ⟨fun ⟨k, hk, e2⟩ => ⟨k, by omega, e2⟩, fun ⟨k, hk, e2⟩ => by
        by_cases e3 : k = n
        · rw [e3] at e2
          exact ⟨i, hi, by unfold natD at e2 ⊢; rw [e1]; exact e2⟩
        · exact ⟨k, by omega, e2⟩⟩
    · rw [if_neg e]
      have hno : ¬ Used n (natD g) (natD g n) := fun ⟨i, hi, e2⟩ => by
        have := h i (by omega)
        unfold natD at e2
        exact e ((hasB_iff g (g n) n).2 ⟨i, hi, by omega⟩)
      have hiff : ∀ a, a < D → (Used (n + 1) (natD g) a ↔ Used n (natD g) a ∨ a = natD g n) := fun a _ => by
        constructor
        · rintro ⟨k, hk, e2⟩
          by_cases e3 : k = n
          · rw [e3] at e2; exact .inr e2.symm
          · exact .inl ⟨k, by omega, e2⟩
        · intro h1
          rcases h1 with ⟨k, hk, e2⟩ | h1
          · exact ⟨k, by omega, e2⟩
          · exact ⟨n, by omega, h1.symm⟩
      exact (cnt_more (v := natD g n) (by unfold natD; omega) hno hiff).symm
theorem loadF_many (g : Nat → Int) (x : Nat) : ∀ n, loadF g x n = (many g x n : Int)
  | 0 => rfl
  | n + 1 => by
    rw [loadF, many, loadF_many g x n]
    by_cases e : g n = x
    · rw [if_pos e, if_pos e]; omega
    · rw [if_neg e, if_neg e]; omega
theorem dayRow_iff (f : Nat → W2) (g : Nat → Int) (i : Nat) : ∀ n, dayRow f g i n = true ↔ ∀ k, k < n → ¬ Clashes f (natD g i) (natD g k)
  | 0 => ⟨fun _ k hk => by omega, fun _ => rfl⟩
  | n + 1 => by
    rw [dayRow, Bool.and_eq_true, dayRow_iff f g i n, Bool.not_eq_true', ← Bool.not_eq_true]
    show _ ∧ ¬ clashB f (natD g i) (natD g n) = true ↔ _
    rw [clashB_iff]
    exact ⟨fun h k hk => by
      by_cases e : k = n
      · rw [e]; exact h.2
      · exact h.1 k (by omega), fun h => ⟨fun k hk => h k (by omega), h n (by omega)⟩⟩
theorem dayB_iff (f : Nat → W2) (g : Nat → Int) : ∀ n, dayB f g n = true ↔ ∀ i k, i < n → k < n → i ≠ k → ¬ Clashes f (natD g i) (natD g k)
  | 0 => ⟨fun _ i k hi => by omega, fun _ => rfl⟩
  | n + 1 => by
    rw [dayB, Bool.and_eq_true, dayB_iff f g n, dayRow_iff]
    constructor
    · rintro ⟨h1, h2⟩ i k hi hk hne
      by_cases h3 : i = n
      · rw [h3]; exact h2 k (by omega)
      · by_cases h4 : k = n
        · rw [h4]; exact fun hc => h2 i (by omega) hc.symm
        · exact h1 i k (by omega) (by omega) hne
    · exact fun h => ⟨fun i k hi hk => h i k (by omega) (by omega), fun k hk => h n k (by omega) (by omega) (by omega)⟩
theorem aboveN_cnt (h : Nat → Int) : ∀ n, aboveN h n = cnt (fun i => 0 < h i) n
  | 0 => rfl
  | n + 1 => by
    rw [aboveN, cnt, aboveN_cnt h n]
    by_cases e : 0 < h n
    · rw [if_pos e, if_pos e]
    · rw [if_neg e, if_neg e]
theorem many_pos (g : Nat → Int) (x : Int) : ∀ n, 0 < many g x n ↔ ∃ i, i < n ∧ g i = x
  | 0 => ⟨fun h => absurd h (Nat.lt_irrefl _), fun ⟨i, hi, _⟩ => by omega⟩
  | n + 1 => by
    have ih := many_pos g x n
    rw [many]
    by_cases e : g n = x
    · rw [if_pos e]
      exact ⟨fun _ => ⟨n, by omega, e⟩, fun _ => by omega⟩
    · rw [if_neg e, Nat.add_zero, ih]
      exact ⟨fun ⟨i, hi, e1⟩ => ⟨i, by omega, e1⟩, fun ⟨i, hi, e1⟩ => ⟨i, by
        by_cases h : i = n
        · rw [h] at e1; exact absurd e1 e
        · omega, e1⟩⟩
theorem wantingN_cnt (s n : Nat) (f : Nat → W2) : wantingN s n f = cnt (WantS f n) s := by
  rw [wantingN, aboveN_cnt]
  refine cnt_congr fun x _ => ?_
  rw [loadF_many]
  have := many_pos (fun i => (f i).s) x n
  constructor
  · intro h
    exact this.1 (by omega)
  · intro h
    have := this.2 h
    omega
theorem coverB_iff (f : Nat → W2) (ns : Nat) (sh : Nat → Int) (nm : Nat) (mo : Nat → Int) : ∀ n, coverB f ns sh nm mo n = true ↔ IsCover f n (fun r => ∃ i, i < ns ∧ sh i = r) (fun y => ∃ i, i < nm ∧ mo i = y)
  | 0 => ⟨fun _ i hi => by omega, fun _ => rfl⟩
  | n + 1 => by
    rw [coverB, Bool.and_eq_true, coverB_iff f ns sh nm mo n, missB, Bool.not_eq_true', Bool.and_eq_false_iff, Bool.not_eq_false', Bool.not_eq_false', hasB_iff, hasB_iff]
    exact ⟨fun h i hi => by
      by_cases e : i = n
      · rw [e]; exact h.2
      · exact h.1 i (by omega), fun h => ⟨fun i hi => h i (by omega), h n (by omega)⟩⟩
theorem listB_iff (g : Nat → Int) (top : Int) : ∀ n, listB g top n = true ↔ ∀ i, i < n → (0 ≤ g i ∧ g i < top) ∧ (0 < i → g (i - 1) < g i)
  | 0 => ⟨fun _ i hi => by omega, fun _ => rfl⟩
  | n + 1 => by
    rw [listB, Bool.and_eq_true, listB_iff g top n, listBad, Bool.not_eq_true', decide_eq_false_iff_not]
    exact ⟨fun h i hi => by
      by_cases e : i = n
      · rw [e]; have := h.2; omega
      · exact h.1 i (by omega), fun h => ⟨fun i hi => h i (by omega), by have := h n (by omega); omega⟩⟩
theorem listB_mono {g : Nat → Int} {top : Int} {n : Nat} (h : listB g top n = true) : ∀ {i k}, i < k → k < n → g i < g k
  | i, 0, hi, _ => by omega
  | i, k + 1, hi, hk => by
    have h1 := ((listB_iff g top n).1 h (k + 1) hk).2 (by omega)
    rw [Nat.add_sub_cancel] at h1
    by_cases e : i = k
    · rw [e]; exact h1
    · have := listB_mono h (i := i) (k := k) (by omega) (by omega)
      omega
/-- A list of so many numbers has so many. -/
theorem listB_cnt {g : Nat → Int} {T n : Nat} (h : listB g T n = true) : cnt (fun x : Nat => ∃ i, i < n ∧ g i = (x : Int)) T = n := by
  have h1 := cnt_values g (fun _ => True) T n (fun i hi _ => ((listB_iff g T n).1 h i hi).1) fun i k hi hk _ _ e => by
    rcases Nat.lt_trichotomy i k with h2 | h2 | h2
    · have := listB_mono h h2 hk; omega
    · exact h2
    · have := listB_mono h h2 hi; omega
  have h2 : cnt (fun _ => True) n = n := by
    clear h1 h
    induction n with
    | zero => rfl
    | succ n ih => rw [cnt, ih, if_pos trivial]
  rw [← h2]
  refine Eq.trans ?_ h1
  exact cnt_congr fun x _ => ⟨fun ⟨i, hi, e⟩ => ⟨i, by omega, trivial, e⟩, fun ⟨i, hi, _, e⟩ => ⟨i, by omega, e⟩⟩
/-- A day's list, as a set of wants. -/
theorem dayB_day {f : Nat → W2} {g : Nat → Int} {n len : Nat} (h : listB g n len = true) : dayB f g len = true ↔ Day f n fun w => ∃ i, i < len ∧ g i = (w : Int) := by
  rw [dayB_iff]
  constructor
  · intro h1 a b _ _ ⟨i, hi, e1⟩ ⟨k, hk, e2⟩ hne
    have := h1 i k hi hk (fun e => hne (by rw [e] at e1; omega))
    have u1 : natD g i = a := by unfold natD; omega
    have u2 : natD g k = b := by unfold natD; omega
    rw [u1, u2] at this
    exact ⟨fun h => this (.inl h), fun h => this (.inr h)⟩
  · intro h1 i k hi hk hne hc
    have u1 := ((listB_iff g n len).1 h i hi).1
    have u2 := ((listB_iff g n len).1 h k hk).1
    have h2 : natD g i ≠ natD g k := fun e => by
      unfold natD at e
      rcases Nat.lt_or_gt_of_ne hne with h3 | h3
      · have := listB_mono h h3 hk; omega
      · have := listB_mono h h3 hi; omega
    have := h1 (natD g i) (natD g k) (by unfold natD; omega) (by unfold natD; omega) ⟨i, hi, by unfold natD; omega⟩ ⟨k, hk, by unfold natD; omega⟩ h2
    rcases hc with hc | hc
    · exact this.1 hc
    · exact this.2 hc
theorem daysIn_iff (g : Nat → Int) : ∀ n, daysIn g n = true ↔ ∀ i, i < n → 0 ≤ g i ∧ g i ≤ 13
  | 0 => ⟨fun _ i hi => by omega, fun _ => rfl⟩
  | n + 1 => by
    rw [daysIn, Bool.and_eq_true, daysIn_iff g n, decide_eq_true_eq]
    exact ⟨fun h i hi => by
      by_cases e : i = n
      · rw [e]; exact h.2
      · exact h.1 i (by omega), fun h => ⟨fun i hi => h i (by omega), h n (by omega)⟩⟩

end Go.Proofs.YtbjgbgchagfokaaGreat

namespace Go.Proofs.YtbjgbgchagfokaaGreat
open Go Go.RowKit

/-- No want that clashes with this one has its day. -/
def freeB (f : Nat → W2) (n : Nat) (d : Nat → Nat) (want : Nat) : Bool := (clashL f want n).all fun o => !decide (d o = d want)
def allFree (f : Nat → W2) (n : Nat) (d : Nat → Nat) : Nat → Bool
  | 0 => true
  | k + 1 => allFree f n d k && freeB f n d k
theorem allFree_no {f : Nat → W2} {n : Nat} {d : Nat → Nat} (k : Nat) : ∀ m, k < m → freeB f n d k = false → allFree f n d m = false
  | 0, h, _ => absurd h (Nat.not_lt_zero _)
  | m + 1, h, hb => by
    by_cases e : k = m
    · subst e; simp [allFree, hb]
    · simp [allFree, allFree_no k m (by omega) hb]
theorem allFree_all {f : Nat → W2} {n : Nat} {d : Nat → Nat} : ∀ m, allFree f n d m = true ↔ ∀ k, k < m → freeB f n d k = true
  | 0 => ⟨fun _ k hk => absurd hk (Nat.not_lt_zero _), fun _ => rfl⟩
  | m + 1 => by
    rw [allFree, Bool.and_eq_true, allFree_all m]
    exact ⟨fun h k hk => by
      by_cases e : k = m
      · rw [e]; exact h.2
      · exact h.1 k (by omega), fun h => ⟨fun k hk => h k (by omega), h m (by omega)⟩⟩
theorem freeB_iff {f : Nat → W2} {n : Nat} {d : Nat → Nat} {want : Nat} : freeB f n d want = true ↔ ∀ o, o < n → o ≠ want → d o = d want → ¬ Clashes f o want := by
  rw [freeB, List.all_eq_true]
  constructor
  · intro h o ho hne he hc
    have := h o (clashL_mem.2 ⟨ho, hne, (clashB_iff f o want).2 hc⟩)
    simp [he] at this
  · intro h o ho
    obtain ⟨h1, h2, h3⟩ := clashL_mem.1 ho
    by_cases he : d o = d want
    · exact absurd ((clashB_iff f o want).1 h3) (h o h1 h2 he)
    · simp [he]
theorem allFree_right {f : Nat → W2} {n : Nat} {d : Nat → Nat} : allFree f n d n = rightB f (fun i => (d i : Int)) n := by
  have h1 := allFree_all (f := f) (n := n) (d := d) n
  have h2 := rightB_iff f (fun i => (d i : Int)) n
  refine Bool.eq_iff_iff.2 (h1.trans (Iff.trans ?_ h2.symm))
  constructor
  · intro h i k hi hk hne he
    exact freeB_iff.1 (h k hk) i hi hne (by omega)
  · intro h k hk
    exact freeB_iff.2 fun o ho hne he => h o k ho hk hne (by omega)

end Go.Proofs.YtbjgbgchagfokaaGreat
