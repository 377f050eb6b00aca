/- For whatever arguments, the law MouldProved returns true, and each argument reads behind the call as it read before. No condition. -/
import Derived.Test.YtbjgbgchagfokaaProg
import Derived.Test.YtbjgbgchagfokaaBasaa
import Derived.Test.YtbjgbgchagfokaaBasbd
import Derived.Shelf.Abstract
import Derived.Shelf.RegionOpen
import Derived.Deep.RegionHeld3
import Derived.Deep.CutRange
import Derived.Deep.DeepCutAuto
import Derived.Test.YtbjgbgchagfokaaBasao
import Derived.Test.YtbjgbgchagfokaaBasay
import Derived.Test.YtbjgbgchagfokaaBasaz
import Derived.Test.YtbjgbgchagfokaaBasbc
import Derived.Test.YtbjgbgchagfokaaRows
import Derived.ProofKit
namespace Go.Proofs.Ytbjgbgchagfokaa
open Go Go.RowKit Go.ChangeShapes Go.WideShapes Go.Deep Go.Joins

theorem cellsU8 : Try.prog.cellsOf 5 = 1 := by kernel_rfl
theorem wfu16 {n : Int} (h : (Lit.int .u16 n).wf = true) : 0 ≤ n ∧ n ≤ 65535 := by
  simp [Lit.wf] at h
  have h1 : IntKind.u16.min = 0 := by decide
  have h2 : IntKind.u16.max = 65535 := by decide
  omega
theorem wfu8 {n : Int} (h : (Lit.int .u8 n).wf = true) : 0 ≤ n ∧ n ≤ 255 := by
  simp [Lit.wf] at h
  have h1 : IntKind.u8.min = 0 := by decide
  have h2 : IntKind.u8.max = 255 := by decide
  omega

section
variable {H : Type} {enc : TypeId × Value → H} {W : World} {sp : Nat → Bool}

set_option maxRecDepth 100000 in
theorem open_bytes {base : Nat} {v : Value} {d : DataW H} {p : List MemPlace} (hok : Value.okWide Try.prog W .any base 42 v) (h : DataW.Trod enc Try.prog W 0 sp true 42 v d p) :
    ∃ (a : Option Addr) (n cap : Nat) (f : Nat → Int), v = .slice a n cap ∧ (Cells W a n fun i => .int .u8 (f i)) ∧ ∀ i, i < n → 0 ≤ f i ∧ f i ≤ 255 := by
  obtain ⟨a, n, cap, rfl⟩ := okWide_slice Try.underlying42 hok
  obtain ⟨fuel, hf⟩ := h
  rcases open_ints Try.underlying42 Try.underlying5 cellsU8 hf with ⟨hcs, _⟩ | ⟨a', len, cap', zs, hcs, _, hl, _, hk, _, hi, hw⟩
  · simp [Value.cells] at hcs
    obtain ⟨rfl, rfl, rfl⟩ := hcs
    exact ⟨none, 0, 0, fun _ => 0, rfl, .inl rfl, fun i hi => absurd hi (Nat.not_lt_zero i)⟩
  · simp [Value.cells] at hcs
    obtain ⟨rfl, rfl, rfl⟩ := hcs
    have hlk : n ≤ zs.length := by rw [hk]; split <;> omega
    have hb : ∀ i, i < n → 0 ≤ zs.getD i 0 ∧ zs.getD i 0 ≤ 255 := fun i hin => by
      have hz : i < zs.length := by omega
      have e : zs.getD i 0 = zs[i] := by simp [List.getD, hz]
      rw [e]
      exact wfu8 (hw _ (List.getElem_mem hz))
    refine ⟨some a', n, cap, fun i => zs.getD i 0, rfl, ?_, hb⟩
    by_cases h0 : n = 0
    · exact .inl h0
    obtain ⟨b, off, rfl, hc⟩ := ints_at hi (by omega)
    exact .inr ⟨b, off, rfl, World.block_lt_of_cell? W _ (hc 0 (by omega)), fun i hin => hc i (by omega)⟩
end

end Go.Proofs.Ytbjgbgchagfokaa

namespace Go.Proofs.Ytbjgbgchagfokaa
open Go Go.RowKit Go.Shelf

/-- The greatest of the first so many and of a first one. -/
def mostF (h : Nat → Int) (b : Int) : Nat → Int
  | 0 => b
  | k + 1 => max (mostF h b k) (h k)
theorem mostF_base (h : Nat → Int) (b : Int) : ∀ k, b ≤ mostF h b k
  | 0 => Int.le_refl _
  | k + 1 => Int.le_trans (mostF_base h b k) (Int.le_max_left _ _)
theorem mostF_ge (h : Nat → Int) (b : Int) {i : Nat} : ∀ {k}, i < k → h i ≤ mostF h b k
  | 0, hi => absurd hi (Nat.not_lt_zero _)
  | k + 1, hi => by
    by_cases e : i = k
    · rw [e]; exact Int.le_max_right _ _
    · exact Int.le_trans (mostF_ge h b (by omega)) (Int.le_max_left _ _)
theorem mostF_le {h : Nat → Int} {b m : Int} (hb : b ≤ m) : ∀ {k}, (∀ i, i < k → h i ≤ m) → mostF h b k ≤ m
  | 0, _ => hb
  | k + 1, hm => Int.max_le.2 ⟨mostF_le hb fun i hi => hm i (by omega), hm k (by omega)⟩
theorem bookL_shop {S M : Int} {n : Nat} {f : Nat → W2} (hG : GoodBook S M n f) {i : Nat} (hi : i < 6) : bookL f n i = (many (fun i => (f i).s) i n : Int) := ldF_shop hi fun i hi => (hG.2.2.2 i hi).2.1
theorem bookL_mould {S M : Int} {n : Nat} {f : Nat → W2} (hG : GoodBook S M n f) (y : Nat) : bookL f n (6 + y) = (many (fun i => (f i).m) y n : Int) := ldF_mould fun i hi => by have := (hG.2.2.2 i hi).1.2; have := hG.1.2; omega
/-- The greatest load is the fewest days. -/
theorem most_few {s M n D : Nat} {f : Nat → W2} (hG : GoodBook s M n f) (hD : IsGreatest f n D) : mostF (fun y => bookL f n (6 + y)) (mostF (bookL f n) 0 s) M = (D : Int) := by
  have hL := (hD D).2 (Nat.le_refl _)
  obtain ⟨h1, h2, h3, h4⟩ := id hG
  have le : mostF (fun y => bookL f n (6 + y)) (mostF (bookL f n) 0 s) M ≤ (D : Int) := by
    refine mostF_le (mostF_le (by omega) fun i hi => ?_) fun y _ => ?_
    · rw [bookL_shop hG (by omega)]
      have := hL.1 i
      omega
    · show bookL f n (6 + y) ≤ _
      rw [bookL_mould hG]
      have := hL.2 y
      omega
  have h0 : (0 : Int) ≤ mostF (fun y => bookL f n (6 + y)) (mostF (bookL f n) 0 s) M := Int.le_trans (mostF_base _ 0 s) (mostF_base _ _ M)
  obtain ⟨E, hE⟩ := Int.eq_ofNat_of_zero_le h0
  have ge : D ≤ E := (hD E).1 ⟨fun x => by
    by_cases hx : 0 ≤ x ∧ x < s
    · obtain ⟨k, rfl⟩ := Int.eq_ofNat_of_zero_le hx.1
      have u := Int.le_trans (mostF_ge (bookL f n) 0 (i := k) (k := s) (by omega)) (mostF_base (fun y => bookL f n (6 + y)) _ M)
      rw [bookL_shop hG (by omega), hE] at u
      omega
    · rw [many_none fun i hi => by have := (h4 i hi).1; omega]
      exact Nat.zero_le _, fun x => by
    by_cases hx : 0 ≤ x ∧ x < M
    · obtain ⟨k, rfl⟩ := Int.eq_ofNat_of_zero_le hx.1
      have u : bookL f n (6 + k) ≤ _ := mostF_ge (fun y => bookL f n (6 + y)) (mostF (bookL f n) 0 s) (i := k) (k := M) (by omega)
      rw [bookL_mould hG, hE] at u
      omega
    · rw [many_none fun i hi => by have := (h4 i hi).2; omega]
      exact Nat.zero_le _⟩
  omega
theorem given_many {f : Nat → W2} {n D : Nat} {x : List Nat} (hG : IsGreatest f n D) (hR : Right f n 14 fun i => x.getD i 0) : D ≤ differentN (fun i => ((x.getD i 0 : Nat) : Int)) n := by
  rw [differentN_used (D := 14) (fun i hi => ⟨by omega, by have : x.getD i 0 < 14 := hR.1 i hi; omega⟩), natD_cast]
  exact greatest_right hG hR

set_option maxRecDepth 100000 in
set_option maxHeartbeats 16000000 in
theorem law_proved_c (S M : Int) (a : Option Addr) (n cap : Nat) (f : Nat → W2) (ba : Option Addr) (bn bcap : Nat) (g : Nat → Int) (w : World) (hf : Wants w a n f) (hg : Cells w ba bn fun i => .int .u8 (g i)) (hgr : ∀ i, i < bn → 0 ≤ g i ∧ g i ≤ 255) :
    Calls Try.prog 6 #[bookV S M a n cap, .slice ba bn bcap] w fun e w' => e = .returned (.bool true) ∧ Below w.heap.size w w' := by
  obtain ⟨W, hW⟩ : ∃ W, w.alloc (.cells #[.int .i64 S, .int .i64 M, .slice a n cap] 24) = W := ⟨_, rfl⟩
  have hB : Below w.heap.size w W := by rw [← hW]; exact Below.alloc1 (Below.refl _ _) _ (Nat.le_refl _)
  have hR : RowIs W w.heap.size #[.int .i64 S, .int .i64 M, .slice a n cap] 24 := by rw [← hW]; exact heap_new_at _ _ _ rfl
  have r0 : W.cell? ⟨w.heap.size, 0, none⟩ = some (.int .i64 S) := RowIs.cell hR 0
  have r1 : W.cell? ⟨w.heap.size, 1, none⟩ = some (.int .i64 M) := RowIs.cell hR 1
  have r2 : W.cell? ⟨w.heap.size, 2, none⟩ = some (.slice a n cap) := RowIs.cell hR 2
  have rz : w.heap.size < W.heap.size := hR.lt
  have HF := Lib.hid (hf.below hB)
  have HG := Lib.hid (Cells.below hg hB)
  have HR := Lib.hid hR
  clear hR hf hg
  cases hE : decide (bookE S M n f = 0) with
  | false =>
    have HC := Lib.hid (fun (x : World) (h : Wants x a n f) => fine_c S M a n cap f x h)
    rw [hE] at HC
    clear hE
    go_enter Try.func6, Try.ntmps6
    go_wp2_with fail
    refine (HC.out _ HF.out).mono ?_
    rintro e w1 ⟨rfl, hb1⟩
    go_wp2_with fail
    refine (works_c _).mono ?_
    rintro e w2 ⟨rfl, hb2⟩
    go_wp2_with fail
    go_ret
    exact ⟨rfl, bup hB (bup hb1 hb2)⟩
  | true =>
    have HC := Lib.hid (fun (x : World) (h : Wants x a n f) => fine_c S M a n cap f x h)
    rw [hE] at HC
    have hE0 := of_decide_eq_true hE
    clear hE
    by_cases hbn : 40 < bn
    · have t0 : decide ((40 : Int) < (bn : Int)) = true := by simp; omega
      clear hE0
      go_enter Try.func6, Try.ntmps6
      go_wp2_with fail
      refine (HC.out _ HF.out).mono ?_
      rintro e w1 ⟨rfl, hb1⟩
      go_wp2_with fail
      refine (works_c _).mono ?_
      rintro e w2 ⟨rfl, hb2⟩
      go_wp2_with fail
      go_ret
      exact ⟨rfl, bup hB (bup hb1 hb2)⟩
    have hGB := book_good hE0
    obtain ⟨s, rfl⟩ : ∃ s : Nat, S = s := ⟨S.toNat, by have := hGB.1; omega⟩
    obtain ⟨m, rfl⟩ : ∃ m : Nat, M = m := ⟨M.toNat, by have := hGB.2.1; omega⟩
    have hn14 := hGB.2.2.1
    have hs6 : s ≤ 6 := by have := hGB.1; omega
    have hm6 : m ≤ 6 := by have := hGB.2.1; omega
    have HE := Lib.hid hE0
    have HGB := Lib.hid hGB
    have HGR := Lib.hid hgr
    have hb40 : bn ≤ 40 := by omega
    have t0 : decide ((40 : Int) < (bn : Int)) = false := by simp; omega
    clear hE0 hGB hgr hbn
    go_enter Try.func6, Try.ntmps6
    go_wp2_with fail
    refine (HC.out _ HF.out).mono ?_
    rintro e w1 ⟨rfl, hb1⟩
    replace HF := Lib.hid (HF.out.below hb1)
    replace HG := Lib.hid (Cells.below HG.out hb1)
    replace HR := Lib.hid (RowIs.below HR.out hb1)
    replace hB := bup hB hb1
    clear r0 r1 r2 rz hb1
    have r0 : w1.cell? ⟨w.heap.size, 0, none⟩ = some (.int .i64 s) := RowIs.cell HR.out 0
    have r1 : w1.cell? ⟨w.heap.size, 1, none⟩ = some (.int .i64 m) := RowIs.cell HR.out 1
    have r2 : w1.cell? ⟨w.heap.size, 2, none⟩ = some (.slice a n cap) := RowIs.cell HR.out 2
    have rz : w.heap.size < w1.heap.size := HR.out.lt
    go_wp2_with fail
    refine (few_c s m a n cap f _ HF.out HE.out).mono ?_
    rintro e w2 ⟨db, d, D, rfl, -, -, hb2, hD14, hGr, -⟩
    have HGr := Lib.hid hGr
    replace HF := Lib.hid (HF.out.below hb2)
    replace HG := Lib.hid (Cells.below HG.out hb2)
    replace HR := Lib.hid (RowIs.below HR.out hb2)
    replace hB := bup hB hb2
    clear r0 r1 r2 rz hb2 hGr
    have r0 : w2.cell? ⟨w.heap.size, 0, none⟩ = some (.int .i64 s) := RowIs.cell HR.out 0
    have r1 : w2.cell? ⟨w.heap.size, 1, none⟩ = some (.int .i64 m) := RowIs.cell HR.out 1
    have r2 : w2.cell? ⟨w.heap.size, 2, none⟩ = some (.slice a n cap) := RowIs.cell HR.out 2
    have rz : w.heap.size < w2.heap.size := HR.out.lt
    go_wp2_with fail
    refine (mLoads_yes_c s m a n cap f _ HF.out (by omega) HE.out).mono ?_
    rintro e w3 ⟨b1, b2, rfl, h1, h2, -, -, -, hb3⟩
    have H1 := Lib.hid h1
    have H2 := Lib.hid h2
    replace HF := Lib.hid (HF.out.below hb3)
    replace HG := Lib.hid (Cells.below HG.out hb3)
    replace HR := Lib.hid (RowIs.below HR.out hb3)
    replace hB := bup hB hb3
    clear r0 r1 r2 rz hb3 h1 h2
    have r0 : w3.cell? ⟨w.heap.size, 0, none⟩ = some (.int .i64 s) := RowIs.cell HR.out 0
    have r1 : w3.cell? ⟨w.heap.size, 1, none⟩ = some (.int .i64 m) := RowIs.cell HR.out 1
    have r2 : w3.cell? ⟨w.heap.size, 2, none⟩ = some (.slice a n cap) := RowIs.cell HR.out 2
    have rz : w.heap.size < w3.heap.size := HR.out.lt
    have HGV := Lib.hid (fun (x : World) (h : Below w3.heap.size w3 x) => Given_c s m a n cap f ba bn bcap g x (HF.out.below h) hn14 (Cells.below HG.out h) HGR.out hb40)
    have HCD := Lib.hid (fun (x : World) (h : Below w3.heap.size w3 x) (p : Option Addr) (c : Nat) (y : List Nat) (hy : y.length = n) (hL : Lst x y p c) (hRt : Right f n 14 fun i => y.getD i 0) => by
      have h1 := CheckDays_c s m a n cap f p n c (fun i => ((y.getD i 0 : Nat) : Int)) x (HF.out.below h) (by omega) (by have := hL.cells; rwa [hy] at this)
      rw [days_zero HE.out (Nat.le_refl _) hRt, show daysN 0 (fun i => ((y.getD i 0 : Nat) : Int)) n = ((differentN (fun i => ((y.getD i 0 : Nat) : Int)) n : Nat) : Int) from if_pos rfl] at h1
      exact h1)
    go_wp2_with fail
    go_cut [11, 12] from 37 to 44 (fun e1 e2 wx => ∃ q : Nat, e1 = .int .i64 q ∧ e2 = .int .i64 0 ∧ D ≤ q ∧ Below w3.heap.size w3 wx)
    case first =>
      go_region_held3 (fun w' => w'.cell? ⟨w.heap.size, 0, none⟩ = some (.int .i64 s) ∧ w'.cell? ⟨w.heap.size, 1, none⟩ = some (.int .i64 m) ∧ w'.cell? ⟨w.heap.size, 2, none⟩ = some (.slice a n cap))
        (first | (go_split_ands; refine ⟨?_, ?_, ?_⟩ <;> first | assumption | (go_keep; done)) | go_keep)
        ((first
          | (go_at_call 38; refine Calls.mono (HGV.out _ ?_) ?_; (with_reducible repeat (first | exact Below.refl _ _ | assumption | refine bup ?_ (by assumption) | refine Below.drew ?_)); rintro e wg ⟨pg, cg, yg, rfl, hyg, hLg, hRg, hbg⟩; have t0 : wg.cell? ⟨w.heap.size, 0, none⟩ = some (.int .i64 s) := (by (try go_split_ands); rw [hbg.cell (by first | assumption | (simp; omega))]; assumption); have t1 : wg.cell? ⟨w.heap.size, 1, none⟩ = some (.int .i64 m) := (by (try go_split_ands); rw [hbg.cell (by first | assumption | (simp; omega))]; assumption); have t2 : wg.cell? ⟨w.heap.size, 2, none⟩ = some (.slice a n cap) := (by (try go_split_ands); rw [hbg.cell (by first | assumption | (simp; omega))]; assumption); have tg : w.heap.size < wg.heap.size := Nat.lt_of_lt_of_le (by first | assumption | (simp; omega)) hbg.size)
          | (go_at_call 20; refine Calls.mono (HCD.out _ ?_ pg cg yg hyg (hLg.below ?_) hRg) ?_; (with_reducible repeat (first | exact Below.refl _ _ | assumption | refine bup ?_ (by assumption) | refine Below.drew ?_)); (with_reducible repeat (first | exact Below.refl _ _ | assumption | refine bup ?_ (by assumption) | refine Below.drew ?_)); rintro e wq ⟨rfl, hbq⟩; have t0 : wq.cell? ⟨w.heap.size, 0, none⟩ = some (.int .i64 s) := (by (try go_split_ands); rw [hbq.cell (by first | assumption | (simp; omega))]; assumption); have t1 : wq.cell? ⟨w.heap.size, 1, none⟩ = some (.int .i64 m) := (by (try go_split_ands); rw [hbq.cell (by first | assumption | (simp; omega))]; assumption); have t2 : wq.cell? ⟨w.heap.size, 2, none⟩ = some (.slice a n cap) := (by (try go_split_ands); rw [hbq.cell (by first | assumption | (simp; omega))]; assumption))
          | fail))
      all_goals (go_wp2_with fail; go_meet; refine ⟨_, rfl, rfl, given_many HGr.out hRg, ?_⟩; (with_reducible repeat (first | exact Below.refl _ _ | assumption | refine bup ?_ (by assumption) | refine Below.drew ?_)))
    case rest =>
    obtain ⟨q, rfl, rfl, hDq, hcb⟩ := hcut
    obtain ⟨w4, hww⟩ : ∃ x, x = wc := ⟨_, rfl⟩
    subst hww
    clear HGV HCD r0 r1 r2 rz
    replace H1 := Lib.hid (RowIs.below H1.out hcb)
    replace H2 := Lib.hid (RowIs.below H2.out hcb)
    replace HR := Lib.hid (RowIs.below HR.out hcb)
    replace hB := bup hB hcb
    clear hcb
    have r0 : w4.cell? ⟨w.heap.size, 0, none⟩ = some (.int .i64 s) := RowIs.cell HR.out 0
    have r1 : w4.cell? ⟨w.heap.size, 1, none⟩ = some (.int .i64 m) := RowIs.cell HR.out 1
    have r2 : w4.cell? ⟨w.heap.size, 2, none⟩ = some (.slice a n cap) := RowIs.cell HR.out 2
    have rz : w.heap.size < w4.heap.size := HR.out.lt
    have t1 : decide ((q : Int) < (D : Int)) = false := by simp; omega
    have HB := Lib.hid hB
    clear hB
    go_wp2_with fail
    clear r0 r1 r2 rz t1
    go_loopw [13, 14] (fun mo i wr => ∃ k : Nat, k ≤ s ∧ i = .int .i64 k ∧ mo = .int .i64 (mostF (bookL f n) 0 k) ∧ Below w4.heap.size w4 wr) (fun _ i _ => s - (intOf i).toNat)
    case atStart => exact ⟨0, Nat.zero_le _, rfl, rfl, Below.refl _ _⟩
    case round =>
      obtain ⟨k, hk, rfl, rfl, hbr⟩ := hrel
      by_cases hlt : k < s
      · have ck : wr.cell? ⟨b1, k, none⟩ = some (.int .i64 (bookL f n k)) := (RowIs.cell (RowIs.below H1.out hbr) k).trans (rowA_get _ _ _ hlt)
        have hz1 := (RowIs.below H1.out hbr).lt
        go_wp2_with fail
        go_roundw
        case rel => exact ⟨k + 1, by omega, by go_num, by rfl, hbr⟩
        case measure => simp [intOf]; omega
      · obtain rfl : k = s := by omega
        go_wp2_with fail
        go_loopw [13, 15] (fun mo i wy => ∃ j : Nat, j ≤ m ∧ i = .int .i64 j ∧ mo = .int .i64 (mostF (fun y => bookL f n (6 + y)) (mostF (bookL f n) 0 k) j) ∧ Below w4.heap.size w4 wy) (fun _ i _ => m - (intOf i).toNat)
        case atStart => exact ⟨0, Nat.zero_le _, rfl, rfl, hbr⟩
        case round =>
          obtain ⟨j, hj, rfl, rfl, hby⟩ := hrel
          by_cases hlt2 : j < m
          · have ck : wr.cell? ⟨b2, j, none⟩ = some (.int .i64 (bookL f n (6 + j))) := (RowIs.cell (RowIs.below H2.out hby) j).trans (rowA_get _ _ _ hlt2)
            have hz1 := (RowIs.below H2.out hby).lt
            go_wp2_with fail
            go_roundw
            case rel => exact ⟨j + 1, by omega, by go_num, by rfl, hby⟩
            case measure => simp [intOf]; omega
          · obtain rfl : j = m := by omega
            rw [most_few HGB.out HGr.out]
            have tD : ((D : Int) == (D : Int)) = true := by simp
            go_wp2_with fail
            refine (works_c _).mono ?_
            rintro e w5 ⟨rfl, hb5⟩
            go_wp2_with fail
            go_ret
            exact ⟨rfl, bup HB.out (bup hby hb5)⟩

end Go.Proofs.Ytbjgbgchagfokaa

namespace Go.Proofs.Ytbjgbgchagfokaa
open Go Go.RowKit Go.ChangeShapes Go.WideShapes Go.ChangeAt

theorem own_proved : ownKnob Try.prog.godebug = .none := by kernel_rfl
theorem laidOut_proved : laidOutB Try.prog = true := by kernel_rfl

set_option maxRecDepth 100000 in
theorem proved_lifted (os : Os) (started : os.Started) (H : Type) (enc : TypeId × Value → H) :
    ReturnsInHanded {} Try.checked os 6 .any (Rows.mouldProvedSpec.pre6 enc Try.prog Try.f6 Rows.mouldProvedRow.domain false) (Rows.mouldProvedSpec.post enc Try.prog Try.f6 false true false false) := by
  refine returnsInHanded_of_change (C := Try.checked) own_proved started (by kernel_rfl) Try.func6
    (ChangeSpec.witness6 (enc := enc) (C := Try.checked) false ⟨#[], #[.agg #[.int .i64 0, .int .i64 0, .slice .none 0 0], .slice .none 0 0], []⟩ 8 (by kernel_rfl) (by kernel_rfl) (by kernel_rfl) (by kernel_rfl)) ?_
  intro W base args ds gs before hval0 hW hcnd _
  have hval : ∀ (j : Nat) t v, Try.f6.params[j]? = some t → args[j]? = some v → Value.okWide Try.prog W .any base t v := hval0
  have hW' := hW
  obtain ⟨p, q, hA0, hV, rfl, hfz, hnd⟩ := hW
  have hA : DataW.TrodAll enc Try.prog W 0 (fun _ => true) true Try.f6.params.toList args.toList ds p := hA0
  rw [Try.params6] at hA hval
  obtain ⟨v0, vs0, d0, ds0, p0, q0, hargs, rfl, rfl, h0, r0⟩ := trodAll_cons hA
  obtain ⟨v1, vs1, d1, ds1, p1, q1, rfl, rfl, rfl, h1, r1⟩ := trodAll_cons r0
  obtain ⟨rfl, rfl, rfl⟩ := trodAll_nil r1
  obtain rfl : args = #[v0, v1] := by cases args; simp_all
  obtain ⟨rfl, rfl⟩ := trodVars_none hV
  obtain ⟨S0, M0, a0, n0, cap0, f0, rfl, hF0⟩ := open_book (hval 0 24 v0 rfl rfl) h0
  obtain ⟨a1, n1, cap1, g1, rfl, hG1, hb1⟩ := open_bytes (hval 1 42 v1 rfl rfl) h1
  refine (law_proved_c S0 M0 a0 n0 cap0 f0 a1 n1 cap1 g1 W hF0 hG1 hb1).mono fun e W' ⟨he, hb⟩ => ?_
  subst he
  have hlt := hW'.lt
  simp only [List.append_nil, List.mem_append] at hlt
  refine ⟨_, rfl, _, _, _, [], p0 ++ (p1 ++ []), [], hW', trodAll_mk1 (shut_bool Try.underlying4 true), ?_, rfl, hb.frame _, fun h => Bool.noConfusion h⟩
  exact trodAll_cons_mk (Below.trod laidOut_proved (by kernel_rfl) (of_decide_eq_true (by kernel_rfl)) h0 hb fun x hx => hlt x (by simp [hx])) (trodAll_cons_mk (Below.trod laidOut_proved (by kernel_rfl) (of_decide_eq_true (by kernel_rfl)) h1 hb fun x hx => hlt x (by simp [hx])) trodAll_mk0)

theorem proved_holds : Rows.MouldProvedSaid :=
  OpenClaim.holds_of_wide 6 Try.f6 rfl rfl rfl rfl rfl rfl rfl ⟨rfl, rfl, rfl, rfl, rfl⟩ rfl rfl rfl rfl rfl (by kernel_rfl) Try.func6 (by kernel_rfl)
    (of_decide_eq_true (by kernel_rfl)) (by unfold Func.isWrapper; first | (rw [if_pos (by decide +kernel)]; kernel_rfl) | (rw [if_neg (by decide +kernel)]; exact ⟨rfl, rfl⟩))
    (fun os started H enc _ => proved_lifted os started H enc)
end Go.Proofs.Ytbjgbgchagfokaa
