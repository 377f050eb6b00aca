/- The law AlloyEither answers true. Written by tools/laweither.py. -/
import Derived.Deep.RegionHeld3
import Derived.Deep.DeepCutAuto
import Derived.Deep.CutRange
import Derived.Test.YtehafggcncbnkaaGreatProg
import Derived.Test.YtehafggcncbnkaaGreatBasaa
import Derived.Test.YtehafggcncbnkaaGreatBasag
import Derived.Test.YtehafggcncbnkaaGreatBasad
import Derived.Test.YtehafggcncbnkaaGreatBasah
import Derived.Test.YtehafggcncbnkaaGreatBasao
import Derived.Test.YtehafggcncbnkaaGreatBasas
import Derived.Test.YtehafggcncbnkaaGreatBasau
import Derived.Test.YtehafggcncbnkaaGreatBasaq
import Derived.Test.YtehafggcncbnkaaGreatBasar
import Derived.Test.YtehafggcncbnkaaGreatBasan
namespace Go.Proofs.YtehafggcncbnkaaGreat
open Go Go.RowKit

set_option maxRecDepth 100000 in
theorem eqPrf (p : P4) (w : World) : (Op.equalIn 10000 45 (proofV p) (proofV p)).run Tryz.prog w = .ok true w := by
  rw [show (10000 : Nat) = 9999 + 1 from rfl]
  unfold Op.equalIn
  have e9 : ∀ (x y : Int) (w : World), (Op.equalIn 9999 2 (.int .i64 x) (.int .i64 y)).run Tryz.prog w = .ok (x == y) w := fun x y w => eq64 9998 x y w
  have p0 : ∀ (a b c d : Value) (w : World), (part 2 #[a, b, c, d] 0).run Tryz.prog w = .ok a w := fun _ _ _ _ _ => by kernel_rfl
  have p1 : ∀ (a b c d : Value) (w : World), (part 2 #[a, b, c, d] 1).run Tryz.prog w = .ok b w := fun _ _ _ _ _ => by kernel_rfl
  have p2 : ∀ (a b c d : Value) (w : World), (part 2 #[a, b, c, d] 2).run Tryz.prog w = .ok c w := fun _ _ _ _ _ => by kernel_rfl
  have p3 : ∀ (a b c d : Value) (w : World), (part 2 #[a, b, c, d] 3).run Tryz.prog w = .ok d w := fun _ _ _ _ _ => by kernel_rfl
  simp [run_underlying Tryz.underlying45]
  simp [p0, p1, p2, p3, e9]

/-- Where a mixture deserves the touch nothing proves that none does. -/
theorem never_not {n : Nat} {m : Nat → M5} {l c : Int} {s : Bool} (hb : bothE n m l c = 0) {f : Nat → Int} (hf : Low n m l c s f) (p : P4) : checkNeverE n m l c s p ≠ 0 := by
  intro h
  unfold checkNeverE at h
  rw [if_neg (by omega)] at h
  split at h
  · omega
  · rename_i h1
    split at h
    · omega
    · rename_i h2
      have hd : p.d = 0 := by
        by_cases h0 : p.d = 0
        · exact h0
        · exact absurd (.inl h0) h1
      have hp : isProofB p = true := by
        cases e : isProofB p with
        | true => rfl
        | false => exact absurd (.inr e) h1
      have hh : holdsB s m p n = true := by
        cases e : holdsB s m p n with
        | true => rfl
        | false => exact absurd (.inl e) h2
      have hv : 0 < valueR l c p := by
        rcases Int.lt_or_le 0 (valueR l c p) with h' | h'
        · exact h'
        · exact absurd (.inr h') h2
      obtain ⟨_, _, b3, _, b5, _⟩ := isProof_bd hp
      have hw := weak b3 b5 hh (fun i _ => (hf.mix.1 i).1) hf.good
      rw [hd] at hw
      have := Int.mul_pos hv hf.mix.2.2
      omega

theorem pot_empty {n : Nat} {m : Nat → M5} {s : Bool} {l c : Int} (h : bestS (cheapB n m s) (potL n m l c s) = none) : potL n m l c s = [] := bestS_none h
theorem pot_some {n : Nat} {m : Nat → M5} {s : Bool} {l c : Int} {f : Nat → Int} (h : bestS (cheapB n m s) (potL n m l c s) = some f) : (potL n m l c s).isEmpty = false := by
  cases e : potL n m l c s with
  | nil => rw [e] at h; cases h
  | cons x r => rfl

theorem low_small {n : Nat} {m : Nat → M5} {l c : Int} {s : Bool} (hF : Fine n m) {f : Nat → Int} (hf : Low n m l c s f) : smallB (costOf n m f).1 (costOf n m f).2 = true := by
  have h1 := price_bd hF (f := f) fun i _ => (hf.mix.1 i).1
  have h2 := (sumF_nn f 1000000 n fun i _ => hf.mix.1 i).2
  have h3 := hF.2.1
  exact small_rat hf.mix.2.2 (by omega) h1.1 h1.2

set_option maxRecDepth 100000 in
set_option maxHeartbeats 16000000 in
theorem law_either_c (a b : Option Addr) (n cap len cap2 : Nat) (m : Nat → M5) (g : Nat → Int) (l c : Int) (sure : Bool) (p : P4) (w : World) (hm : Metals w a n m) (hg : Shorts w b len g) (hgb : ∀ i, i < len → 0 ≤ g i ∧ g i ≤ 65535) :
    Calls Tryz.prog 8 #[.slice a n cap, .agg #[.int .i64 l, .int .i64 c], .bool sure, .slice b len cap2, proofV p] w fun e w' => e = .returned (.bool true) ∧ Below w.heap.size w w' := by
  obtain ⟨W, hW⟩ : ∃ W, (w.alloc (.cells #[.int .i64 l, .int .i64 c] 24)).alloc (.cells #[.int .i64 p.d, .int .i64 p.b, .int .i64 p.l, .int .i64 p.c] 45) = W := ⟨_, rfl⟩
  have hB : Below w.heap.size w W := by rw [← hW]; exact (Below.alloc1 (Below.alloc1 (Below.refl _ _) _ (Nat.le_refl _)) _ (Nat.le_refl _))
  have HT := Lib.hid (show RowIs W (w.heap.size) #[.int .i64 l, .int .i64 c] 24 by rw [← hW]; exact RowIs.alloc (heap_new_at _ _ _ rfl) _)
  have HP := Lib.hid (show RowIs W (w.heap.size + 1) (prfRow p) 45 by rw [← hW]; exact heap_new_at _ _ _ (by simp))
  have HM := Lib.hid (hm.below hB)
  obtain ⟨bt, hbt⟩ : ∃ bt, w.heap.size = bt := ⟨_, rfl⟩
  rw [hbt] at HT HP
  have HG := Lib.hid (hg.below hB)
  clear hm hg
  have HFi := Lib.hid (fine_c a n cap m l c W HM.out)
  by_cases hfine : n ≤ 12 ∧ bothE n m l c = 0
  case neg =>
    have hd : decide (n ≤ 12 ∧ bothE n m l c = 0) = false := decide_eq_false hfine
    rw [hd] at HFi
    obtain ⟨tc0, tc1, _, _, tz⟩ := ratrow2 HT.out
    obtain ⟨⟨pc0, pc1, pc2, pc3, pz⟩, _⟩ := qrow HP.out
    go_enter Tryz.func8, Tryz.ntmps8
    go_wp2_with fail
    refine HFi.out.mono ?_
    rintro e w1 ⟨rfl, hb1⟩
    go_wp2_with fail
    refine (works_c _).mono ?_
    rintro e wz ⟨rfl, hbz⟩
    go_wp2
    go_ret
    exact ⟨rfl, bup hB (bup hb1 hbz)⟩
  case pos =>
  have hd : decide (n ≤ 12 ∧ bothE n m l c = 0) = true := decide_eq_true hfine
  rw [hd] at HFi
  by_cases hl : len ≤ 20
  case neg =>
    have hlt0 : decide ((20 : Int) < (len : Int)) = true := by simp; omega
    obtain ⟨tc0, tc1, _, _, tz⟩ := ratrow2 HT.out
    obtain ⟨⟨pc0, pc1, pc2, pc3, pz⟩, _⟩ := qrow HP.out
    go_enter Tryz.func8, Tryz.ntmps8
    go_wp2_with fail
    refine HFi.out.mono ?_
    rintro e w1 ⟨rfl, hb1⟩
    go_wp2_with fail
    refine (works_c _).mono ?_
    rintro e wz ⟨rfl, hbz⟩
    go_wp2
    go_ret
    exact ⟨rfl, bup hB (bup hb1 hbz)⟩
  case pos =>
  have hlt0 : decide ((20 : Int) < (len : Int)) = false := by simp; omega
  have hbo := hfine.2
  have hmet := (both_ok hbo).1
  have hF := fine_of hmet
  have hn16 : 1 ≤ n ∧ n ≤ 6 := ⟨hF.1, hF.2.1⟩
  have hn12 : n ≤ 12 := by omega
  have hn : n ≤ 1048576 := by omega
  obtain ⟨A, hA⟩ : ∃ A, mixedF n len g = A := ⟨_, rfl⟩
  have hAb : ∀ i, 0 ≤ A i ∧ A i ≤ 65535 := by rw [← hA]; exact mixed_bd (by omega) hgb
  have hAp : 0 < sumF A n := by rw [← hA]; exact mixed_pos hn16.1 (by omega) hgb
  have hA6 : ∀ i, i < n → 0 ≤ A i ∧ A i ≤ 1000000 := fun i _ => by have := hAb i; omega
  have hAn : ∀ i, i < n → 0 ≤ A i := fun i _ => (hAb i).1
  have HD := Lib.hid (deserves_of (s := sure) hbo hA6 hAp)
  have Hgb := Lib.hid hgb
  have HAp := Lib.hid hAp
  have HAn := Lib.hid hAn
  clear hgb hAb hA6 hAp hAn
  have hcases := least_cases hbo sure
  rcases hcases with ⟨hL1, hbn, hnil⟩ | ⟨f, hbs, hL2, hlow⟩
  · have hemp : (potL n m l c sure).isEmpty = true := by rw [pot_empty hbn]; rfl
    have hNP := never_proved (s := sure) hbo (pot_empty hbn)
    have hL1 : leastR n m l c sure = ((0 : Int), (0 : Int), if (false : Bool) then (0 : Int) else 17) ∧ True := ⟨hL1, trivial⟩
    have HGD := Lib.hid (hnil A HAn.out HAp.out)
    obtain ⟨tc0, tc1, _, _, tz⟩ := ratrow2 HT.out
    obtain ⟨⟨pc0, pc1, pc2, pc3, pz⟩, _⟩ := qrow HP.out
    go_enter Tryz.func8, Tryz.ntmps8
    go_wp2_with fail
    refine HFi.out.mono ?_
    rintro e w1 ⟨rfl, hb1⟩
    clear tc0 tc1 tz pc0 pc1 pc2 pc3 pz hW hbt
    replace HM := Lib.hid (HM.out.below hb1)
    replace HT := Lib.hid (RowIs.below HT.out hb1)
    replace HP := Lib.hid (RowIs.below HP.out hb1)
    replace HG := Lib.hid (HG.out.below hb1)
    replace hB := bup hB hb1
    obtain ⟨tc0, tc1, _, _, tz⟩ := ratrow2 HT.out
    go_wp2_with fail
    clear hb1 tc0 tc1 tz
    have hC1 := lawLeast_c a n cap m l c sure false (0, 0) w1 HM.out hn12 hL1.1 rfl
    try dsimp only [re2, re3, proofV, zeroP] at hC1
    have C1 := Lib.hid hC1
    clear hC1
    refine C1.out.mono ?_
    rintro e w2 ⟨rfl, hw3⟩
    clear C1
    replace HM := Lib.hid (HM.out.below hw3)
    replace HT := Lib.hid (RowIs.below HT.out hw3)
    replace HP := Lib.hid (RowIs.below HP.out hw3)
    replace HG := Lib.hid (HG.out.below hw3)
    replace hB := bup hB hw3
    obtain ⟨Y4, hY4⟩ : ∃ Y4, w2.alloc (.cells #[.int .i64 0, .int .i64 0] 29) = Y4 := ⟨_, rfl⟩
    have hy5 : Below w2.heap.size w2 Y4 := by rw [← hY4]; exact Below.alloc1 (Below.refl _ _) _ (Nat.le_refl _)
    have zY4 : RowIs Y4 w2.heap.size #[.int .i64 0, .int .i64 0] 29 := by rw [← hY4]; exact heap_new_at _ _ _ rfl
    obtain ⟨yY40, yY41, yY42, yY43, yY44⟩ := ratrow2 zY4
    obtain ⟨Z6, hZ6⟩ : ∃ Z6, ((Y4.setCell ⟨w2.heap.size, 0, none⟩ (.int .i64 0)).setCell ⟨w2.heap.size, 1, none⟩ (.int .i64 0)) = Z6 := ⟨_, rfl⟩
    have hz7 : Below w2.heap.size w2 Z6 := hy5.trans (by rw [← hZ6]; exact (((Below.refl _ Y4).setCell (p := ⟨w2.heap.size, 0, none⟩) (Nat.le_refl _) _).setCell (p := ⟨w2.heap.size, 1, none⟩) (Nat.le_refl _) _))
    replace HM := Lib.hid (HM.out.below hz7)
    replace HT := Lib.hid (RowIs.below HT.out hz7)
    replace HP := Lib.hid (RowIs.below HP.out hz7)
    replace HG := Lib.hid (HG.out.below hz7)
    replace hB := bup hB hz7
    have RL := Lib.hid (show RowIs Z6 w2.heap.size #[.int .i64 0, .int .i64 0] 29 by rw [← hZ6]; exact put2_row zY4 0 0)
    have hC8 := Never_yes_c a n cap m l c sure Z6 HM.out hn hbo hemp hNP.1
    try dsimp only [re2, re3, proofV, zeroP] at hC8
    have C8 := Lib.hid hC8
    clear hC8
    obtain ⟨tc0, tc1, _, _, tz⟩ := ratrow2 HT.out
    obtain ⟨⟨pc0, pc1, pc2, pc3, pz⟩, _⟩ := qrow HP.out
    go_wp2_with fail
    clear hw3 hY4 hy5 zY4 yY40 yY41 yY42 yY43 yY44 hZ6 hz7 tc0 tc1 tz pc0 pc1 pc2 pc3 pz
    refine C8.out.mono ?_
    rintro e w9 ⟨L, hLL, rfl, hw10⟩
    clear C8
    replace HM := Lib.hid (HM.out.below hw10)
    replace HT := Lib.hid (RowIs.below HT.out hw10)
    replace HP := Lib.hid (RowIs.below HP.out hw10)
    replace HG := Lib.hid (HG.out.below hw10)
    replace RL := Lib.hid (RowIs.below RL.out hw10)
    replace hB := bup hB hw10
    obtain ⟨q, hq⟩ : ∃ q, bestP (neverLt l c) L = q := ⟨_, rfl⟩
    have HN0 := Lib.hid (show checkNeverE n m l c sure q = 0 by rw [← hq]; exact hNP.2 L hLL)
    rw [hq]
    clear hq hLL
    obtain ⟨Y11, hY11⟩ : ∃ Y11, w9.alloc (.cells #[.int .i64 q.d, .int .i64 q.b, .int .i64 q.l, .int .i64 q.c] 45) = Y11 := ⟨_, rfl⟩
    have hy12 : Below w9.heap.size w9 Y11 := by rw [← hY11]; exact Below.alloc1 (Below.refl _ _) _ (Nat.le_refl _)
    replace HM := Lib.hid (HM.out.below hy12)
    replace HT := Lib.hid (RowIs.below HT.out hy12)
    replace HP := Lib.hid (RowIs.below HP.out hy12)
    replace HG := Lib.hid (HG.out.below hy12)
    replace RL := Lib.hid (RowIs.below RL.out hy12)
    replace hB := bup hB hy12
    have RQ := Lib.hid (show RowIs Y11 w9.heap.size #[.int .i64 q.d, .int .i64 q.b, .int .i64 q.l, .int .i64 q.c] 45 by rw [← hY11]; exact heap_new_at _ _ _ rfl)
    obtain ⟨bRQ, hbRQ⟩ : ∃ bRQ, w9.heap.size = bRQ := ⟨_, rfl⟩
    rw [hbRQ] at RQ
    replace RQ := Lib.hid (show RowIs Y11 bRQ (prfRow q) 45 from RQ.out)
    have hC13 := CheckNever_c a n cap m l c sure p Y11 HM.out hn
    try dsimp only [re2, re3, proofV, zeroP] at hC13
    have C13 := Lib.hid hC13
    clear hC13
    obtain ⟨tc0, tc1, _, _, tz⟩ := ratrow2 HT.out
    obtain ⟨⟨pc0, pc1, pc2, pc3, pz⟩, _⟩ := qrow HP.out
    go_wp2_with fail
    clear hw10 hbRQ hY11 hy12 tc0 tc1 tz pc0 pc1 pc2 pc3 pz
    refine C13.out.mono ?_
    rintro e w14 ⟨rfl, hw15⟩
    clear C13
    replace HM := Lib.hid (HM.out.below hw15)
    replace HT := Lib.hid (RowIs.below HT.out hw15)
    replace HP := Lib.hid (RowIs.below HP.out hw15)
    replace HG := Lib.hid (HG.out.below hw15)
    replace RL := Lib.hid (RowIs.below RL.out hw15)
    replace RQ := Lib.hid (RowIs.below RQ.out hw15)
    replace hB := bup hB hw15
    obtain ⟨tc0, tc1, _, _, tz⟩ := ratrow2 HT.out
    obtain ⟨⟨pc0, pc1, pc2, pc3, pz⟩, _⟩ := qrow HP.out
    go_wp2_with fail
    clear hw15 tc0 tc1 tz pc0 pc1 pc2 pc3 pz
    have HMX := Lib.hid (fun (x : World) (hx : Below w14.heap.size w14 x) => mixed_c b n len cap2 g x (HG.out.below hx) hn16 hl Hgb.out)
    simp only [hA] at HMX
    have HMM := Lib.hid (fun (x : World) (hx : Below w14.heap.size w14 x) => HM.out.below hx)
    obtain ⟨tc0, tc1, _, _, tz⟩ := ratrow2 HT.out
    go_cut [17] from 48 to 55 (fun e wx => e = .int .i64 17 ∧ Below w14.heap.size w14 wx)
    case first =>
      go_region_held3 (fun w' => w'.cell? ⟨bt, 0, none⟩ = some (.int .i64 l) ∧ w'.cell? ⟨bt, 1, none⟩ = some (.int .i64 c))
        (first | (go_split_ands; refine ⟨?_, ?_⟩ <;> first | assumption | (go_keep; done)) | go_keep)
        ((first
          | (go_at_call 43; refine Calls.mono (HMX.out _ ?_) ?_; (with_reducible repeat (first | exact Below.refl _ _ | assumption | refine bup ?_ (by assumption) | refine Below.drew ?_)); rintro e wm ⟨gA, cA, gl, gz, rfl, hIA, hbm⟩; have t0 : wm.cell? ⟨bt, 0, none⟩ = some (.int .i64 l) := (by (try go_split_ands); rw [hbm.cell (by first | assumption | (simp; omega))]; assumption); have t1 : wm.cell? ⟨bt, 1, none⟩ = some (.int .i64 c) := (by (try go_split_ands); rw [hbm.cell (by first | assumption | (simp; omega))]; assumption); have tqwm : bt < wm.heap.size := Nat.lt_of_lt_of_le (by first | assumption | (simp; omega)) hbm.size)
          | (go_at_call 27; refine Calls.mono (Deserves_c a (some ⟨gA, 0, none⟩) n cap n cA m A l c sure _ (HMM.out _ ?_) (Cells.below hIA ?_) hn hn) ?_; (with_reducible repeat (first | exact Below.refl _ _ | assumption | refine bup ?_ (by assumption) | refine Below.drew ?_)); (with_reducible repeat (first | exact Below.refl _ _ | assumption | refine bup ?_ (by assumption) | refine Below.drew ?_)); rintro e wq ⟨rfl, hbq⟩; have t0 : wq.cell? ⟨bt, 0, none⟩ = some (.int .i64 l) := (by (try go_split_ands); rw [hbq.cell (by first | assumption | (simp; omega))]; assumption); have t1 : wq.cell? ⟨bt, 1, none⟩ = some (.int .i64 c) := (by (try go_split_ands); rw [hbq.cell (by first | assumption | (simp; omega))]; assumption); have tqwq : bt < wq.heap.size := Nat.lt_of_lt_of_le (by first | assumption | (simp; omega)) hbq.size)
          | fail))
      all_goals (go_wp2_with fail; go_meet; refine ⟨by simp [HD.out, HGD.out], ?_⟩; (with_reducible repeat (first | exact Below.refl _ _ | assumption | refine bup ?_ (by assumption) | refine Below.drew ?_)))
    case rest =>
    obtain ⟨rfl, hcb⟩ := hcut
    clear HMX HMM tc0 tc1 tz
    obtain ⟨w16, hww⟩ : ∃ x, x = wc := ⟨_, rfl⟩
    subst hww
    replace HM := Lib.hid (HM.out.below hcb)
    replace HT := Lib.hid (RowIs.below HT.out hcb)
    replace HP := Lib.hid (RowIs.below HP.out hcb)
    replace HG := Lib.hid (HG.out.below hcb)
    replace RL := Lib.hid (RowIs.below RL.out hcb)
    replace RQ := Lib.hid (RowIs.below RQ.out hcb)
    replace hB := bup hB hcb
    have hC17 := rcheckNever_c a n cap m l c sure p w16 HM.out hn
    try dsimp only [re2, re3, proofV, zeroP] at hC17
    have C17 := Lib.hid hC17
    clear hC17
    obtain ⟨tc0, tc1, _, _, tz⟩ := ratrow2 HT.out
    obtain ⟨⟨pc0, pc1, pc2, pc3, pz⟩, _⟩ := qrow HP.out
    go_wp2_with fail
    clear hcb tc0 tc1 tz pc0 pc1 pc2 pc3 pz
    refine C17.out.mono ?_
    rintro e w18 ⟨rfl, hw19⟩
    clear C17
    replace HM := Lib.hid (HM.out.below hw19)
    replace HT := Lib.hid (RowIs.below HT.out hw19)
    replace HP := Lib.hid (RowIs.below HP.out hw19)
    replace HG := Lib.hid (HG.out.below hw19)
    replace RL := Lib.hid (RowIs.below RL.out hw19)
    replace RQ := Lib.hid (RowIs.below RQ.out hw19)
    replace hB := bup hB hw19
    have hC20 := CheckNever_c a n cap m l c sure q w18 HM.out hn
    rw [HN0.out] at hC20
    try dsimp only [re2, re3, proofV, zeroP] at hC20
    have C20 := Lib.hid hC20
    clear hC20
    obtain ⟨tc0, tc1, _, _, tz⟩ := ratrow2 HT.out
    obtain ⟨⟨qc0, qc1, qc2, qc3, qz⟩, _⟩ := qrow RQ.out
    go_wp2_with fail
    clear hw19 tc0 tc1 tz qc0 qc1 qc2 qc3 qz
    refine C20.out.mono ?_
    rintro e w21 ⟨rfl, hw22⟩
    clear C20
    replace HM := Lib.hid (HM.out.below hw22)
    replace HT := Lib.hid (RowIs.below HT.out hw22)
    replace HP := Lib.hid (RowIs.below HP.out hw22)
    replace HG := Lib.hid (HG.out.below hw22)
    replace RL := Lib.hid (RowIs.below RL.out hw22)
    replace RQ := Lib.hid (RowIs.below RQ.out hw22)
    replace hB := bup hB hw22
    have hC23 := rcheckNever_c a n cap m l c sure q w21 HM.out hn
    rw [HN0.out] at hC23
    try dsimp only [re2, re3, proofV, zeroP] at hC23
    have C23 := Lib.hid hC23
    clear hC23
    obtain ⟨tc0, tc1, _, _, tz⟩ := ratrow2 HT.out
    obtain ⟨⟨qc0, qc1, qc2, qc3, qz⟩, _⟩ := qrow RQ.out
    go_wp2_with fail
    clear hw22 tc0 tc1 tz qc0 qc1 qc2 qc3 qz
    refine C23.out.mono ?_
    rintro e w24 ⟨rfl, hw25⟩
    clear C23
    replace HM := Lib.hid (HM.out.below hw25)
    replace HT := Lib.hid (RowIs.below HT.out hw25)
    replace HP := Lib.hid (RowIs.below HP.out hw25)
    replace HG := Lib.hid (HG.out.below hw25)
    replace RL := Lib.hid (RowIs.below RL.out hw25)
    replace RQ := Lib.hid (RowIs.below RQ.out hw25)
    replace hB := bup hB hw25
    go_wp2_with fail
    refine (works_c _).mono ?_
    rintro e wz ⟨rfl, hbz⟩
    go_wp2
    go_ret
    exact ⟨rfl, bup hB hbz⟩
  · have hL2 : leastR n m l c sure = ((costOf n m f).1, (costOf n m f).2, if (true : Bool) then (0 : Int) else 17) ∧ Low n m l c sure f := ⟨hL2, hlow⟩
    have hne5 : neverE n m l c sure = 5 := by unfold neverE; rw [if_neg (by omega), pot_some hbs]; rfl
    obtain ⟨dv, hdv⟩ : ∃ d : Int, (if goodB sure n m l c A then (0 : Int) else 17) = d := ⟨_, rfl⟩
    rw [hdv] at HD
    have HGD := Lib.hid (show True from trivial)
    obtain ⟨tc0, tc1, _, _, tz⟩ := ratrow2 HT.out
    obtain ⟨⟨pc0, pc1, pc2, pc3, pz⟩, _⟩ := qrow HP.out
    go_enter Tryz.func8, Tryz.ntmps8
    go_wp2_with fail
    refine HFi.out.mono ?_
    rintro e w1 ⟨rfl, hb1⟩
    clear tc0 tc1 tz pc0 pc1 pc2 pc3 pz hW hbt
    replace HM := Lib.hid (HM.out.below hb1)
    replace HT := Lib.hid (RowIs.below HT.out hb1)
    replace HP := Lib.hid (RowIs.below HP.out hb1)
    replace HG := Lib.hid (HG.out.below hb1)
    replace hB := bup hB hb1
    obtain ⟨tc0, tc1, _, _, tz⟩ := ratrow2 HT.out
    go_wp2_with fail
    clear hb1 tc0 tc1 tz
    have hC26 := lawLeast_c a n cap m l c sure true (costOf n m f) w1 HM.out hn12 hL2.1 (low_small hF hL2.2)
    try dsimp only [re2, re3, proofV, zeroP] at hC26
    have C26 := Lib.hid hC26
    clear hC26
    refine C26.out.mono ?_
    rintro e w27 ⟨rfl, hw28⟩
    clear C26
    replace HM := Lib.hid (HM.out.below hw28)
    replace HT := Lib.hid (RowIs.below HT.out hw28)
    replace HP := Lib.hid (RowIs.below HP.out hw28)
    replace HG := Lib.hid (HG.out.below hw28)
    replace hB := bup hB hw28
    obtain ⟨x1, hx1⟩ : ∃ x, (costOf n m f).1 = x := ⟨_, rfl⟩
    obtain ⟨x2, hx2⟩ : ∃ x, (costOf n m f).2 = x := ⟨_, rfl⟩
    simp only [leastV]
    obtain ⟨Y29, hY29⟩ : ∃ Y29, w27.alloc (.cells #[.int .i64 x1, .int .i64 x2] 29) = Y29 := ⟨_, rfl⟩
    have hy30 : Below w27.heap.size w27 Y29 := by rw [← hY29]; exact Below.alloc1 (Below.refl _ _) _ (Nat.le_refl _)
    replace HM := Lib.hid (HM.out.below hy30)
    replace HT := Lib.hid (RowIs.below HT.out hy30)
    replace HP := Lib.hid (RowIs.below HP.out hy30)
    replace HG := Lib.hid (HG.out.below hy30)
    replace hB := bup hB hy30
    have RL := Lib.hid (show RowIs Y29 w27.heap.size #[.int .i64 x1, .int .i64 x2] 29 by rw [← hY29]; exact heap_new_at _ _ _ rfl)
    obtain ⟨bRL, hbRL⟩ : ∃ bRL, w27.heap.size = bRL := ⟨_, rfl⟩
    rw [hbRL] at RL
    have hC31 := Never_no_c a n cap m l c sure Y29 HM.out hn (by rw [hne5]; decide)
    rw [hne5] at hC31
    try dsimp only [re2, re3, proofV, zeroP] at hC31
    have C31 := Lib.hid hC31
    clear hC31
    obtain ⟨tc0, tc1, _, _, tz⟩ := ratrow2 HT.out
    obtain ⟨⟨pc0, pc1, pc2, pc3, pz⟩, _⟩ := qrow HP.out
    go_wp2_with fail
    clear hw28 hx1 hx2 hbRL hY29 hy30 tc0 tc1 tz pc0 pc1 pc2 pc3 pz
    refine C31.out.mono ?_
    rintro e w32 ⟨rfl, hw33⟩
    clear C31
    replace HM := Lib.hid (HM.out.below hw33)
    replace HT := Lib.hid (RowIs.below HT.out hw33)
    replace HP := Lib.hid (RowIs.below HP.out hw33)
    replace HG := Lib.hid (HG.out.below hw33)
    replace RL := Lib.hid (RowIs.below RL.out hw33)
    replace hB := bup hB hw33
    obtain ⟨Y34, hY34⟩ : ∃ Y34, w32.alloc (.cells #[.int .i64 0, .int .i64 0, .int .i64 0, .int .i64 0] 45) = Y34 := ⟨_, rfl⟩
    have hy35 : Below w32.heap.size w32 Y34 := by rw [← hY34]; exact Below.alloc1 (Below.refl _ _) _ (Nat.le_refl _)
    have zY34 : RowIs Y34 w32.heap.size #[.int .i64 0, .int .i64 0, .int .i64 0, .int .i64 0] 45 := by rw [← hY34]; exact heap_new_at _ _ _ rfl
    obtain ⟨⟨yY340, yY341, yY342, yY343, yY348⟩, yY344, yY345, yY346, yY347⟩ := qrow (p := zeroP) zY34
    obtain ⟨Z36, hZ36⟩ : ∃ Z36, ((((Y34.setCell ⟨w32.heap.size, 0, none⟩ (.int .i64 0)).setCell ⟨w32.heap.size, 1, none⟩ (.int .i64 0)).setCell ⟨w32.heap.size, 2, none⟩ (.int .i64 0)).setCell ⟨w32.heap.size, 3, none⟩ (.int .i64 0)) = Z36 := ⟨_, rfl⟩
    have hz37 : Below w32.heap.size w32 Z36 := hy35.trans (by rw [← hZ36]; exact (((((Below.refl _ Y34).setCell (p := ⟨w32.heap.size, 0, none⟩) (Nat.le_refl _) _).setCell (p := ⟨w32.heap.size, 1, none⟩) (Nat.le_refl _) _).setCell (p := ⟨w32.heap.size, 2, none⟩) (Nat.le_refl _) _).setCell (p := ⟨w32.heap.size, 3, none⟩) (Nat.le_refl _) _))
    replace HM := Lib.hid (HM.out.below hz37)
    replace HT := Lib.hid (RowIs.below HT.out hz37)
    replace HP := Lib.hid (RowIs.below HP.out hz37)
    replace HG := Lib.hid (HG.out.below hz37)
    replace RL := Lib.hid (RowIs.below RL.out hz37)
    replace hB := bup hB hz37
    have RQ := Lib.hid (show RowIs Z36 w32.heap.size (prfRow zeroP) 45 by rw [← hZ36]; exact put4_row (show RowIs Y34 w32.heap.size (prfRow zeroP) 45 from zY34) zeroP)
    have hC38 := CheckNever_c a n cap m l c sure p Z36 HM.out hn
    try dsimp only [re2, re3, proofV, zeroP] at hC38
    have C38 := Lib.hid hC38
    clear hC38
    obtain ⟨tc0, tc1, _, _, tz⟩ := ratrow2 HT.out
    obtain ⟨⟨pc0, pc1, pc2, pc3, pz⟩, _⟩ := qrow HP.out
    go_wp2_with fail
    clear hw33 hY34 hy35 zY34 yY340 yY341 yY342 yY343 yY344 yY345 yY346 yY347 yY348 hZ36 hz37 tc0 tc1 tz pc0 pc1 pc2 pc3 pz
    refine C38.out.mono ?_
    rintro e w39 ⟨rfl, hw40⟩
    clear C38
    replace HM := Lib.hid (HM.out.below hw40)
    replace HT := Lib.hid (RowIs.below HT.out hw40)
    replace HP := Lib.hid (RowIs.below HP.out hw40)
    replace HG := Lib.hid (HG.out.below hw40)
    replace RL := Lib.hid (RowIs.below RL.out hw40)
    replace RQ := Lib.hid (RowIs.below RQ.out hw40)
    replace hB := bup hB hw40
    obtain ⟨tc0, tc1, _, _, tz⟩ := ratrow2 HT.out
    obtain ⟨⟨pc0, pc1, pc2, pc3, pz⟩, _⟩ := qrow HP.out
    go_wp2_with fail
    clear hw40 tc0 tc1 tz pc0 pc1 pc2 pc3 pz
    have HMX := Lib.hid (fun (x : World) (hx : Below w39.heap.size w39 x) => mixed_c b n len cap2 g x (HG.out.below hx) hn16 hl Hgb.out)
    simp only [hA] at HMX
    have HMM := Lib.hid (fun (x : World) (hx : Below w39.heap.size w39 x) => HM.out.below hx)
    obtain ⟨tc0, tc1, _, _, tz⟩ := ratrow2 HT.out
    go_cut [17] from 48 to 55 (fun e wx => e = .int .i64 dv ∧ Below w39.heap.size w39 wx)
    case first =>
      go_region_held3 (fun w' => w'.cell? ⟨bt, 0, none⟩ = some (.int .i64 l) ∧ w'.cell? ⟨bt, 1, none⟩ = some (.int .i64 c))
        (first | (go_split_ands; refine ⟨?_, ?_⟩ <;> first | assumption | (go_keep; done)) | go_keep)
        ((first
          | (go_at_call 43; refine Calls.mono (HMX.out _ ?_) ?_; (with_reducible repeat (first | exact Below.refl _ _ | assumption | refine bup ?_ (by assumption) | refine Below.drew ?_)); rintro e wm ⟨gA, cA, gl, gz, rfl, hIA, hbm⟩; have t0 : wm.cell? ⟨bt, 0, none⟩ = some (.int .i64 l) := (by (try go_split_ands); rw [hbm.cell (by first | assumption | (simp; omega))]; assumption); have t1 : wm.cell? ⟨bt, 1, none⟩ = some (.int .i64 c) := (by (try go_split_ands); rw [hbm.cell (by first | assumption | (simp; omega))]; assumption); have tqwm : bt < wm.heap.size := Nat.lt_of_lt_of_le (by first | assumption | (simp; omega)) hbm.size)
          | (go_at_call 27; refine Calls.mono (Deserves_c a (some ⟨gA, 0, none⟩) n cap n cA m A l c sure _ (HMM.out _ ?_) (Cells.below hIA ?_) hn hn) ?_; (with_reducible repeat (first | exact Below.refl _ _ | assumption | refine bup ?_ (by assumption) | refine Below.drew ?_)); (with_reducible repeat (first | exact Below.refl _ _ | assumption | refine bup ?_ (by assumption) | refine Below.drew ?_)); rintro e wq ⟨rfl, hbq⟩; have t0 : wq.cell? ⟨bt, 0, none⟩ = some (.int .i64 l) := (by (try go_split_ands); rw [hbq.cell (by first | assumption | (simp; omega))]; assumption); have t1 : wq.cell? ⟨bt, 1, none⟩ = some (.int .i64 c) := (by (try go_split_ands); rw [hbq.cell (by first | assumption | (simp; omega))]; assumption); have tqwq : bt < wq.heap.size := Nat.lt_of_lt_of_le (by first | assumption | (simp; omega)) hbq.size)
          | fail))
      all_goals (go_wp2_with fail; go_meet; refine ⟨by simp [HD.out], ?_⟩; (with_reducible repeat (first | exact Below.refl _ _ | assumption | refine bup ?_ (by assumption) | refine Below.drew ?_)))
    case rest =>
    obtain ⟨rfl, hcb⟩ := hcut
    clear HMX HMM tc0 tc1 tz
    obtain ⟨w41, hww⟩ : ∃ x, x = wc := ⟨_, rfl⟩
    subst hww
    replace HM := Lib.hid (HM.out.below hcb)
    replace HT := Lib.hid (RowIs.below HT.out hcb)
    replace HP := Lib.hid (RowIs.below HP.out hcb)
    replace HG := Lib.hid (HG.out.below hcb)
    replace RL := Lib.hid (RowIs.below RL.out hcb)
    replace RQ := Lib.hid (RowIs.below RQ.out hcb)
    replace hB := bup hB hcb
    have hcn : (checkNeverE n m l c sure p != 0) = true := by simpa using never_not hbo hL2.2 p
    have hC42 := rcheckNever_c a n cap m l c sure p w41 HM.out hn
    try dsimp only [re2, re3, proofV, zeroP] at hC42
    have C42 := Lib.hid hC42
    clear hC42
    obtain ⟨tc0, tc1, _, _, tz⟩ := ratrow2 HT.out
    obtain ⟨⟨pc0, pc1, pc2, pc3, pz⟩, _⟩ := qrow HP.out
    go_wp2_with fail
    clear hcb tc0 tc1 tz pc0 pc1 pc2 pc3 pz
    refine C42.out.mono ?_
    rintro e w43 ⟨rfl, hw44⟩
    clear C42
    replace HM := Lib.hid (HM.out.below hw44)
    replace HT := Lib.hid (RowIs.below HT.out hw44)
    replace HP := Lib.hid (RowIs.below HP.out hw44)
    replace HG := Lib.hid (HG.out.below hw44)
    replace RL := Lib.hid (RowIs.below RL.out hw44)
    replace RQ := Lib.hid (RowIs.below RQ.out hw44)
    replace hB := bup hB hw44
    obtain ⟨⟨qc0, qc1, qc2, qc3, qz⟩, _⟩ := qrow (p := zeroP) RQ.out
    have heq := fun (w : World) => eqPrf zeroP w
    go_wp2_with fail
    refine (works_c _).mono ?_
    rintro e wz ⟨rfl, hbz⟩
    go_wp2
    go_ret
    exact ⟨rfl, bup hB hbz⟩

end Go.Proofs.YtehafggcncbnkaaGreat
